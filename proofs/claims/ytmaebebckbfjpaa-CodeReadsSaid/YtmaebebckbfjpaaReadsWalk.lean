/-
  The law CodeReads walked.
-/
import Derived.Test.YtmaebebckbfjpaaRTake
import Derived.Test.YtmaebebckbfjpaaLives
import Derived.Deep.RegionHeld3
import Derived.Deep.DeepCutAuto
import Derived.Deep.LoopGhost
namespace Go.Proofs.Ytmaebebckbfjpaa.codeReads
open Go.RowKit law bytes nums same code
set_option linter.unusedVariables false

theorem bcell {W w1 : World} (hb : Below W.heap.size W w1) : (∀ b o, b < W.heap.size → w1.cell? ⟨b, o, none⟩ = W.cell? ⟨b, o, none⟩) ∧ (∀ b o, b < W.heap.size → w1.frozen? ⟨b, o, none⟩ = W.frozen? ⟨b, o, none⟩) :=
  ⟨fun b o h => hb.cell (p := ⟨b, o, none⟩) h, fun b o h => hb.frozen (p := ⟨b, o, none⟩) h⟩
/-- the document's reader, a variable of the law's -/
def Var (w0 wr : World) (bs : Nat) (s : St) : Prop := ∃ A c, Blk wr bs 35 #[.slice A s.b.length c, .int .i64 s.e] ∧ s.b.length ≤ c ∧ Sl wr w0.heap.size A (bv s.b)
def state (b : List UInt8) (l : List Part) (k : Nat) : St := (takes ⟨b, 0⟩ (l.take k)).2
theorem state_next (b : List UInt8) (l : List Part) (k : Nat) (h : k < l.length) : state b l (k + 1) = (takeP (state b l k) l[k]).2 := by unfold state; rw [takes_snoc _ _ _ h]
theorem state_len (b : List UInt8) (l : List Part) (k : Nat) (h : k ≤ l.length) : (state b l k).b.length ≤ b.length := by
  have h := (takes_all ⟨b, 0⟩ l k h).2.2.2.2
  unfold state
  simp only at h
  omega
theorem below_any {wr W w2 : World} (h1 : Below wr.heap.size wr W) (h2 : Below W.heap.size W w2) : Below wr.heap.size wr w2 := h1.trans (h2.mono h1.size)
theorem blk_snd (wr : World) (t : Nat) (cs : Array Value) {o : Obj} : Blk ((wr.alloc o).alloc (.cells cs t)).drew (wr.heap.size + 1) t cs := by
  have h := Blk.new (wr.alloc o) t cs
  rwa [show (wr.alloc o).heap.size = wr.heap.size + 1 from by simp] at h
theorem blk_80 (wr : World) : Blk (wr.alloc (.cells #[.int .i64 0, .int .u64 0, .int .i64 0, .bool false, .string ⟨#[]⟩, .int .i64 0, .int .i64 0, .int .i64 0] 38)).drew wr.heap.size 38 #[.int .i64 0, .int .u64 0, .int .i64 0, .bool false, .string ⟨#[]⟩, .int .i64 0, .int .i64 0, .int .i64 0] := Blk.new wr _ _
theorem blk_20 (wr : World) : Blk (wr.alloc (.cells #[.slice none 0 0, .int .i64 0] 35)).drew wr.heap.size 35 #[.slice none 0 0, .int .i64 0] := Blk.new wr _ _
theorem blk_820 (wr : World) : Blk ((wr.alloc (.cells #[.int .i64 0, .int .u64 0, .int .i64 0, .bool false, .string ⟨#[]⟩, .int .i64 0, .int .i64 0, .int .i64 0] 38)).alloc (.cells #[.slice none 0 0, .int .i64 0] 35)).drew wr.heap.size 38 #[.int .i64 0, .int .u64 0, .int .i64 0, .bool false, .string ⟨#[]⟩, .int .i64 0, .int .i64 0, .int .i64 0] := (Blk.new wr _ _).alloc _
theorem blk_821 (wr : World) : Blk ((wr.alloc (.cells #[.int .i64 0, .int .u64 0, .int .i64 0, .bool false, .string ⟨#[]⟩, .int .i64 0, .int .i64 0, .int .i64 0] 38)).alloc (.cells #[.slice none 0 0, .int .i64 0] 35)).drew (wr.heap.size + 1) 35 #[.slice none 0 0, .int .i64 0] := blk_snd wr _ _
theorem blk_280 (wr : World) : Blk ((wr.alloc (.cells #[.slice none 0 0, .int .i64 0] 35)).alloc (.cells #[.int .i64 0, .int .u64 0, .int .i64 0, .bool false, .string ⟨#[]⟩, .int .i64 0, .int .i64 0, .int .i64 0] 38)).drew wr.heap.size 35 #[.slice none 0 0, .int .i64 0] := (Blk.new wr _ _).alloc _
theorem blk_281 (wr : World) : Blk ((wr.alloc (.cells #[.slice none 0 0, .int .i64 0] 35)).alloc (.cells #[.int .i64 0, .int .u64 0, .int .i64 0, .bool false, .string ⟨#[]⟩, .int .i64 0, .int .i64 0, .int .i64 0] 38)).drew (wr.heap.size + 1) 38 #[.int .i64 0, .int .u64 0, .int .i64 0, .bool false, .string ⟨#[]⟩, .int .i64 0, .int .i64 0, .int .i64 0] := blk_snd wr _ _
theorem below_al {w V : World} (h : Below w.heap.size w V) (o : Obj) : Below w.heap.size w (V.alloc o) := h.alloc h.size o
/-- what the law has got of the document's own reader: a part, and a reader, each a variable of the law's -/
def Got (w wr : World) (st : St) (q : Part) (x8 x9 : Value) (wx : World) : Prop :=
  ∃ (p8 p9 : Nat) (A : Option Addr) (c : Nat), x8 = .pointer (some ⟨p8, 0, none⟩) ∧ x9 = .pointer (some ⟨p9, 0, none⟩) ∧ wr.heap.size ≤ p8 ∧ wr.heap.size ≤ p9 ∧
    Blk wx p8 38 #[.int .i64 q.kind, .int .u64 q.n, .int .i64 q.i, .bool q.f, .string q.t, .int .i64 q.low, .int .i64 q.high, .int .i64 q.most] ∧
    Blk wx p9 35 #[.slice A st.b.length c, .int .i64 st.e] ∧ st.b.length ≤ c ∧ Sl wr w.heap.size A (bv st.b) ∧ Below wr.heap.size wr wx
theorem Blk.far' {w : World} {g b i t : Nat} {cs : Array Value} (h : Blk w g t cs) (hne : g ≠ b) (u : Value) : Blk (w.setCell ⟨b, i, none⟩ u) g t cs := h.far (p := ⟨b, i, none⟩) hne u
theorem Blk.undrew {w : World} {g t : Nat} {cs : Array Value} (h : Blk w g t cs) : Blk w.drew g t cs := h.keep rfl
theorem blk_new2 (w : World) (o : Obj) (t : Nat) (cs : Array Value) : Blk ((w.alloc o).alloc (.cells cs t)) (w.heap.size + 1) t cs := by
  have h := Blk.new (w.alloc o) t cs
  rwa [show (w.alloc o).heap.size = w.heap.size + 1 from by simp] at h
theorem blk2 {w : World} {b t : Nat} {x0 x1 : Value} (h : Blk w b t #[x0, x1]) (u0 u1 : Value) : Blk ((w.setCell ⟨b, 0, none⟩ u0).setCell ⟨b, 1, none⟩ u1) b t #[u0, u1] := by
  simpa using (h.set_ 0 u0).set_ 1 u1
theorem blk8 {w : World} {b t : Nat} {x0 x1 x2 x3 x4 x5 x6 x7 : Value} (h : Blk w b t #[x0, x1, x2, x3, x4, x5, x6, x7]) (u0 u1 u2 u3 u4 u5 u6 u7 : Value) :
    Blk ((((((((w.setCell ⟨b, 0, none⟩ u0).setCell ⟨b, 1, none⟩ u1).setCell ⟨b, 2, none⟩ u2).setCell ⟨b, 3, none⟩ u3).setCell ⟨b, 4, none⟩ u4).setCell ⟨b, 5, none⟩ u5).setCell ⟨b, 6, none⟩ u6).setCell ⟨b, 7, none⟩ u7) b t #[u0, u1, u2, u3, u4, u5, u6, u7] := by
  simpa using (((((((h.set_ 0 u0).set_ 1 u1).set_ 2 u2).set_ 3 u3).set_ 4 u4).set_ 5 u5).set_ 6 u6).set_ 7 u7
theorem only_drew {a w : World} {row : Option Nat} (h : a.grownBy w row) : a.grownBy w.drew row := ⟨h.os, h.tape, h.output, h.size, h.block⟩
theorem only_of_below' {a w : World} {row : Option Nat} (h : Below a.heap.size a w) : a.grownBy w row := ⟨h.os, h.tape, h.output, h.size, fun i hi _ => h.block i hi⟩
theorem two_alloc (w : World) (q : Addr) (o1 o2 : Obj) (h : q.block < w.heap.size) : ((w.alloc o1).alloc o2).cell? q = w.cell? q := by
  rw [World.cell?_alloc_lt (w.alloc o1) o2 q (by simp; omega), World.cell?_alloc_lt w o1 q h]
/-- where the law stands ahead of part k -/
def At (w wr : World) (g bs : Nat) (s : St) : Prop := w.heap.size ≤ g ∧ g < bs ∧ Rd wr g s ∧ Var w wr bs s ∧ Below w.heap.size w wr

set_option maxHeartbeats 1600000 in
theorem walk (A0 A : Option Addr) (b : List UInt8) (l : List Part) (c0 c : Nat) (w : World) (hs0 : Sl w w.heap.size A0 (bv b)) (hb0 : b.length ≤ 140737488351232) (hc0 : b.length ≤ c0) (hs : Sl w w.heap.size A (pcl l)) (hfit : ∀ q ∈ l, -9223372036854775808 ≤ q.most ∧ q.most ≤ 9223372036854775807) (hll : l.length ≤ 140737488355328) :
    Calls Try.prog 4 #[.slice A0 b.length c0, .slice A l.length c] w fun e w' => e = .returned (.bool true) ∧ Below w.heap.size w w' := by
  have hsl : ∀ k, k ≤ l.length → (state b l k).b.length ≤ 140737488351232 := fun k hk => Nat.le_trans (state_len b l k hk) hb0
  have HSL := Lib.hid hsl
  have HFIT := Lib.hid hfit
  clear hsl hfit
  go_enter Try.func4, Try.ntmps4
  go_wp2_with (fail)
  refine (newr_any A0 b _ c0 w.heap.size w rfl (by omega) (Nat.le_refl _) hs0).mono ?_
  rintro e w1 ⟨g, rfl, hg, hr1, hb1⟩
  have hgl := hr1.lt
  have hat : At w (w1.alloc (.cells #[.slice A0 b.length c0, .int .i64 0] 35)) g w1.heap.size (state b l 0) :=
    ⟨hg, hgl, hr1.alloc _, ⟨A0, c0, Blk.new w1 _ _, hc0, (hs0.below hb1).alloc hb1.size _⟩, hb1.alloc hb1.size _⟩
  obtain ⟨bs, hbs⟩ : ∃ bs, bs = w1.heap.size := ⟨_, rfl⟩
  rw [← hbs] at hat
  go_wp2_with (fail)
  rw [← hbs]
  clear hbs hr1 hb1 hgl
  go_loopg [7] l.length (fun gk i wr => ∃ k : Nat, k ≤ l.length ∧ gk = l.length - k ∧ i = .int .i64 k ∧ At w wr g bs (state b l k))
  case atStart => exact ⟨0, Nat.zero_le _, rfl, rfl, hat⟩
  case round =>
    clear hat
    obtain ⟨k, hk, rfl, rfl, hwg, hgb, hrd, ⟨A2, c2, hblk, hc2, hsl2⟩, hbel⟩ := hrel
    have hsle := HSL.out k hk
    by_cases hlt : k < l.length
    · obtain ⟨ad, rfl, had, f0, f1, f2, f3, f4, f5, f6, f7⟩ := Sl.part (hs.below hbel) hlt
      have hmost := HFIT.out l[k] (List.getElem_mem hlt)
      have HN := Lib.hid (state_next b l k hlt)
      generalize hp : l[k] = p at *
      generalize hst : state b l k = st at *
      have hp0 := Lib.hid hp
      clear hp hst
      have d0 : wr.cell? ⟨bs, 0, none⟩ = some (.slice A2 st.b.length c2) := hblk.cell 0
      have d1 : wr.cell? ⟨bs, 1, none⟩ = some (.int .i64 st.e) := hblk.cell 1
      have hbl := hblk.lt
      have hws := hbel.size
      have hadl : (ad.add (k * 8)).block < wr.heap.size := by rw [blk_add]; omega
      have hm1 : bs ≠ wr.heap.size := by omega
      have hm2 : (ad.add (k * 8)).block ≠ wr.heap.size := by omega
      have hm3 : bs ≠ wr.heap.size + 1 := by omega
      have hm4 : (ad.add (k * 8)).block ≠ wr.heap.size + 1 := by omega
      have hW0 : Below wr.heap.size wr (wr).drew := (Below.refl _ _).drew
      have hR0 := rtake_any A2 st c2 w.heap.size p (wr).drew (hsl2) (by simp; omega) (by omega) hc2 hmost
      have hW1 : Below wr.heap.size wr ((wr.alloc (.cells #[.int .i64 0, .int .u64 0, .int .i64 0, .bool false, .string ⟨#[]⟩, .int .i64 0, .int .i64 0, .int .i64 0] 38))).drew := ((Below.refl _ _).alloc (Nat.le_refl _) _).drew
      have hR1 := rtake_any A2 st c2 w.heap.size p ((wr.alloc (.cells #[.int .i64 0, .int .u64 0, .int .i64 0, .bool false, .string ⟨#[]⟩, .int .i64 0, .int .i64 0, .int .i64 0] 38))).drew (hsl2.alloc hws _) (by simp; omega) (by omega) hc2 hmost
      have hB10 := blk_80 wr
      have hW2 : Below wr.heap.size wr ((wr.alloc (.cells #[.slice none 0 0, .int .i64 0] 35))).drew := ((Below.refl _ _).alloc (Nat.le_refl _) _).drew
      have hR2 := rtake_any A2 st c2 w.heap.size p ((wr.alloc (.cells #[.slice none 0 0, .int .i64 0] 35))).drew (hsl2.alloc hws _) (by simp; omega) (by omega) hc2 hmost
      have hB20 := blk_20 wr
      have hW3 : Below wr.heap.size wr (((wr.alloc (.cells #[.int .i64 0, .int .u64 0, .int .i64 0, .bool false, .string ⟨#[]⟩, .int .i64 0, .int .i64 0, .int .i64 0] 38)).alloc (.cells #[.slice none 0 0, .int .i64 0] 35))).drew := (((Below.refl _ _).alloc (Nat.le_refl _) _).alloc (by simp) _).drew
      have hR3 := rtake_any A2 st c2 w.heap.size p (((wr.alloc (.cells #[.int .i64 0, .int .u64 0, .int .i64 0, .bool false, .string ⟨#[]⟩, .int .i64 0, .int .i64 0, .int .i64 0] 38)).alloc (.cells #[.slice none 0 0, .int .i64 0] 35))).drew ((hsl2.alloc hws _).alloc (by simp; omega) _) (by simp; omega) (by omega) hc2 hmost
      have hB30 := blk_820 wr
      have hB31 := blk_821 wr
      have hW4 : Below wr.heap.size wr (((wr.alloc (.cells #[.slice none 0 0, .int .i64 0] 35)).alloc (.cells #[.int .i64 0, .int .u64 0, .int .i64 0, .bool false, .string ⟨#[]⟩, .int .i64 0, .int .i64 0, .int .i64 0] 38))).drew := (((Below.refl _ _).alloc (Nat.le_refl _) _).alloc (by simp) _).drew
      have hR4 := rtake_any A2 st c2 w.heap.size p (((wr.alloc (.cells #[.slice none 0 0, .int .i64 0] 35)).alloc (.cells #[.int .i64 0, .int .u64 0, .int .i64 0, .bool false, .string ⟨#[]⟩, .int .i64 0, .int .i64 0, .int .i64 0] 38))).drew ((hsl2.alloc hws _).alloc (by simp; omega) _) (by simp; omega) (by omega) hc2 hmost
      have hB40 := blk_280 wr
      have hB41 := blk_281 wr
      have hS : ∀ w' : World, Below wr.heap.size wr w' → (w'.cell? ⟨bs, 0, none⟩ = some (.slice A2 st.b.length c2) ∧ w'.cell? ⟨bs, 1, none⟩ = some (.int .i64 st.e) ∧
            w'.cell? (ad.add (k * 8)) = some (.int .i64 p.kind) ∧ w'.cell? ⟨(ad.add (k * 8)).block, (ad.add (k * 8)).off + 1, none⟩ = some (.int .u64 p.n) ∧ w'.cell? ⟨(ad.add (k * 8)).block, (ad.add (k * 8)).off + 2, none⟩ = some (.int .i64 p.i) ∧ w'.cell? ⟨(ad.add (k * 8)).block, (ad.add (k * 8)).off + 3, none⟩ = some (.bool p.f) ∧
            w'.cell? ⟨(ad.add (k * 8)).block, (ad.add (k * 8)).off + 4, none⟩ = some (.string p.t) ∧ w'.cell? ⟨(ad.add (k * 8)).block, (ad.add (k * 8)).off + 5, none⟩ = some (.int .i64 p.low) ∧ w'.cell? ⟨(ad.add (k * 8)).block, (ad.add (k * 8)).off + 6, none⟩ = some (.int .i64 p.high) ∧ w'.cell? ⟨(ad.add (k * 8)).block, (ad.add (k * 8)).off + 7, none⟩ = some (.int .i64 p.most)) := fun w' h =>
        ⟨(h.cell (p := ⟨bs, 0, none⟩) hbl).trans d0, (h.cell (p := ⟨bs, 1, none⟩) hbl).trans d1, (h.cell hadl).trans f0, (h.cell (p := ⟨_, _, none⟩) hadl).trans f1, (h.cell (p := ⟨_, _, none⟩) hadl).trans f2, (h.cell (p := ⟨_, _, none⟩) hadl).trans f3, (h.cell (p := ⟨_, _, none⟩) hadl).trans f4, (h.cell (p := ⟨_, _, none⟩) hadl).trans f5, (h.cell (p := ⟨_, _, none⟩) hadl).trans f6, (h.cell (p := ⟨_, _, none⟩) hadl).trans f7⟩
      have HS := Lib.hid hS
      clear hS
      go_upto_region 6 with (fail)
      go_cut [8, 9] from 14 to 52 (fun x8 x9 wx => Got w wr (takeP st p).2 (takeP st p).1 x8 x9 wx)
      case first =>
        go_region_held3 (fun w' => w'.cell? ⟨bs, 0, none⟩ = some (.slice A2 st.b.length c2) ∧ w'.cell? ⟨bs, 1, none⟩ = some (.int .i64 st.e) ∧
            w'.cell? (ad.add (k * 8)) = some (.int .i64 p.kind) ∧ w'.cell? ⟨(ad.add (k * 8)).block, (ad.add (k * 8)).off + 1, none⟩ = some (.int .u64 p.n) ∧ w'.cell? ⟨(ad.add (k * 8)).block, (ad.add (k * 8)).off + 2, none⟩ = some (.int .i64 p.i) ∧ w'.cell? ⟨(ad.add (k * 8)).block, (ad.add (k * 8)).off + 3, none⟩ = some (.bool p.f) ∧
            w'.cell? ⟨(ad.add (k * 8)).block, (ad.add (k * 8)).off + 4, none⟩ = some (.string p.t) ∧ w'.cell? ⟨(ad.add (k * 8)).block, (ad.add (k * 8)).off + 5, none⟩ = some (.int .i64 p.low) ∧ w'.cell? ⟨(ad.add (k * 8)).block, (ad.add (k * 8)).off + 6, none⟩ = some (.int .i64 p.high) ∧ w'.cell? ⟨(ad.add (k * 8)).block, (ad.add (k * 8)).off + 7, none⟩ = some (.int .i64 p.most)) ((refine HS.out _ ?_; (repeat' (first | (with_reducible assumption) | (with_reducible exact Below.refl _ _) | (with_reducible refine Below.drew ?_) | (with_reducible refine Below.one ?_ ?_ _) | (with_reducible refine below_al ?_ _) | omega))))
          (first
            | (go_at_call 14
               (with_reducible refine hR0.mono ?_)
               rintro e w2 ⟨A3, c3, rfl, hc3, hs3, hb0⟩
               have hb1 := below_any hW0 hb0
               have hWW := hW0
               obtain ⟨kc, kf⟩ := bcell hb1
               have ka0 := hb1.cell hadl
               have hz2 : wr.heap.size ≤ w2.heap.size := hb1.size
               have hn1 : bs ≠ w2.heap.size := (by omega)
               have hn2 : (ad.add (k * 8)).block ≠ w2.heap.size := (by omega)
               have hn3 : bs ≠ w2.heap.size + 1 := (by omega)
               have hn4 : (ad.add (k * 8)).block ≠ w2.heap.size + 1 := (by omega)
               have hn5 : bs < w2.heap.size := (by omega)
               have hn6 : (ad.add (k * 8)).block < w2.heap.size := (by omega)
               have ka2 := two_alloc w2)
            | (go_at_call 14
               (with_reducible refine hR1.mono ?_)
               rintro e w2 ⟨A3, c3, rfl, hc3, hs3, hb0⟩
               have hb1 := below_any hW1 hb0
               have hWW := hW1
               obtain ⟨kc, kf⟩ := bcell hb1
               have ka0 := hb1.cell hadl
               have hz2 : wr.heap.size ≤ w2.heap.size := hb1.size
               have hz4 : wr.heap.size + 1 ≤ w2.heap.size := Nat.le_trans (by simp) hb0.size
               have hne1 : wr.heap.size ≠ w2.heap.size := (by omega)
               have hne2 : w2.heap.size ≠ wr.heap.size := (by omega)
               have bhB10 := hB10.below hb0 (by simp)
               obtain ⟨g0, g1, g2, g3, g4, g5, g6, g7, g9⟩ := cells8 bhB10
               have hBw := (hB10).below hb0 (by simp)
               have q0 := fun o => (hBw.alloc o).cell 0
               have q1 := fun o => (hBw.alloc o).cell 1
               have q2 := fun o => (hBw.alloc o).cell 2
               have q3 := fun o => (hBw.alloc o).cell 3
               have q4 := fun o => (hBw.alloc o).cell 4
               have q5 := fun o => (hBw.alloc o).cell 5
               have q6 := fun o => (hBw.alloc o).cell 6
               have q7 := fun o => (hBw.alloc o).cell 7
               have qf := fun o j => (hBw.alloc o).frozen j
               have hn1 : bs ≠ w2.heap.size := (by omega)
               have hn2 : (ad.add (k * 8)).block ≠ w2.heap.size := (by omega)
               have hn3 : bs ≠ w2.heap.size + 1 := (by omega)
               have hn4 : (ad.add (k * 8)).block ≠ w2.heap.size + 1 := (by omega)
               have hn5 : bs < w2.heap.size := (by omega)
               have hn6 : (ad.add (k * 8)).block < w2.heap.size := (by omega)
               have ka2 := two_alloc w2)
            | (go_at_call 14
               (with_reducible refine hR2.mono ?_)
               rintro e w2 ⟨A3, c3, rfl, hc3, hs3, hb0⟩
               have hb1 := below_any hW2 hb0
               have hWW := hW2
               obtain ⟨kc, kf⟩ := bcell hb1
               have ka0 := hb1.cell hadl
               have hz2 : wr.heap.size ≤ w2.heap.size := hb1.size
               have hz4 : wr.heap.size + 1 ≤ w2.heap.size := Nat.le_trans (by simp) hb0.size
               have hne1 : wr.heap.size ≠ w2.heap.size := (by omega)
               have hne2 : w2.heap.size ≠ wr.heap.size := (by omega)
               have bhB20 := hB20.below hb0 (by simp)
               obtain ⟨r0, r1, r9⟩ := cells2 bhB20
               have hBw := (hB20).below hb0 (by simp)
               have q0 := fun o => (hBw.alloc o).cell 0
               have q1 := fun o => (hBw.alloc o).cell 1
               have qf := fun o j => (hBw.alloc o).frozen j
               have hn1 : bs ≠ w2.heap.size := (by omega)
               have hn2 : (ad.add (k * 8)).block ≠ w2.heap.size := (by omega)
               have hn3 : bs ≠ w2.heap.size + 1 := (by omega)
               have hn4 : (ad.add (k * 8)).block ≠ w2.heap.size + 1 := (by omega)
               have hn5 : bs < w2.heap.size := (by omega)
               have hn6 : (ad.add (k * 8)).block < w2.heap.size := (by omega)
               have ka2 := two_alloc w2)
            | (go_at_call 14
               (with_reducible refine hR3.mono ?_)
               rintro e w2 ⟨A3, c3, rfl, hc3, hs3, hb0⟩
               have hb1 := below_any hW3 hb0
               have hWW := hW3
               obtain ⟨kc, kf⟩ := bcell hb1
               have ka0 := hb1.cell hadl
               have hz2 : wr.heap.size ≤ w2.heap.size := hb1.size
               have hz4 : wr.heap.size + 2 ≤ w2.heap.size := Nat.le_trans (by simp) hb0.size
               have hne1 : wr.heap.size ≠ w2.heap.size := (by omega)
               have hne2 : w2.heap.size ≠ wr.heap.size := (by omega)
               have hne3 : wr.heap.size + 1 ≠ w2.heap.size := (by omega)
               have hne4 : w2.heap.size ≠ wr.heap.size + 1 := (by omega)
               have bhB30 := hB30.below hb0 (by simp; omega)
               obtain ⟨g0, g1, g2, g3, g4, g5, g6, g7, g9⟩ := cells8 bhB30
               have bhB31 := hB31.below hb0 (by simp)
               obtain ⟨R0, R1, R9⟩ := cells2 bhB31
               have hn1 : bs ≠ w2.heap.size := (by omega)
               have hn2 : (ad.add (k * 8)).block ≠ w2.heap.size := (by omega)
               have hn3 : bs ≠ w2.heap.size + 1 := (by omega)
               have hn4 : (ad.add (k * 8)).block ≠ w2.heap.size + 1 := (by omega)
               have hn5 : bs < w2.heap.size := (by omega)
               have hn6 : (ad.add (k * 8)).block < w2.heap.size := (by omega)
               have ka2 := two_alloc w2)
            | (go_at_call 14
               (with_reducible refine hR4.mono ?_)
               rintro e w2 ⟨A3, c3, rfl, hc3, hs3, hb0⟩
               have hb1 := below_any hW4 hb0
               have hWW := hW4
               obtain ⟨kc, kf⟩ := bcell hb1
               have ka0 := hb1.cell hadl
               have hz2 : wr.heap.size ≤ w2.heap.size := hb1.size
               have hz4 : wr.heap.size + 2 ≤ w2.heap.size := Nat.le_trans (by simp) hb0.size
               have hne1 : wr.heap.size ≠ w2.heap.size := (by omega)
               have hne2 : w2.heap.size ≠ wr.heap.size := (by omega)
               have hne3 : wr.heap.size + 1 ≠ w2.heap.size := (by omega)
               have hne4 : w2.heap.size ≠ wr.heap.size + 1 := (by omega)
               have bhB40 := hB40.below hb0 (by simp; omega)
               obtain ⟨r0, r1, r9⟩ := cells2 bhB40
               have bhB41 := hB41.below hb0 (by simp)
               obtain ⟨G0, G1, G2, G3, G4, G5, G6, G7, G9⟩ := cells8 bhB41
               have hn1 : bs ≠ w2.heap.size := (by omega)
               have hn2 : (ad.add (k * 8)).block ≠ w2.heap.size := (by omega)
               have hn3 : bs ≠ w2.heap.size + 1 := (by omega)
               have hn4 : (ad.add (k * 8)).block ≠ w2.heap.size + 1 := (by omega)
               have hn5 : bs < w2.heap.size := (by omega)
               have hn6 : (ad.add (k * 8)).block < w2.heap.size := (by omega)
               have ka2 := two_alloc w2))
        all_goals
          go_wp2_with fail
          go_meet
          refine ⟨_, _, A3, c3, rfl, rfl, ?_, ?_, ?_, ?_, hc3, ?_, ?_⟩
          · omega
          · omega
          · repeat' (first | (with_reducible assumption) | (with_reducible exact Blk.new _ _ _) | (with_reducible exact blk_new2 _ _ _ _) | (with_reducible apply blk8) | (with_reducible refine Blk.far' ?_ (by omega) _) | (with_reducible refine Blk.alloc ?_ _) | (with_reducible refine Blk.undrew ?_))
          · repeat' (first | (with_reducible assumption) | (with_reducible exact Blk.new _ _ _) | (with_reducible exact blk_new2 _ _ _ _) | (with_reducible apply blk2) | (with_reducible refine Blk.far' ?_ (by omega) _) | (with_reducible refine Blk.alloc ?_ _) | (with_reducible refine Blk.undrew ?_))
          · with_reducible exact back_sl hws hWW hs3
          · (repeat' (first | (with_reducible assumption) | (with_reducible exact Below.refl _ _) | (with_reducible refine Below.drew ?_) | (with_reducible refine Below.one ?_ ?_ _) | (with_reducible refine below_al ?_ _) | omega))
      case rest =>
        obtain ⟨p8, p9, A3, c3, rfl, rfl, hp8, hp9, hb8, hb9, hc3, hs3, hbc⟩ := hcut
        clear hm1 hm2 hm3 hm4 HS d0 d1 f0 f1 f2 f3 f4 f5 f6 f7
        clear hW0 hR0 hW1 hR1 hW2 hR2 hW3 hR3 hW4 hR4 hB10 hB20 hB30 hB31 hB40 hB41
        obtain ⟨q, hq⟩ : ∃ q, q = (takeP st p).1 := ⟨_, rfl⟩
        obtain ⟨st', hst'⟩ : ∃ st', st' = (takeP st p).2 := ⟨_, rfl⟩
        rw [← hq] at hb8
        rw [← hst'] at hb9 hc3 hs3
        rw [← hst'] at HN
        have hle' : st'.b.length ≤ 140737488351232 := by have := HSL.out (k + 1) (by omega); rwa [HN.out] at this
        have hcz := hbc.size
        have hblk' := hblk.below hbc hbl
        have e0 : wc.cell? ⟨bs, 0, none⟩ = some (.slice A2 st.b.length c2) := hblk'.cell 0
        have e1 : wc.cell? ⟨bs, 1, none⟩ = some (.int .i64 st.e) := hblk'.cell 1
        have e2 : ∀ i, wc.frozen? ⟨bs, i, none⟩ = false := hblk'.frozen
        have e3 : wc.cell? ⟨p9, 0, none⟩ = some (.slice A3 st'.b.length c3) := hb9.cell 0
        have e4 : wc.cell? ⟨p9, 1, none⟩ = some (.int .i64 st'.e) := hb9.cell 1
        have hrd' := (hrd.below hbc (by omega)).far (p := ⟨bs, 0, none⟩) hgb (.slice A3 st'.b.length c3)
        have hrd'' := hrd'.far (p := ⟨bs, 1, none⟩) hgb (.int .i64 st'.e)
        have hb8' := Blk.far' (i := 1) (Blk.far' (i := 0) hb8 (b := bs) (by omega) (.slice A3 st'.b.length c3)) (b := bs) (by omega) (.int .i64 st'.e)
        have hbsV := blk2 hblk' (.slice A3 st'.b.length c3) (.int .i64 st'.e)
        have hbelc := hbel.trans (hbc.mono hws)
        have hbelV := Below.two hbelc (b := bs) (by omega) (.slice A3 st'.b.length c3) (.int .i64 st'.e)
        have HQ := Lib.hid hq
        have HST := Lib.hid hst'
        clear hq hst' hrd' hb8 hblk' hblk
        go_upto_region 8 with (fail)
        obtain ⟨V, hV⟩ : ∃ V, V = ((wc.setCell ⟨bs, 0, none⟩ (.slice A3 st'.b.length c3)).setCell ⟨bs, 1, none⟩ (.int .i64 st'.e)) := ⟨_, rfl⟩
        rw [← hV] at hrd'' hb8' hbsV hbelV ⊢
        have hzV : wc.heap.size ≤ V.heap.size := by rw [hV]; simp
        clear hV
        obtain ⟨ad', e9, hadB, F0, F1, F2, F3, F4, F5, F6, F7⟩ := Sl.part (hs.below hbelV) hlt
        injection e9 with e9
        subst e9
        rw [hp0.out] at F0 F1 F2 F3 F4 F5 F6 F7
        have hadg : (ad.add (k * 8)).block ≠ g := by rw [blk_add]; omega
        have hVS : ∀ w' : World, V.grownBy w' (some g) → (w'.cell? ⟨bs, 0, none⟩ = some (.slice A3 st'.b.length c3) ∧ w'.cell? ⟨bs, 1, none⟩ = some (.int .i64 st'.e) ∧ w'.cell? ⟨p8, 0, none⟩ = some (.int .i64 q.kind) ∧ w'.cell? ⟨p8, 1, none⟩ = some (.int .u64 q.n) ∧ w'.cell? ⟨p8, 2, none⟩ = some (.int .i64 q.i) ∧ w'.cell? ⟨p8, 3, none⟩ = some (.bool q.f) ∧ w'.cell? ⟨p8, 4, none⟩ = some (.string q.t) ∧ w'.cell? ⟨p8, 5, none⟩ = some (.int .i64 q.low) ∧ w'.cell? ⟨p8, 6, none⟩ = some (.int .i64 q.high) ∧ w'.cell? ⟨p8, 7, none⟩ = some (.int .i64 q.most) ∧ w'.cell? (ad.add (k * 8)) = some (.int .i64 p.kind) ∧ w'.cell? ⟨(ad.add (k * 8)).block, (ad.add (k * 8)).off + 1, none⟩ = some (.int .u64 p.n) ∧ w'.cell? ⟨(ad.add (k * 8)).block, (ad.add (k * 8)).off + 2, none⟩ = some (.int .i64 p.i) ∧ w'.cell? ⟨(ad.add (k * 8)).block, (ad.add (k * 8)).off + 3, none⟩ = some (.bool p.f) ∧ w'.cell? ⟨(ad.add (k * 8)).block, (ad.add (k * 8)).off + 4, none⟩ = some (.string p.t) ∧ w'.cell? ⟨(ad.add (k * 8)).block, (ad.add (k * 8)).off + 5, none⟩ = some (.int .i64 p.low) ∧ w'.cell? ⟨(ad.add (k * 8)).block, (ad.add (k * 8)).off + 6, none⟩ = some (.int .i64 p.high) ∧ w'.cell? ⟨(ad.add (k * 8)).block, (ad.add (k * 8)).off + 7, none⟩ = some (.int .i64 p.most)) := fun w' h => by
          obtain ⟨D0, D1, D2, D3, D4, D5, D6, D7, -⟩ := cells8 (hb8'.grown h (by intro e; injection e; omega))
          obtain ⟨E0, E1, -⟩ := cells2 (hbsV.grown h (by intro e; injection e; omega))
          have hk : ∀ (a : Addr) u, V.cell? a = some u → a.block ≠ g → w'.cell? a = some u := fun a u hc hne => h.cell hc (fun e => hne (by injection e))
          exact ⟨E0, E1, D0, D1, D2, D3, D4, D5, D6, D7, hk _ _ F0 hadg, hk _ _ F1 hadg, hk _ _ F2 hadg, hk _ _ F3 hadg, hk _ _ F4 hadg, hk _ _ F5 hadg, hk _ _ F6 hadg, hk _ _ F7 hadg⟩
        have HVS := Lib.hid hVS
        have hT := take_any g st p V.drew hmost hrd'' (by omega)
        rw [← HQ.out, ← HST.out] at hT
        have HT := Lib.hid hT
        clear hVS hT F0 F1 F2 F3 F4 F5 F6 F7 e0 e1 e2 e3 e4
        go_region_held3 (fun w' => w'.cell? ⟨bs, 0, none⟩ = some (.slice A3 st'.b.length c3) ∧ w'.cell? ⟨bs, 1, none⟩ = some (.int .i64 st'.e) ∧ w'.cell? ⟨p8, 0, none⟩ = some (.int .i64 q.kind) ∧ w'.cell? ⟨p8, 1, none⟩ = some (.int .u64 q.n) ∧ w'.cell? ⟨p8, 2, none⟩ = some (.int .i64 q.i) ∧ w'.cell? ⟨p8, 3, none⟩ = some (.bool q.f) ∧ w'.cell? ⟨p8, 4, none⟩ = some (.string q.t) ∧ w'.cell? ⟨p8, 5, none⟩ = some (.int .i64 q.low) ∧ w'.cell? ⟨p8, 6, none⟩ = some (.int .i64 q.high) ∧ w'.cell? ⟨p8, 7, none⟩ = some (.int .i64 q.most) ∧ w'.cell? (ad.add (k * 8)) = some (.int .i64 p.kind) ∧ w'.cell? ⟨(ad.add (k * 8)).block, (ad.add (k * 8)).off + 1, none⟩ = some (.int .u64 p.n) ∧ w'.cell? ⟨(ad.add (k * 8)).block, (ad.add (k * 8)).off + 2, none⟩ = some (.int .i64 p.i) ∧ w'.cell? ⟨(ad.add (k * 8)).block, (ad.add (k * 8)).off + 3, none⟩ = some (.bool p.f) ∧ w'.cell? ⟨(ad.add (k * 8)).block, (ad.add (k * 8)).off + 4, none⟩ = some (.string p.t) ∧ w'.cell? ⟨(ad.add (k * 8)).block, (ad.add (k * 8)).off + 5, none⟩ = some (.int .i64 p.low) ∧ w'.cell? ⟨(ad.add (k * 8)).block, (ad.add (k * 8)).off + 6, none⟩ = some (.int .i64 p.high) ∧ w'.cell? ⟨(ad.add (k * 8)).block, (ad.add (k * 8)).off + 7, none⟩ = some (.int .i64 p.most)) ((refine HVS.out _ ?_; (first | (with_reducible exact only_refl _ _) | (with_reducible exact only_drew (only_refl _ _)) | (with_reducible assumption))))
          (first
            | (go_at_call 15
               (with_reducible refine HT.out.mono ?_)
               rintro e w5 ⟨rfl, hg0, hr5⟩
               have hg5 : V.grownBy w5 (some g) := ⟨hg0.os, hg0.tape, hg0.output, hg0.size, hg0.block⟩
               clear hg0)
            | (go_at_call 16
               (with_reducible refine (left_any g st' _ hr5 ?_).mono ?_)
               · omega
               rintro e w6 ⟨rfl, rfl⟩)
            | (go_at_call 17
               (with_reducible refine (end_any g st' _ hr5 ?_).mono ?_)
               · omega
               rintro e w6 ⟨rfl, rfl⟩)
            | (go_at_call 18
               (with_reducible refine (rend_any A3 st' c3 _ ?_).mono ?_)
               · omega
               rintro e w6 ⟨rfl, hb6⟩
               have hg6 := only_trans hg5 (only_of_below' (row := some g) hb6)))
        go_wp2_with (fail)
        go_roundg (l.length - (k + 1))
        case measure => omega
        case rel =>
          have hbel5 : Below w.heap.size w w5 := hbelV.grown hg5 (by omega) (fun j hj => by injection hj; omega)
          have hbel6 := hbel5.trans (hb6.mono hbel5.size)
          have hr6 := hr5.below hb6 hr5.lt
          have hbs6 := hbsV.grown hg6 (by intro e; injection e; omega)
          have hs6 : Sl w6 w.heap.size A3 (bv st'.b) := (back_sl (Nat.le_refl _) hbel hs3).below hbel6
          refine ⟨k + 1, by omega, rfl, by go_num, hwg, hgb, ?_, ⟨A3, c3, ?_, ?_, ?_⟩, hbel6⟩
          · rw [HN.out]; exact hr6
          · rw [HN.out]; exact hbs6
          · rw [HN.out]; exact hc3
          · rw [HN.out]; exact hs6
    · have e1 : k = l.length := by omega
      have d0 : wr.cell? ⟨bs, 0, none⟩ = some (.slice A2 (state b l k).b.length c2) := hblk.cell 0
      have d1 : wr.cell? ⟨bs, 1, none⟩ = some (.int .i64 (state b l k).e) := hblk.cell 1
      have hbl := hblk.lt
      generalize hst : state b l k = st at *
      clear hst e1
      have hS : ∀ w' : World, Below wr.heap.size wr w' → (w'.cell? ⟨bs, 0, none⟩ = some (.slice A2 st.b.length c2) ∧ w'.cell? ⟨bs, 1, none⟩ = some (.int .i64 st.e)) := fun w' h =>
        ⟨(h.cell (p := ⟨bs, 0, none⟩) hbl).trans d0, (h.cell (p := ⟨bs, 1, none⟩) hbl).trans d1⟩
      have HS := Lib.hid hS
      clear hS
      have hA : decide (k < l.length) = false := decide_eq_false hlt
      clear hlt
      go_upto_region 10 with (fail)
      go_region_held3 (fun w' => w'.cell? ⟨bs, 0, none⟩ = some (.slice A2 st.b.length c2) ∧ w'.cell? ⟨bs, 1, none⟩ = some (.int .i64 st.e)) ((refine HS.out _ ?_; (first | (with_reducible exact Below.refl _ _) | (with_reducible exact Below.drew (Below.refl _ _)) | (with_reducible assumption))))
        (first
          | (go_at_call 17
             refine (end_any g st _ ?_ ?_).mono ?_
             · first | exact hrd | exact hrd.below hb6 hrd.lt
             · omega
             rintro e w5 ⟨rfl, rfl⟩)
          | (go_at_call 18
             (with_reducible refine (rend_any A2 st c2 _ ?_).mono ?_)
             · omega
             rintro e w6 ⟨rfl, hb0⟩
             have hb6 : Below wr.heap.size wr w6 := ⟨hb0.os, hb0.tape, hb0.output, hb0.size, hb0.block⟩)
          | (go_at_call 12
             (with_reducible refine (lives_any _).mono ?_)
             rintro e w7 ⟨rfl, hb0⟩
             have hb7 := hb6.trans (hb0.mono hb6.size)))
      go_wp2_with (fail)
      go_ret
      exact ⟨rfl, hbel.trans (hb7.mono hbel.size)⟩
end Go.Proofs.Ytmaebebckbfjpaa.codeReads
