/-
  The contract of scan.Pairs.
-/
import Derived.Test.YtimkbadjcdnjjaaScP
import Derived.Test.YtimkbadjcdnjjaaScC
import Derived.Deep.RegionHeld3
namespace Go.Proofs.Ytimkbadjcdnjjaa.scan
open Go.RowKit law bytes only flat nums ord obj metric
set_option linter.unusedVariables false

theorem twE : ElemK Try.prog 48 3 24 := elemK_mk (z := .agg #[.int .i64 0, .int .i64 0, .int .i64 0]) (by kernel_rfl) rfl
/-- a row of one type lies in no block of another one -/
theorem blk_other {W : World} {base k n g : Nat} {e t : TypeId} {v : Value} {xs : List Value} {cs : Array Value} (h : W.ownsRow base e k v n xs) (h' : Blk W g t cs) (hne : e ≠ t) : v.ownBlock ≠ some g := fun hg => by
  rcases h.2 with ⟨h1, -⟩ | ⟨g1, c1, cur1, hv1, -, hh1, -⟩
  · rw [h1] at hg; cases hg
  rw [hv1] at hg
  injection hg with hg
  simp only at hg
  subst hg
  rw [show W.heap[g1]? = _ from h'] at hh1
  injection hh1 with hh1
  injection hh1 with _ e2
  exact hne e2.symm
/-- what pairs are asked of -/
structure Fip (w : World) (B : Nat) (o : Option Addr) (n k : Int) (A : Option Addr) (l : List Item) : Prop where
  its : Its w B A l
  small : o ≠ none → ∀ p ∈ l, Small p.2.x
  mx : Mx w o n k
  le : B ≤ w.heap.size
  tk : ∀ i, tk o i → B ≤ i
  k0 : 0 ≤ k
  kl : k ≤ 4611686018427387904
  len : l.length ≤ 1048576
/-- where it stands: the meter, what has turned -/
structure Sp (w W : World) (o : Option Addr) (n k : Int) : Prop where
  mx : Mx W o n k
  only : Only (tk o) w W
section
variable {w W W' : World} {B : Nat} {o : Option Addr} {n k k' : Int} {A : Option Addr} {l : List Item} {S : Nat → Prop}
theorem Fip.lt (h : Fip w B o n k A l) : ∀ i, scan.tk o i → i < w.heap.size := fun i => h.mx.lt
theorem Sp.on (h : Sp w W o n k) (hb : Below W.heap.size W W') : Sp w W' o n k := ⟨h.mx.on hb, h.only.on hb⟩
theorem Sp.alloc (h : Sp w W o n k) (ob : Obj) : Sp w (W.alloc ob) o n k := h.on ((Below.refl _ _).alloc (Nat.le_refl _) _)
theorem Sp.grown {row : Option Nat} (h : Sp w W o n k) (hg : W.grownBy W' row) (hr : ∀ r, row = some r → w.heap.size ≤ r) (hT : ∀ i, tk o i → i < w.heap.size) : Sp w W' o n k :=
  have ho : Only (fun i => row = some i) W W' := Only.of_grown hg fun g e => .inl e
  ⟨h.mx.only ho fun i e e2 => by have := hr i e2; have := hT i e; omega, h.only.trans ho fun i e => .inr (hr i e)⟩
theorem Sp.below (h : Sp w W o n k) (hB : B ≤ w.heap.size) (hT : ∀ i, tk o i → B ≤ i) : Below B w W := h.only.below hB hT
/-- two places are asked for -/
theorem Fip.upto (h : Fip w B o n k A l) {a b : Nat} (ha : a < l.length) (hb : b < l.length) {c : Nat} (hc : c ≤ 1099512676352) (r : Int) (hs : Sp w W o n (k + cnt o c)) :
    Calls Try.prog 23 #[.pointer o, oW l[a].2, oW l[b].2, .int .i64 r] W fun e w' => (∃ u, e = .returned (.tuple #[.int .i64 u, .bool (wi o (dd n l a b) r)]) ∧ (wi o (dd n l a b) r = true → u = dd n l a b)) ∧ Only (scan.tk o) W w' ∧ Sp w w' o n (k + cnt o ((c + 1 : Nat) : Int)) := by
  have hbe := hs.below h.le h.tk
  have hsz : B ≤ W.heap.size := Nat.le_trans h.le hbe.size
  have hcn := cnt_le o (a := (c : Int)) (by omega)
  have h0 := h.k0
  have h1 := h.kl
  rw [dd_is n l ha hb]
  refine (upto_mx l[a].2 l[b].2 r (fun e => ⟨h.small e _ (List.getElem_mem ha), h.small e _ (List.getElem_mem hb)⟩) (((h.its.vec _ (List.getElem_mem ha)).below hbe).more hsz) (((h.its.vec _ (List.getElem_mem hb)).below hbe).more hsz) hs.mx (by omega)).mono fun e w' ⟨he, ho, hm⟩ => ⟨he, ho, ?_, hs.only.trans ho fun i e => .inl e⟩
  rw [Int.add_assoc, cnt_add] at hm
  exact hm
end
/-- the cells of two things that a round reads: a copy's, and a row's -/
def Six (W : World) (g b r : Nat) (p q : At) : Prop :=
  W.cell? ⟨g, 1, none⟩ = some (.int .i64 p.x.tag) ∧ W.cell? ⟨g, 2, none⟩ = some (.slice p.a p.x.vec.length p.c) ∧ W.cell? ⟨g, 3, none⟩ = some (.string p.x.str) ∧
  W.cell? ⟨b, r + 1, none⟩ = some (.int .i64 q.x.tag) ∧ W.cell? ⟨b, r + 1 + 1, none⟩ = some (.slice q.a q.x.vec.length q.c) ∧ W.cell? ⟨b, r + 1 + 2, none⟩ = some (.string q.x.str)
/-- where the inner loop stands -/
structure Si (w W : World) (o : Option Addr) (n k : Int) (g : Nat) (p : Item) (v : Value) (m : Nat) (xs : List Tw) : Prop where
  box : Blk W g 46 #[.int .u64 p.1, .int .i64 p.2.x.tag, .slice p.2.a p.2.x.vec.length p.2.c, .string p.2.x.str]
  own : W.ownsRow w.heap.size 48 3 v m (xs.flatMap tc)
  sp : Sp w W o n k
section
variable {w W W' : World} {o : Option Addr} {n k k' : Int} {g m : Nat} {p : Item} {v : Value} {xs : List Tw}
theorem Si.on (h : Si w W o n k g p v m xs) (hb : Below W.heap.size W W') : Si w W' o n k g p v m xs := ⟨h.box.below hb h.box.lt, own_below h.own hb (Nat.le_refl _), h.sp.on hb⟩
theorem Si.asked (h : Si w W o n k g p v m xs) (ho : Only (tk o) W W') (hs : Sp w W' o n k') (hT : ∀ i, tk o i → i < w.heap.size) (hg : w.heap.size ≤ g) : Si w W' o n k' g p v m xs :=
  ⟨Blk.only h.box ho fun e => by have := hT _ e; omega, own_only h.own ho fun i e e2 => by have := (own_lt h.own e).1; have := hT i e2; omega, hs⟩
end
/-- a row of pairs, and the meter asked so often -/
def PairsP (w : World) (o : Option Addr) (n k : Int) (l : List Tw) (e : Ending) (w' : World) : Prop := ∃ A c, e = .returned (.slice A l.length c) ∧ l.length ≤ c ∧ Sl w' w'.heap.size A (l.flatMap tc) ∧ Only (tk o) w w' ∧ Mx w' o n k
set_option maxRecDepth 100000 in
set_option maxHeartbeats 6400000 in
theorem pairs_any (w : World) (B : Nat) (o : Option Addr) (n k : Int) (A : Option Addr) (c : Nat) (l : List Item) (r : Int) (hF : Fip w B o n k A l) (hcl : l.length ≤ c) :
    Calls Try.prog 17 #[.pointer o, .slice A l.length c, .int .i64 r] w (PairsP w o n (k + cnt o (pc l.length l.length)) (pot o n r l l.length)) := by
  have HS1 : Hid (Sp w w o n k) := Lib.hid ⟨hF.mx, Only.refl _ _⟩
  have hll := hF.len
  have HF := Lib.hid hF
  have HLT := Lib.hid hF.lt
  clear hF
  go_enter Try.func17, Try.ntmps17
  go_wp2_with (fail)
  go_loopg [7, 15] l.length (fun gk s7 s15 wr => ∃ (a m c' : Nat) (A' : Option Addr), gk = l.length - a ∧ a ≤ l.length ∧ s7 = .slice A' m c' ∧ s15 = .int .i64 a ∧ m = (pot o n r l a).length ∧ wr.ownsRow w.heap.size 48 3 (.slice A' m c') m ((pot o n r l a).flatMap tc) ∧ Sp w wr o n (k + cnt o (pc l.length a)))
  case atStart => exact ⟨0, 0, 0, none, rfl, Nat.zero_le _, rfl, rfl, rfl, World.ownsRow_nil _ _ _ _, by rw [show ((pc l.length 0 : Nat) : Int) = 0 from rfl, cnt_zero, Int.add_zero]; exact HS1.out⟩
  case round =>
    clear HS1
    obtain ⟨a, m, c', A', rfl, ha, rfl, rfl, hml, hown, hsp⟩ := hrel
    have HML := Lib.hid hml
    clear hml
    by_cases hlt : a < l.length
    · obtain ⟨bb, oo, rfl, hbb, hcells⟩ := (HF.out.its.below (hsp.below HF.out.le HF.out.tk)).place (by omega)
      obtain ⟨d0, d1, d2, d3⟩ := hcells a hlt
      have i1 : (a : Int) < (l.length : Int) := by omega
      have i2 : IntKind.i64.wrap ((a : Int) + 1) = ((a + 1 : Nat) : Int) := by rw [IntKind.wrap_i64]; omega
      obtain ⟨p, hp⟩ : ∃ p, l[a] = p := ⟨_, rfl⟩
      have HP := Lib.hid hp
      rw [hp] at d0 d1 d2 d3
      obtain ⟨id, pt⟩ := p
      dsimp only at d0 d1 d2 d3
      have hk0 := Blk.new wr 46 #[.int .u64 id, .int .i64 pt.x.tag, .slice pt.a pt.x.vec.length pt.c, .string pt.x.str]
      have hs1 := hsp.alloc (.cells #[.int .u64 id, .int .i64 pt.x.tag, .slice pt.a pt.x.vec.length pt.c, .string pt.x.str] 46)
      have ho1 := World.ownsRow.alloc (w := wr) hown (.cells #[.int .u64 id, .int .i64 pt.x.tag, .slice pt.a pt.x.vec.length pt.c, .string pt.x.str] 46)
      have HI : Hid (Blk (wr.alloc (.cells #[.int .u64 id, .int .i64 pt.x.tag, .slice pt.a pt.x.vec.length pt.c, .string pt.x.str] 46)) wr.heap.size 46 #[.int .u64 id, .int .i64 pt.x.tag, .slice pt.a pt.x.vec.length pt.c, .string pt.x.str] ∧ (wr.alloc (.cells #[.int .u64 id, .int .i64 pt.x.tag, .slice pt.a pt.x.vec.length pt.c, .string pt.x.str] 46)).ownsRow w.heap.size 48 3 (.slice A' m c') m ((pot o n r l a).flatMap tc) ∧ Sp w (wr.alloc (.cells #[.int .u64 id, .int .i64 pt.x.tag, .slice pt.a pt.x.vec.length pt.c, .string pt.x.str] 46)) o n (k + cnt o (pc l.length a))) := Lib.hid ⟨hk0, ho1, hs1⟩
      have hgb : w.heap.size ≤ wr.heap.size := hsp.only.size
      clear hp hk0 hs1 ho1 hown hsp hcells
      go_wp2_with (fail)
      obtain ⟨w0, hw0⟩ : ∃ w0, w0 = wr := ⟨_, rfl⟩
      rw [← hw0] at HI hgb ⊢
      clear d0 d1 d2 d3 hw0 hbb wr
      go_loopg [7, 10] (l.length - (a + 1)) (fun gk s7 s10 wv => ∃ (j b m c' : Nat) (A' : Option Addr), gk = l.length - b ∧ b = a + 1 + j ∧ b ≤ l.length ∧ s7 = .slice A' m c' ∧ s10 = .int .i64 b ∧ m = (pot o n r l a ++ pin o n r l a j).length ∧ Si w wv o n (k + cnt o ((pc l.length a + j : Nat) : Int)) w0.heap.size (id, pt) (.slice A' m c') m (pot o n r l a ++ pin o n r l a j))
      case atStart => exact ⟨0, a + 1, m, c', A', rfl, rfl, by omega, rfl, rfl, by simp [pin, HML.out], by simp only [pin, List.append_nil]; exact ⟨HI.out.1, HI.out.2.1, HI.out.2.2⟩⟩
      case round =>
        clear HI
        obtain ⟨j, b, m, c', A', rfl, hbj, hb, rfl, rfl, hml, hsi⟩ := hrel
        have HML := Lib.hid hml
        have HBJ := Lib.hid hbj
        clear hml hbj
        by_cases hlb : b < l.length
        · obtain ⟨b2, o2, hA2, hb2, hcells⟩ := (HF.out.its.below (hsi.sp.below HF.out.le HF.out.tk)).place (by omega)
          injection hA2 with hA2
          injection hA2 with e1 e2
          subst e1 e2
          obtain ⟨-, d1, d2, d3⟩ := hcells b hlb
          have i1 : (b : Int) < (l.length : Int) := by omega
          have i3 : IntKind.i64.wrap ((b : Int) + 1) = ((b + 1 : Nat) : Int) := by rw [IntKind.wrap_i64]; omega
          have i4 : b < c := by omega
          have hin : j ≤ l.length - (a + 1) := by have := HBJ.out; omega
          have hin1 : j + 1 ≤ l.length - (a + 1) := by have := HBJ.out; omega
          have hpl := pairs_le o n r l hll hlt hin
          have hpl1 := pc_le l.length a (by omega)
          have hpl2 : l.length * a ≤ 1048576 * 1048576 := Nat.mul_le_mul hll (by omega)
          have hmb : m ≤ 1099512676352 := by rw [HML.out]; exact hpl
          obtain ⟨d, hd⟩ : ∃ d, dd n l a b = d := ⟨_, rfl⟩
          obtain ⟨ok, hok⟩ : ∃ ok, wi o d r = ok := ⟨_, rfl⟩
          have hnx : pot o n r l a ++ pin o n r l a (j + 1) = (pot o n r l a ++ pin o n r l a j) ++ if ok = true then [(a, b, d)] else [] := by
            have hb2 := HBJ.out
            subst hb2
            simp only [pin, hok, hd, List.append_assoc]
          have hup := fun W (h : Sp w W o n (k + cnt o ((pc l.length a + j : Nat) : Int))) => HF.out.upto hlt hlb (c := pc l.length a + j) (by omega) r h
          obtain ⟨⟨id2, qt⟩, hq⟩ : ∃ q, l[b] = q := ⟨_, rfl⟩
          rw [hd, hok, HP.out, hq] at hup
          rw [hq] at d1 d2 d3
          dsimp only [oW] at hup d1 d2 d3
          have hlow := hsi.sp.below HF.out.le HF.out.tk
          have hrow := HF.out.its.below hlow
          have HSX : Hid (∀ W, Below wr.heap.size wr W → Six W w0.heap.size bb (oo + b * 4) pt qt) := Lib.hid fun W hW => by
            have hb3 := (hsi.on hW).box
            have hc : ∀ (i : Nat), W.cell? ⟨bb, i, none⟩ = wr.cell? ⟨bb, i, none⟩ := fun i => hW.cell (p := ⟨bb, i, none⟩) (Nat.lt_of_lt_of_le hb2 (Nat.le_trans HF.out.le hsi.sp.only.size))
            exact ⟨hb3.cell 1, hb3.cell 2, hb3.cell 3, (hc _).trans d1, (hc _).trans d2, (hc _).trans d3⟩
          have HUP : Hid (∀ W, Below wr.heap.size wr W → Calls Try.prog 23 #[.pointer o, .agg #[.int .i64 pt.x.tag, .slice pt.a pt.x.vec.length pt.c, .string pt.x.str], .agg #[.int .i64 qt.x.tag, .slice qt.a qt.x.vec.length qt.c, .string qt.x.str], .int .i64 r] W fun e w' => ∃ u, e = .returned (.tuple #[.int .i64 u, .bool ok]) ∧ Six w' w0.heap.size bb (oo + b * 4) pt qt ∧ Hid (ok = true → u = d) ∧ Hid (Si w w' o n (k + cnt o ((pc l.length a + (j + 1) : Nat) : Int)) w0.heap.size (id, pt) (.slice A' m c') m (pot o n r l a ++ pin o n r l a j))) := Lib.hid fun W hW => by
            have hsW := hsi.on hW
            refine (hup W hsW.sp).mono fun e w' ⟨⟨u, he, hu⟩, ho, hs⟩ => ⟨u, he, ?_, Lib.hid hu, Lib.hid (hsW.asked ho hs HLT.out hgb)⟩
            have hb3 := (hsW.asked ho hs HLT.out hgb).box
            have hc : ∀ (i : Nat), w'.cell? ⟨bb, i, none⟩ = wr.cell? ⟨bb, i, none⟩ := fun i =>
              ((ho.below (Nat.le_trans HF.out.le hsW.sp.only.size) HF.out.tk).cell (p := ⟨bb, i, none⟩) hb2).trans (hW.cell (p := ⟨bb, i, none⟩) (Nat.lt_of_lt_of_le hb2 (Nat.le_trans HF.out.le hsi.sp.only.size)))
            exact ⟨hb3.cell 1, hb3.cell 2, hb3.cell 3, (hc _).trans d1, (hc _).trans d2, (hc _).trans d3⟩
          obtain ⟨s1, s2, s3, s4, s5, s6⟩ := HSX.out wr (Below.refl _ _)
          have HNX := Lib.hid hnx
          clear hnx hup hq hlow hrow hd hok hsi hcells d1 d2 d3 hpl hpl1 hpl2
          go_wp2_with (fail)
          go_region_held3 (fun W => W.cell? ⟨w0.heap.size, 1, none⟩ = some (.int .i64 pt.x.tag) ∧ W.cell? ⟨w0.heap.size, 2, none⟩ = some (.slice pt.a pt.x.vec.length pt.c) ∧ W.cell? ⟨w0.heap.size, 3, none⟩ = some (.string pt.x.str) ∧ W.cell? ⟨bb, oo + b * 4 + 1, none⟩ = some (.int .i64 qt.x.tag) ∧ W.cell? ⟨bb, oo + b * 4 + 1 + 1, none⟩ = some (.slice qt.a qt.x.vec.length qt.c) ∧ W.cell? ⟨bb, oo + b * 4 + 1 + 2, none⟩ = some (.string qt.x.str))
            ((first | exact hsix | (refine HSX.out _ ?_); repeat' (first | (with_reducible exact Below.refl _ _) | (with_reducible assumption) | (with_reducible refine Below.drew ?_) | (with_reducible refine below_drewN' ?_ _))))
            (first
              | (go_at_call 23; (with_reducible refine (HUP.out _ (by repeat' (first | (with_reducible exact Below.refl _ _) | (with_reducible assumption) | (with_reducible refine Below.drew ?_) | (with_reducible refine below_drewN' ?_ _)))).mono ?_); rintro e w2 ⟨u, rfl, hsix, HU, HSI⟩))
          cases ok with
          | true =>
            have hU := HU.out rfl
            have hown2 := HSI.out.own
            have hsz2 : w.heap.size ≤ w2.heap.size := HSI.out.sp.only.size
            have hne : ∀ g, (Value.slice A' m c').ownBlock = some g → w.heap.size ≤ g := fun g e => (own_lt hown2 e).1
            have hbx : (Value.slice A' m c').ownBlock ≠ some w0.heap.size := blk_other hown2 HSI.out.box (by decide)
            have HNE := Lib.hid (And.intro hne hbx)
            clear hne hbx
            subst hU
            have HNT : Hid ((pot o n r l a ++ pin o n r l a (j + 1)).flatMap tc = (pot o n r l a ++ pin o n r l a j).flatMap tc ++ [.int .i64 (a : Int), .int .i64 (b : Int), .int .i64 u]) := Lib.hid (by rw [HNX.out, if_pos rfl, List.flatMap_append]; rfl)
            have HNL : Hid (m + 1 = (pot o n r l a ++ pin o n r l a (j + 1)).length) := Lib.hid (by rw [HNX.out, if_pos rfl]; have h := HML.out; simp only [List.length_append, List.length_cons, List.length_nil] at h ⊢; omega)
            clear HNX HU HML hsix HSX
            go_wp2_with (at_builtin
                         refine wpList_append_slk _ rfl (.tmp 42) (.tmp 47) _ rfl w.heap.size 48 3 24 Try.underlying41 twE (by omega) (.slice A' m c') m ((pot o n r l a ++ pin o n r l a j).flatMap tc) rfl (World.ownsRow.alloc (w := w2) hown2 _) _ _ 1 1 [.int .i64 (a : Int), .int .i64 (b : Int), .int .i64 u] rfl (Sl.lit w2 _ _) rfl (by simp [Value.oneCell']) (by omega) (by unfold maxLen; omega) (by simp; omega) ?_
                         intro v4 w4 hown4 hg4 hat4
                         obtain ⟨A4, c4, rfl, hc4⟩ := own_slice hown4)
            go_roundg (l.length - (b + 1))
            case measure => omega
            case rel => exact ⟨j + 1, b + 1, m + 1, c4, A4, rfl, by have := HBJ.out; omega, by omega, rfl, by go_num, HNL.out, (HSI.out.box.alloc _).grown hg4 (fun e => HNE.out.2 e.symm), by rw [HNT.out]; exact hown4, (HSI.out.sp.alloc _).grown hg4 HNE.out.1 HLT.out⟩
          | false =>
            have HNT : Hid (pot o n r l a ++ pin o n r l a (j + 1) = pot o n r l a ++ pin o n r l a j) := Lib.hid (by rw [HNX.out, if_neg (by simp), List.append_nil])
            clear HNX HU hsix HSX
            go_wp2_with (fail)
            go_roundg (l.length - (b + 1))
            case measure => omega
            case rel => exact ⟨j + 1, b + 1, m, c', A', rfl, by have := HBJ.out; omega, by omega, rfl, by go_num, by rw [HNT.out]; exact HML.out, by rw [HNT.out]; exact HSI.out⟩
        · obtain rfl : b = l.length := by omega
          have i1 : ¬ (l.length : Int) < (l.length : Int) := by omega
          have hja : j = l.length - (a + 1) := by have := HBJ.out; omega
          have HEQ : Hid (pot o n r l a ++ pin o n r l a j = pot o n r l (a + 1) ∧ pc l.length a + j = pc l.length (a + 1)) := Lib.hid (by subst hja; exact ⟨rfl, rfl⟩)
          have HSI := Lib.hid hsi
          clear hja hsi
          go_wp2_with (fail)
          go_roundg (l.length - (a + 1))
          case measure => omega
          case rel => exact ⟨a + 1, m, c', A', rfl, by omega, rfl, by go_num, by rw [HML.out, HEQ.out.1], by rw [← HEQ.out.1]; exact HSI.out.own, by rw [← HEQ.out.2]; exact HSI.out.sp⟩
    · obtain rfl : a = l.length := by omega
      have i1 : ¬ (l.length : Int) < (l.length : Int) := by omega
      have hle : m ≤ c' := by
        obtain ⟨_, _, hv', hc⟩ := own_slice hown
        injection hv' with _ _ hv'
        omega
      have HE : Hid (PairsP w o n (k + cnt o (pc l.length l.length)) (pot o n r l l.length) (.returned (.slice A' m c')) wr) := Lib.hid ⟨A', c', by rw [HML.out], by rw [← HML.out]; exact hle, Sl.of_ownK hown, hsp.only, hsp.mx⟩
      clear hown hsp hle
      go_wp2_with (fail)
      go_ret
      exact HE.out
end Go.Proofs.Ytimkbadjcdnjjaa.scan
