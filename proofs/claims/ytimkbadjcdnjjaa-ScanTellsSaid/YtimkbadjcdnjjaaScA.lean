/-
  The contract of scan's ask: a thing's hit.
-/
import Derived.Test.YtimkbadjcdnjjaaSc
import Derived.Deep.RegionHeld3
namespace Go.Proofs.Ytimkbadjcdnjjaa.scan
open Go.RowKit law bytes only flat nums ord obj metric
open hit (Hit hv lt Rises sortH sortH_is sortH_perm sortH_rises)
set_option linter.unusedVariables false

/-- the three boxes that ask makes -/
def Boxes (W : World) (g : Nat) (p : Item) (q : At) : Prop :=
  Blk W g 46 #[.int .u64 p.1, .int .i64 p.2.x.tag, .slice p.2.a p.2.x.vec.length p.2.c, .string p.2.x.str] ∧
  Blk W (g + 1) 25 #[.int .i64 q.x.tag, .slice q.a q.x.vec.length q.c, .string q.x.str] ∧
  Blk W (g + 1 + 1) 50 #[.int .u64 0, .int .i64 0]
theorem boxes (W : World) (p : Item) (q : At) (V : World) (hV : V = ((W.alloc (.cells #[.int .u64 p.1, .int .i64 p.2.x.tag, .slice p.2.a p.2.x.vec.length p.2.c, .string p.2.x.str] 46)).alloc (.cells #[.int .i64 q.x.tag, .slice q.a q.x.vec.length q.c, .string q.x.str] 25)).alloc (.cells #[.int .u64 0, .int .i64 0] 50)) :
    Boxes V W.heap.size p q ∧ Below W.heap.size W V ∧ V.heap.size = W.heap.size + 3 := by
  subst hV
  have b1 := Blk.new W 46 #[.int .u64 p.1, .int .i64 p.2.x.tag, .slice p.2.a p.2.x.vec.length p.2.c, .string p.2.x.str]
  have b2 := Blk.new (W.alloc (.cells #[.int .u64 p.1, .int .i64 p.2.x.tag, .slice p.2.a p.2.x.vec.length p.2.c, .string p.2.x.str] 46)) 25 #[.int .i64 q.x.tag, .slice q.a q.x.vec.length q.c, .string q.x.str]
  have b3 := Blk.new ((W.alloc (.cells #[.int .u64 p.1, .int .i64 p.2.x.tag, .slice p.2.a p.2.x.vec.length p.2.c, .string p.2.x.str] 46)).alloc (.cells #[.int .i64 q.x.tag, .slice q.a q.x.vec.length q.c, .string q.x.str] 25)) 50 #[.int .u64 0, .int .i64 0]
  have z1 : (W.alloc (.cells #[.int .u64 p.1, .int .i64 p.2.x.tag, .slice p.2.a p.2.x.vec.length p.2.c, .string p.2.x.str] 46)).heap.size = W.heap.size + 1 := by simp
  have z2 : ((W.alloc (.cells #[.int .u64 p.1, .int .i64 p.2.x.tag, .slice p.2.a p.2.x.vec.length p.2.c, .string p.2.x.str] 46)).alloc (.cells #[.int .i64 q.x.tag, .slice q.a q.x.vec.length q.c, .string q.x.str] 25)).heap.size = W.heap.size + 1 + 1 := by simp
  rw [z1] at b2
  rw [z2] at b3
  exact ⟨⟨(b1.alloc _).alloc _, b2.alloc _, b3⟩, (((Below.refl _ W).alloc (Nat.le_refl _) _).alloc (by simp) _).alloc (by simp; omega) _, by simp⟩
/-- what ask's region reads -/
def Reads (W : World) (g : Nat) (p : Item) (q : At) : Prop :=
  W.cell? ⟨g, 0, none⟩ = some (.int .u64 p.1) ∧ W.cell? ⟨g, 1, none⟩ = some (.int .i64 p.2.x.tag) ∧ W.cell? ⟨g, 2, none⟩ = some (.slice p.2.a p.2.x.vec.length p.2.c) ∧ W.cell? ⟨g, 3, none⟩ = some (.string p.2.x.str) ∧
  W.cell? ⟨g + 1, 0, none⟩ = some (.int .i64 q.x.tag) ∧ W.cell? ⟨g + 1, 1, none⟩ = some (.slice q.a q.x.vec.length q.c) ∧ W.cell? ⟨g + 1, 2, none⟩ = some (.string q.x.str)
theorem Boxes.reads {W : World} {g : Nat} {p : Item} {q : At} (h : Boxes W g p q) : Reads W g p q := by
  obtain ⟨h1, h2, _⟩ := h
  exact ⟨h1.cell 0, h1.cell 1, h1.cell 2, h1.cell 3, h2.cell 0, h2.cell 1, h2.cell 2⟩
/-- .. and where its hit lies -/
def Slot (W : World) (g : Nat) (x y : Value) : Prop := W.cell? ⟨g + 1 + 1, 0, none⟩ = some x ∧ W.cell? ⟨g + 1 + 1, 1, none⟩ = some y ∧ W.frozen? ⟨g + 1 + 1, 0, none⟩ = false ∧ W.frozen? ⟨g + 1 + 1, 1, none⟩ = false
theorem Boxes.below {W W' : World} {g B : Nat} {p : Item} {q : At} (h : Boxes W g p q) (o : Below B W W') (hB : g + 1 + 1 < B) : Boxes W' g p q := ⟨h.1.below o (by omega), h.2.1.below o (by omega), h.2.2.below o hB⟩
theorem Boxes.only {W W' : World} {g : Nat} {S : Nat → Prop} {p : Item} {q : At} (h : Boxes W g p q) (o : Only S W W') (hS : ∀ i, S i → i < g) : Boxes W' g p q :=
  ⟨Blk.only h.1 o fun e => by have := hS _ e; omega, Blk.only h.2.1 o fun e => by have := hS _ e; omega, Blk.only h.2.2 o fun e => by have := hS _ e; omega⟩
/-- what ask leaves -/
def AskP (w : World) (o : Option Addr) (n k : Int) (x : Hit) (e : Ending) (w' : World) : Prop := e = .returned (.agg #[.int .u64 x.1, .int .i64 x.2]) ∧ Only (tk o) w w' ∧ Mx w' o n (k + cnt o 1)
/-- behind the call, and the hit's two stores -/
theorem ask_end {W V w2 : World} {o : Option Addr} {n k : Int} {p : Item} {q : At} (d : Int) (hB : Below W.heap.size W V) (hlt : ∀ i, tk o i → i < W.heap.size) (hb : Boxes V W.heap.size p q) (o2 : Only (tk o) V w2) (hm2 : Mx w2 o n (k + cnt o 1)) :
    Boxes w2 W.heap.size p q ∧ Slot w2 W.heap.size (.int .u64 0) (.int .i64 0) ∧
    AskP W o n k (p.1, d) (.returned (.agg #[.int .u64 p.1, .int .i64 d])) ((w2.setCell ⟨W.heap.size + 1 + 1, 0, none⟩ (.int .u64 p.1)).setCell ⟨W.heap.size + 1 + 1, 1, none⟩ (.int .i64 d)) ∧
    ((w2.setCell ⟨W.heap.size + 1 + 1, 0, none⟩ (.int .u64 p.1)).setCell ⟨W.heap.size + 1 + 1, 1, none⟩ (.int .i64 d)).cell? ⟨W.heap.size + 1 + 1, 0, none⟩ = some (.int .u64 p.1) ∧
    ((w2.setCell ⟨W.heap.size + 1 + 1, 0, none⟩ (.int .u64 p.1)).setCell ⟨W.heap.size + 1 + 1, 1, none⟩ (.int .i64 d)).cell? ⟨W.heap.size + 1 + 1, 1, none⟩ = some (.int .i64 d) := by
  have h2 := hb.only o2 hlt
  have h3 := (h2.2.2.set_ 0 (.int .u64 p.1)).set_ 1 (.int .i64 d)
  have o3 : Only (tk o) W w2 := (Only.of_below hB (Nat.le_refl _) _).trans o2 fun i e => .inl e
  have o4 : Only (fun i => i = W.heap.size + 1 + 1) w2 ((w2.setCell ⟨W.heap.size + 1 + 1, 0, none⟩ (.int .u64 p.1)).setCell ⟨W.heap.size + 1 + 1, 1, none⟩ (.int .i64 d)) := ((Only.refl (fun i => i = W.heap.size + 1 + 1) w2).setCell (p := ⟨W.heap.size + 1 + 1, 0, none⟩) (.inl rfl) _).setCell (p := ⟨W.heap.size + 1 + 1, 1, none⟩) (.inl rfl) _
  exact ⟨h2, ⟨h2.2.2.cell 0, h2.2.2.cell 1, h2.2.2.frozen 0, h2.2.2.frozen 1⟩, ⟨rfl, o3.trans o4 (fun i e => .inr (by omega)), hm2.only o4 fun i e e2 => by have := hlt i e; omega⟩, h3.cell 0, h3.cell 1⟩
set_option maxRecDepth 100000 in
set_option maxHeartbeats 1600000 in
theorem ask_any {W : World} {o : Option Addr} {n k : Int} (p : Item) (q : At) (hs : o ≠ none → Small p.2.x ∧ Small q.x) (s1 : Sl W W.heap.size p.2.a (iv p.2.x.vec)) (s2 : Sl W W.heap.size q.a (iv q.x.vec)) (hm : Mx W o n k) (hk : 0 ≤ k ∧ k < 9223372036854775807) :
    Calls Try.prog 21 #[.pointer o, iW p, oW q] W (AskP W o n k (p.1, M n p.2.x q.x)) := by
  obtain ⟨V, hV⟩ : ∃ V, V = ((W.alloc (.cells #[.int .u64 p.1, .int .i64 p.2.x.tag, .slice p.2.a p.2.x.vec.length p.2.c, .string p.2.x.str] 46)).alloc (.cells #[.int .i64 q.x.tag, .slice q.a q.x.vec.length q.c, .string q.x.str] 25)).alloc (.cells #[.int .u64 0, .int .i64 0] 50) := ⟨_, rfl⟩
  obtain ⟨hbx, hBV, hsz⟩ := boxes W p q V hV
  have hlt : ∀ i, tk o i → i < W.heap.size := fun i => hm.lt
  obtain ⟨d, hd⟩ : ∃ d, M n p.2.x q.x = d := ⟨_, rfl⟩
  have hmV : Mx V o n k := hm.below hBV hlt
  have HD : Hid (∀ W1, Below V.heap.size V W1 → Calls Try.prog 31 #[.pointer o, .agg #[.int .i64 p.2.x.tag, .slice p.2.a p.2.x.vec.length p.2.c, .string p.2.x.str], .agg #[.int .i64 q.x.tag, .slice q.a q.x.vec.length q.c, .string q.x.str]] W1 fun e w2 => e = .returned (.int .i64 d) ∧ Reads w2 W.heap.size p q ∧ Slot w2 W.heap.size (.int .u64 0) (.int .i64 0) ∧
      Hid (AskP W o n k (p.1, d) (.returned (.agg #[.int .u64 p.1, .int .i64 d])) ((w2.setCell ⟨W.heap.size + 1 + 1, 0, none⟩ (.int .u64 p.1)).setCell ⟨W.heap.size + 1 + 1, 1, none⟩ (.int .i64 d)) ∧
      ((w2.setCell ⟨W.heap.size + 1 + 1, 0, none⟩ (.int .u64 p.1)).setCell ⟨W.heap.size + 1 + 1, 1, none⟩ (.int .i64 d)).cell? ⟨W.heap.size + 1 + 1, 0, none⟩ = some (.int .u64 p.1) ∧
      ((w2.setCell ⟨W.heap.size + 1 + 1, 0, none⟩ (.int .u64 p.1)).setCell ⟨W.heap.size + 1 + 1, 1, none⟩ (.int .i64 d)).cell? ⟨W.heap.size + 1 + 1, 1, none⟩ = some (.int .i64 d))) := Lib.hid fun W1 hW => by
    have h := dist_mx (o := o) (n := n) (k := k) p.2 q hs (((s1.below hBV).below (hW.mono (by omega))).more (by have := hW.size; omega)) (((s2.below hBV).below (hW.mono (by omega))).more (by have := hW.size; omega)) (hmV.on hW) hk
    rw [hd] at h
    refine h.mono fun e w2 ⟨he, o2, hm2⟩ => ?_
    obtain ⟨e1, e2, e3, e4, e5⟩ := ask_end d (hBV.trans (hW.mono (by omega))) hlt (hbx.below hW (by omega)) o2 hm2
    exact ⟨he, e1.reads, e2, Lib.hid ⟨e3, e4, e5⟩⟩
  have hR := hbx.reads
  rw [hd]
  have HBV := Lib.hid hbx
  unfold iW oW
  clear hd hs s1 s2 hm hk hlt hmV hbx hBV hsz
  obtain ⟨id, pt⟩ := p
  dsimp only at *
  go_enter Try.func21, Try.ntmps21
  go_wp2_with (fail)
  rw [← hV]
  unfold Reads at hR
  obtain ⟨r0, r1, r2, r3, r4, r5, r6⟩ := hR
  clear hV
  go_region_law (first | (go_simp; go_at_call 31; (with_reducible refine (HD.out _ (by repeat' (first | (with_reducible exact Below.refl _ _) | (with_reducible assumption) | (with_reducible refine Below.drew ?_) | (with_reducible refine below_drewN' ?_ _)))).mono ?_); rintro e w2 ⟨rfl, ⟨y0, y1, y2, y3, y4, y5, y6⟩, ⟨x0, x1, xf, xg⟩, xE⟩))
  all_goals
    obtain ⟨V6, hV6⟩ : ∃ V6, V6 = ((w2.setCell ⟨W.heap.size + 1 + 1, 0, none⟩ (.int .u64 id)).setCell ⟨W.heap.size + 1 + 1, 1, none⟩ (.int .i64 d)) := ⟨_, rfl⟩
    rw [← hV6] at xE ⊢
    clear hV6
    go_wp2_with (fail)
    obtain ⟨XA, x5, x6⟩ := xE.out
    refine bodyPost_ret (v := .agg #[.int .u64 id, .int .i64 d]) (by simp [results, Try.results21, go_sem, x5, x6]) rfl ?_
    exact XA
end Go.Proofs.Ytimkbadjcdnjjaa.scan
