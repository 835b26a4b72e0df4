/-
  Rows of items of the call's own, in parts; how two of them compare (ById's own order); what a comparison, an exchange of two places wants, and what it leaves.
-/
import Derived.Test.YtcdjmgmombaiaaaStbM
import Derived.Test.YtcdjmgmombaiaaaGItm
import Derived.Test.YtcdjmgmombaiaaaGHit
namespace Go.Proofs.Ytcdjmgmombaiaaa.stb
open Go.RowKit law bytes only flat ord obj
open aro (Kept zK kV)
open store (iE iE_len)
open hit (cmpU_any)
set_option linter.unusedVariables false

/-- what items are sorted by -/
def ky (p : Int × Kept) : Int := p.1
/-- ById's own order, as a value -/
def FV : Value := .func (.func 17) #[] #[]
theorem cmpI_lt (a b : Int) : decide (hit.cmpI a b < 0) = decide (a < b) := by
  unfold hit.cmpI
  split
  · simp_all
  · split <;> simp_all
set_option maxRecDepth 100000 in
set_option maxHeartbeats 800000 in
theorem byid_any (x y : Int × Kept) (w : World) : Calls Try.prog 17 #[.agg #[.int .u64 x.1, .int .i64 x.2.x.tag, .slice x.2.A x.2.x.vec.length x.2.c, .string x.2.x.str], .agg #[.int .u64 y.1, .int .i64 y.2.x.tag, .slice y.2.A y.2.x.vec.length y.2.c, .string y.2.x.str]] w fun e w' => e = .returned (.int .i64 (hit.cmpI x.1 y.1)) ∧ Below w.heap.size w w' := by
  obtain ⟨hb, hba, hbb⟩ := two_box w 36 #[.int .u64 x.1, .int .i64 x.2.x.tag, .slice x.2.A x.2.x.vec.length x.2.c, .string x.2.x.str] #[.int .u64 y.1, .int .i64 y.2.x.tag, .slice y.2.A y.2.x.vec.length y.2.c, .string y.2.x.str]
  have hvs : ((w.alloc (.cells #[.int .u64 x.1, .int .i64 x.2.x.tag, .slice x.2.A x.2.x.vec.length x.2.c, .string x.2.x.str] 36)).alloc (.cells #[.int .u64 y.1, .int .i64 y.2.x.tag, .slice y.2.A y.2.x.vec.length y.2.c, .string y.2.x.str] 36)).heap.size = w.heap.size + 2 := by simp
  have hx0 : ((w.alloc (.cells #[.int .u64 x.1, .int .i64 x.2.x.tag, .slice x.2.A x.2.x.vec.length x.2.c, .string x.2.x.str] 36)).alloc (.cells #[.int .u64 y.1, .int .i64 y.2.x.tag, .slice y.2.A y.2.x.vec.length y.2.c, .string y.2.x.str] 36)).cell? ⟨w.heap.size, 0, none⟩ = some (.int .u64 x.1) := hba.cell 0
  have hy0 : ((w.alloc (.cells #[.int .u64 x.1, .int .i64 x.2.x.tag, .slice x.2.A x.2.x.vec.length x.2.c, .string x.2.x.str] 36)).alloc (.cells #[.int .u64 y.1, .int .i64 y.2.x.tag, .slice y.2.A y.2.x.vec.length y.2.c, .string y.2.x.str] 36)).cell? ⟨w.heap.size + 1, 0, none⟩ = some (.int .u64 y.1) := hbb.cell 0
  have HC : Hid (∀ W, Calls Try.prog 18 #[.int .u64 x.1, .int .u64 y.1] W fun e w' => e = .returned (.int .i64 (hit.cmpI x.1 y.1)) ∧ W = w') := Lib.hid fun W => cmpU_any _ _ W
  have HB := Lib.hid hb
  clear hb hba hbb hvs
  go_enter Try.func17, Try.ntmps17
  go_wp2_with (fail)
  refine (HC.out _).mono ?_
  rintro e w2 ⟨rfl, rfl⟩
  go_wp2_with (fail)
  go_ret
  exact ⟨rfl, HB.out⟩

/-- a row of items of the call's own -/
def IRow (w : World) (base g n c : Nat) (l : List (Int × Kept)) : Prop := w.ownsRow base 36 4 (.slice (some ⟨g, 0, none⟩) n c) n (l.flatMap iE)
section
variable {w w' W : World} {base g n c i j : Nat} {l : List (Int × Kept)} {x y : Int × Kept}
theorem IRow.len (h : IRow w base g n c l) : l.length = n := by
  have := h.1
  rw [flat_length iE_len] at this
  omega
theorem IRow.lt (h : IRow w base g n c l) : g < w.heap.size := (own_lt h (g := g) rfl).2
theorem IRow.only {S : Nat → Prop} (h : IRow w base g n c l) (o : Only S w w') (hg : ¬ S g) : IRow w' base g n c l := own_only h o fun g' e => by
  simp only [Value.ownBlock, Option.some.injEq] at e
  rwa [← e]
theorem IRow.below {B : Nat} (h : IRow w base g n c l) (o : Below B w w') (hB : w.heap.size ≤ B) : IRow w' base g n c l := own_below h o hB
theorem IRow.drew_ (h : IRow w base g n c l) : IRow w.drew base g n c l := h
theorem IRow.frozen (h : IRow w base g n c l) (i : Nat) : w.frozen? ⟨g, i, none⟩ = false := by
  obtain ⟨hl, hn | ⟨g', cap, cur, hv, hg, hh, hnc, hcm, hcs, hx⟩⟩ := h
  · simp at hn
  · injection hv with e1 e2 e3
    injection e1 with e1
    injection e1 with e1
    subst e1
    exact Blk.frozen (w := w) (g := g) (t := 36) (cs := cur) hh i
theorem IRow.at_ (h : IRow w base g n c l) (hi : l[i]? = some x) : i < n ∧ w.cell? ⟨g, i * 4, none⟩ = some (.int .u64 x.1) ∧ w.cell? ⟨g, i * 4 + 1, none⟩ = some (.int .i64 x.2.x.tag) ∧ w.cell? ⟨g, i * 4 + 2, none⟩ = some (.slice x.2.A x.2.x.vec.length x.2.c) ∧ w.cell? ⟨g, i * 4 + 3, none⟩ = some (.string x.2.x.str) := by
  obtain ⟨h1, rfl⟩ := List.getElem?_eq_some_iff.1 hi
  have hl := h.len
  have k := fun j hj => own_cellK h iE_len (by omega) i j h1 hj
  exact ⟨by omega, k 0 (by decide), k 1 (by decide), k 2 (by decide), k 3 (by decide)⟩
theorem IRow.set (h : IRow w base g n c l) (i : Nat) (x : Int × Kept) (hi : i < l.length) : IRow ((((w.setCell ⟨g, i * 4, none⟩ (.int .u64 x.1)).setCell ⟨g, i * 4 + 1, none⟩ (.int .i64 x.2.x.tag)).setCell ⟨g, i * 4 + 2, none⟩ (.slice x.2.A x.2.x.vec.length x.2.c)).setCell ⟨g, i * 4 + 3, none⟩ (.string x.2.x.str)) base g n c (l.set i x) := own_setK h iE_len i x hi
/-- what a comparison of two places wants, and what it leaves -/
theorem cmp_step (hr : IRow w base g n c l) (hi : l[i]? = some x) (hj : l[j]? = some y) : i < n ∧ j < n ∧ ∃ r : Int, decide (r < 0) = decide (ky x < ky y) ∧
    Hid (∀ W, Below w.heap.size w W → W.cell? ⟨g, i * 4, none⟩ = some (.int .u64 x.1) ∧ W.cell? ⟨g, i * 4 + 1, none⟩ = some (.int .i64 x.2.x.tag) ∧ W.cell? ⟨g, i * 4 + 2, none⟩ = some (.slice x.2.A x.2.x.vec.length x.2.c) ∧ W.cell? ⟨g, i * 4 + 3, none⟩ = some (.string x.2.x.str) ∧ W.cell? ⟨g, j * 4, none⟩ = some (.int .u64 y.1) ∧ W.cell? ⟨g, j * 4 + 1, none⟩ = some (.int .i64 y.2.x.tag) ∧ W.cell? ⟨g, j * 4 + 2, none⟩ = some (.slice y.2.A y.2.x.vec.length y.2.c) ∧ W.cell? ⟨g, j * 4 + 3, none⟩ = some (.string y.2.x.str)) ∧
    Hid (∀ W, Below w.heap.size w W → Calls Try.prog 17 #[.agg #[.int .u64 x.1, .int .i64 x.2.x.tag, .slice x.2.A x.2.x.vec.length x.2.c, .string x.2.x.str], .agg #[.int .u64 y.1, .int .i64 y.2.x.tag, .slice y.2.A y.2.x.vec.length y.2.c, .string y.2.x.str]] W fun e w' => e = .returned (.int .i64 r) ∧ Below w.heap.size w w') ∧
    w.cell? ⟨g, i * 4, none⟩ = some (.int .u64 x.1) ∧ w.cell? ⟨g, i * 4 + 1, none⟩ = some (.int .i64 x.2.x.tag) ∧ w.cell? ⟨g, i * 4 + 2, none⟩ = some (.slice x.2.A x.2.x.vec.length x.2.c) ∧ w.cell? ⟨g, i * 4 + 3, none⟩ = some (.string x.2.x.str) ∧ w.cell? ⟨g, j * 4, none⟩ = some (.int .u64 y.1) ∧ w.cell? ⟨g, j * 4 + 1, none⟩ = some (.int .i64 y.2.x.tag) ∧ w.cell? ⟨g, j * 4 + 2, none⟩ = some (.slice y.2.A y.2.x.vec.length y.2.c) ∧ w.cell? ⟨g, j * 4 + 3, none⟩ = some (.string y.2.x.str) := by
  have hS := fun W (hW : Below w.heap.size w W) => And.intro ((hr.below hW (Nat.le_refl _)).at_ hi) ((hr.below hW (Nat.le_refl _)).at_ hj)
  have hS2 : ∀ W, Below w.heap.size w W → W.cell? ⟨g, i * 4, none⟩ = some (.int .u64 x.1) ∧ W.cell? ⟨g, i * 4 + 1, none⟩ = some (.int .i64 x.2.x.tag) ∧ W.cell? ⟨g, i * 4 + 2, none⟩ = some (.slice x.2.A x.2.x.vec.length x.2.c) ∧ W.cell? ⟨g, i * 4 + 3, none⟩ = some (.string x.2.x.str) ∧ W.cell? ⟨g, j * 4, none⟩ = some (.int .u64 y.1) ∧ W.cell? ⟨g, j * 4 + 1, none⟩ = some (.int .i64 y.2.x.tag) ∧ W.cell? ⟨g, j * 4 + 2, none⟩ = some (.slice y.2.A y.2.x.vec.length y.2.c) ∧ W.cell? ⟨g, j * 4 + 3, none⟩ = some (.string y.2.x.str) := fun W hW => by
    obtain ⟨⟨-, a0, a1, a2, a3⟩, -, b0, b1, b2, b3⟩ := hS W hW
    exact ⟨a0, a1, a2, a3, b0, b1, b2, b3⟩
  exact ⟨(hr.at_ hi).1, (hr.at_ hj).1, hit.cmpI x.1 y.1, cmpI_lt _ _, Lib.hid hS2, Lib.hid fun W hW => (byid_any x y W).mono fun e w' ⟨he, hb'⟩ => ⟨he, hW.trans (hb'.mono hW.size)⟩, hS2 w (Below.refl _ _)⟩
/-- what an exchange of two places wants, and what it leaves -/
theorem swap_step (hr : IRow W base g n c l) (hi : l[i]? = some x) (hj : l[j]? = some y) (ho : Only (· = g) w W) : i < n ∧ j < n ∧ (W.cell? ⟨g, i * 4, none⟩ = some (.int .u64 x.1) ∧ W.cell? ⟨g, i * 4 + 1, none⟩ = some (.int .i64 x.2.x.tag) ∧ W.cell? ⟨g, i * 4 + 2, none⟩ = some (.slice x.2.A x.2.x.vec.length x.2.c) ∧ W.cell? ⟨g, i * 4 + 3, none⟩ = some (.string x.2.x.str) ∧ W.cell? ⟨g, j * 4, none⟩ = some (.int .u64 y.1) ∧ W.cell? ⟨g, j * 4 + 1, none⟩ = some (.int .i64 y.2.x.tag) ∧ W.cell? ⟨g, j * 4 + 2, none⟩ = some (.slice y.2.A y.2.x.vec.length y.2.c) ∧ W.cell? ⟨g, j * 4 + 3, none⟩ = some (.string y.2.x.str)) ∧
    (W.frozen? ⟨g, i * 4, none⟩ = false ∧ W.frozen? ⟨g, i * 4 + 1, none⟩ = false ∧ W.frozen? ⟨g, i * 4 + 2, none⟩ = false ∧ W.frozen? ⟨g, i * 4 + 3, none⟩ = false ∧ W.frozen? ⟨g, j * 4, none⟩ = false ∧ W.frozen? ⟨g, j * 4 + 1, none⟩ = false ∧ W.frozen? ⟨g, j * 4 + 2, none⟩ = false ∧ W.frozen? ⟨g, j * 4 + 3, none⟩ = false) ∧
    (∃ u0 u1 u2 u3 : Value, ((((W.setCell ⟨g, i * 4, none⟩ (.int .u64 y.1)).setCell ⟨g, i * 4 + 1, none⟩ (.int .i64 y.2.x.tag)).setCell ⟨g, i * 4 + 2, none⟩ (.slice y.2.A y.2.x.vec.length y.2.c)).setCell ⟨g, i * 4 + 3, none⟩ (.string y.2.x.str)).cell? ⟨g, j * 4, none⟩ = some u0 ∧ ((((W.setCell ⟨g, i * 4, none⟩ (.int .u64 y.1)).setCell ⟨g, i * 4 + 1, none⟩ (.int .i64 y.2.x.tag)).setCell ⟨g, i * 4 + 2, none⟩ (.slice y.2.A y.2.x.vec.length y.2.c)).setCell ⟨g, i * 4 + 3, none⟩ (.string y.2.x.str)).cell? ⟨g, j * 4 + 1, none⟩ = some u1 ∧ ((((W.setCell ⟨g, i * 4, none⟩ (.int .u64 y.1)).setCell ⟨g, i * 4 + 1, none⟩ (.int .i64 y.2.x.tag)).setCell ⟨g, i * 4 + 2, none⟩ (.slice y.2.A y.2.x.vec.length y.2.c)).setCell ⟨g, i * 4 + 3, none⟩ (.string y.2.x.str)).cell? ⟨g, j * 4 + 2, none⟩ = some u2 ∧ ((((W.setCell ⟨g, i * 4, none⟩ (.int .u64 y.1)).setCell ⟨g, i * 4 + 1, none⟩ (.int .i64 y.2.x.tag)).setCell ⟨g, i * 4 + 2, none⟩ (.slice y.2.A y.2.x.vec.length y.2.c)).setCell ⟨g, i * 4 + 3, none⟩ (.string y.2.x.str)).cell? ⟨g, j * 4 + 3, none⟩ = some u3 ∧ (((((W.setCell ⟨g, i * 4, none⟩ (.int .u64 y.1)).setCell ⟨g, i * 4 + 1, none⟩ (.int .i64 y.2.x.tag)).setCell ⟨g, i * 4 + 2, none⟩ (.slice y.2.A y.2.x.vec.length y.2.c)).setCell ⟨g, i * 4 + 3, none⟩ (.string y.2.x.str)).setCell ⟨g, j * 4, none⟩ (.int .u64 x.1)).cell? ⟨g, j * 4 + 1, none⟩ = some u1 ∧ (((((W.setCell ⟨g, i * 4, none⟩ (.int .u64 y.1)).setCell ⟨g, i * 4 + 1, none⟩ (.int .i64 y.2.x.tag)).setCell ⟨g, i * 4 + 2, none⟩ (.slice y.2.A y.2.x.vec.length y.2.c)).setCell ⟨g, i * 4 + 3, none⟩ (.string y.2.x.str)).setCell ⟨g, j * 4, none⟩ (.int .u64 x.1)).cell? ⟨g, j * 4 + 2, none⟩ = some u2 ∧ (((((W.setCell ⟨g, i * 4, none⟩ (.int .u64 y.1)).setCell ⟨g, i * 4 + 1, none⟩ (.int .i64 y.2.x.tag)).setCell ⟨g, i * 4 + 2, none⟩ (.slice y.2.A y.2.x.vec.length y.2.c)).setCell ⟨g, i * 4 + 3, none⟩ (.string y.2.x.str)).setCell ⟨g, j * 4, none⟩ (.int .u64 x.1)).cell? ⟨g, j * 4 + 3, none⟩ = some u3 ∧ ((((((W.setCell ⟨g, i * 4, none⟩ (.int .u64 y.1)).setCell ⟨g, i * 4 + 1, none⟩ (.int .i64 y.2.x.tag)).setCell ⟨g, i * 4 + 2, none⟩ (.slice y.2.A y.2.x.vec.length y.2.c)).setCell ⟨g, i * 4 + 3, none⟩ (.string y.2.x.str)).setCell ⟨g, j * 4, none⟩ (.int .u64 x.1)).setCell ⟨g, j * 4 + 1, none⟩ (.int .i64 x.2.x.tag)).cell? ⟨g, j * 4 + 2, none⟩ = some u2 ∧ ((((((W.setCell ⟨g, i * 4, none⟩ (.int .u64 y.1)).setCell ⟨g, i * 4 + 1, none⟩ (.int .i64 y.2.x.tag)).setCell ⟨g, i * 4 + 2, none⟩ (.slice y.2.A y.2.x.vec.length y.2.c)).setCell ⟨g, i * 4 + 3, none⟩ (.string y.2.x.str)).setCell ⟨g, j * 4, none⟩ (.int .u64 x.1)).setCell ⟨g, j * 4 + 1, none⟩ (.int .i64 x.2.x.tag)).cell? ⟨g, j * 4 + 3, none⟩ = some u3 ∧ (((((((W.setCell ⟨g, i * 4, none⟩ (.int .u64 y.1)).setCell ⟨g, i * 4 + 1, none⟩ (.int .i64 y.2.x.tag)).setCell ⟨g, i * 4 + 2, none⟩ (.slice y.2.A y.2.x.vec.length y.2.c)).setCell ⟨g, i * 4 + 3, none⟩ (.string y.2.x.str)).setCell ⟨g, j * 4, none⟩ (.int .u64 x.1)).setCell ⟨g, j * 4 + 1, none⟩ (.int .i64 x.2.x.tag)).setCell ⟨g, j * 4 + 2, none⟩ (.slice x.2.A x.2.x.vec.length x.2.c)).cell? ⟨g, j * 4 + 3, none⟩ = some u3) ∧
    Hid (IRow ((((((((W.setCell ⟨g, i * 4, none⟩ (.int .u64 y.1)).setCell ⟨g, i * 4 + 1, none⟩ (.int .i64 y.2.x.tag)).setCell ⟨g, i * 4 + 2, none⟩ (.slice y.2.A y.2.x.vec.length y.2.c)).setCell ⟨g, i * 4 + 3, none⟩ (.string y.2.x.str)).setCell ⟨g, j * 4, none⟩ (.int .u64 x.1)).setCell ⟨g, j * 4 + 1, none⟩ (.int .i64 x.2.x.tag)).setCell ⟨g, j * 4 + 2, none⟩ (.slice x.2.A x.2.x.vec.length x.2.c)).setCell ⟨g, j * 4 + 3, none⟩ (.string x.2.x.str)).drew base g n c ((l.set i y).set j x)) ∧
    Hid (Only (· = g) w ((((((((W.setCell ⟨g, i * 4, none⟩ (.int .u64 y.1)).setCell ⟨g, i * 4 + 1, none⟩ (.int .i64 y.2.x.tag)).setCell ⟨g, i * 4 + 2, none⟩ (.slice y.2.A y.2.x.vec.length y.2.c)).setCell ⟨g, i * 4 + 3, none⟩ (.string y.2.x.str)).setCell ⟨g, j * 4, none⟩ (.int .u64 x.1)).setCell ⟨g, j * 4 + 1, none⟩ (.int .i64 x.2.x.tag)).setCell ⟨g, j * 4 + 2, none⟩ (.slice x.2.A x.2.x.vec.length x.2.c)).setCell ⟨g, j * 4 + 3, none⟩ (.string x.2.x.str)).drew) := by
  obtain ⟨h1, a0, a1, a2, a3⟩ := hr.at_ hi
  obtain ⟨h2, b0, b1, b2, b3⟩ := hr.at_ hj
  have hl := hr.len
  have hs := hr.set i y (by omega)
  have hjs : ∃ z, (l.set i y)[j]? = some z := ⟨_, List.getElem?_eq_getElem (by simp; omega)⟩
  obtain ⟨z, hz⟩ := hjs
  obtain ⟨-, e0, e1, e2, e3⟩ := hs.at_ hz
  exact ⟨h1, h2, ⟨a0, a1, a2, a3, b0, b1, b2, b3⟩, ⟨hr.frozen _, hr.frozen _, hr.frozen _, hr.frozen _, hr.frozen _, hr.frozen _, hr.frozen _, hr.frozen _⟩,
    ⟨_, _, _, _, e0, e1, e2, e3, by rw [World.cell?_setCell_other _ _ _ _ (by simp)]; exact e1, by rw [World.cell?_setCell_other _ _ _ _ (by simp)]; exact e2, by rw [World.cell?_setCell_other _ _ _ _ (by simp)]; exact e3,
      by rw [World.cell?_setCell_other _ _ _ _ (by simp), World.cell?_setCell_other _ _ _ _ (by simp)]; exact e2, by rw [World.cell?_setCell_other _ _ _ _ (by simp), World.cell?_setCell_other _ _ _ _ (by simp)]; exact e3,
      by rw [World.cell?_setCell_other _ _ _ _ (by simp), World.cell?_setCell_other _ _ _ _ (by simp), World.cell?_setCell_other _ _ _ _ (by simp)]; exact e3⟩,
    Lib.hid (hs.set j x (by simp; omega)).drew_, Lib.hid (((((((((ho.setCell (.inl rfl) _).setCell (.inl rfl) _).setCell (.inl rfl) _).setCell (.inl rfl) _).setCell (.inl rfl) _).setCell (.inl rfl) _).setCell (.inl rfl) _).setCell (.inl rfl) _).drew)⟩
end
theorem w64 {a b : Int} (h : a = b) (h1 : -9223372036854775808 ≤ a) (h2 : a < 9223372036854775808) : IntKind.i64.wrap a = b := by rw [IntKind.wrap_i64]; omega
end Go.Proofs.Ytcdjmgmombaiaaa.stb
