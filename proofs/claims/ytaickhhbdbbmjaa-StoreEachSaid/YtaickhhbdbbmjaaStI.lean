/-
  The contract of Items: a row of the call's own of all things, each in memory of its own, by rising numbers.
-/
import Derived.Test.YtaickhhbdbbmjaaStE
import Derived.Maps.OwnIn
namespace Go.Proofs.Ytaickhhbdbbmjaa.store
open Go.RowKit Go.Shelf law bytes only flat ord obj told
open aro (Kept)
set_option linter.unusedVariables false
attribute [local go_sem] Oper.semAt_some

/-- each thing's numbers lie in memory of the call's own -/
def Owns (n₀ : Nat) (W : World) (r : List (Int × Kept)) : Prop := ∀ q ∈ r, W.ownsRow n₀ 21 1 (.slice q.2.A q.2.x.vec.length q.2.c) q.2.x.vec.length (iv q.2.x.vec)
/-- all things, in memory of the call's own -/
def ItemsP (w : World) (M : List (Int × Thing)) (e : Ending) (w' : World) : Prop := ∃ A c, ∃ r : List (Int × Kept), e = .returned (.slice A r.length c) ∧ w'.ownsRow w.heap.size 31 4 (.slice A r.length c) r.length (r.flatMap iE) ∧ rM r = M ∧ Owns w.heap.size w' r ∧ Below w.heap.size w w'
/-- what has come so far lies in the row that the box gl holds -/
structure Is (w : World) (M : List (Int × Thing)) (gl : Nat) (C : Nat → Prop) (B : Nat) (pre : List (Int × Kept)) (W : World) : Prop where
  low : Below w.heap.size w W
  box : ∃ A c, Blk W gl 25 #[.slice A pre.length c] ∧ W.ownsRow w.heap.size 31 4 (.slice A pre.length c) pre.length (pre.flatMap iE) ∧ ∀ g, (Value.slice A pre.length c).ownBlock = some g → Mine C B g
  len : pre.length ≤ M.length
  took : rM pre = M.take pre.length
  owns : Owns w.heap.size W pre
theorem Is.kept {w W W2 : World} {M : List (Int × Thing)} {gl B : Nat} {C : Nat → Prop} {pre : List (Int × Kept)} {row : Option Nat} (h : Is w M gl C B pre W) (hg : W.grownBy W2 row) (hr : ∀ r, row = some r → w.heap.size ≤ r ∧ ∃ o : Obj, W.heap[r]? = some o ∧ o.isCells = false) : Is w M gl C B pre W2 := by
  obtain ⟨A, c, h1, h2, h3⟩ := h.box
  exact ⟨h.low.grown hg h.low.size (fun k e => (hr k e).1), ⟨A, c, blk_kept h1 hg (fun r e => (hr r e).2), own_kept h2 hg (fun r e => (hr r e).2), h3⟩, h.len, h.took, fun q hq => own_kept (h.owns q hq) hg (fun r e => (hr r e).2)⟩
/-- what an append of the next one, and its store, leave -/
theorem Is.next {w W w4 : World} {M : List (Int × Thing)} {gl B : Nat} {C : Nat → Prop} {pre : List (Int × Kept)} {x : Int × Kept} {A : Option Addr} {c : Nat} {v4 : Value} (h : Is w M gl C B pre W) (hpr : Pr w.heap.size M pre x W) (hgl : C gl) (hgw : w.heap.size ≤ gl) (hBW : B ≤ W.heap.size)
    (h1 : Blk W gl 25 #[.slice A pre.length c]) (h2 : W.ownsRow w.heap.size 31 4 (.slice A pre.length c) pre.length (pre.flatMap iE)) (h3 : ∀ g, (Value.slice A pre.length c).ownBlock = some g → Mine C B g)
    (ho : w4.ownsRow w.heap.size 31 4 v4 (pre.length + 1) (pre.flatMap iE ++ iE x)) (hg : (W.alloc (.cells (iE x).toArray 31)).grownBy w4 (Value.slice A pre.length c).ownBlock) (hv : v4.ownBlock = (Value.slice A pre.length c).ownBlock ∨ v4.ownBlock = some (W.alloc (.cells (iE x).toArray 31)).heap.size) :
    w4.cell? ⟨gl, 0, none⟩ = some (.slice A pre.length c) ∧ w4.frozen? ⟨gl, 0, none⟩ = false ∧ Only (Mine C B) W (w4.setCell ⟨gl, 0, none⟩ v4) ∧ Is w M gl C B (pre ++ [x]) (w4.setCell ⟨gl, 0, none⟩ v4) := by
  obtain ⟨hm1, hm2, hfit, hx⟩ := hpr
  have hne : (Value.slice A pre.length c).ownBlock ≠ some gl := blk_types h2 h1 (by decide)
  have hlt := h1.lt
  have h1' := (h1.alloc (.cells (iE x).toArray 31)).grown hg (fun e => hne e.symm)
  obtain ⟨A4, c4, rfl, -⟩ := own_slice ho
  have o1 : Only (Mine C B) W w4 := ((Only.refl (Mine C B) W).alloc _).trans (Only.of_grown hg (S := Mine C B) fun g e => .inl (h3 g e)) fun i e => .inl e
  have o2 := o1.setCell (p := ⟨gl, 0, none⟩) (.inl (.inl hgl)) (.slice A4 (pre.length + 1) c4)
  have hnew : (W.alloc (.cells (iE x).toArray 31)).heap.size = W.heap.size + 1 := by simp
  rw [hnew] at hv
  have hgl4 : ∀ g, (Value.slice A4 (pre.length + 1) c4).ownBlock = some g → g ≠ gl := fun g e e2 => by
    subst e2
    rcases hv with e1 | e1
    · exact hne (e1.symm.trans e)
    · rw [e1] at e; injection e with e; omega
  -- rows of numbers lie in other blocks
  have keep : ∀ q : Int × Kept, W.ownsRow w.heap.size 21 1 (.slice q.2.A q.2.x.vec.length q.2.c) q.2.x.vec.length (iv q.2.x.vec) → (w4.setCell ⟨gl, 0, none⟩ (.slice A4 (pre.length + 1) c4)).ownsRow w.heap.size 21 1 (.slice q.2.A q.2.x.vec.length q.2.c) q.2.x.vec.length (iv q.2.x.vec) := fun q hq => by
    have hq1 : (W.alloc (.cells (iE x).toArray 31)).ownsRow w.heap.size 21 1 (.slice q.2.A q.2.x.vec.length q.2.c) q.2.x.vec.length (iv q.2.x.vec) := World.ownsRow.alloc (w := W) hq _
    have hq2 : w4.ownsRow w.heap.size 21 1 (.slice q.2.A q.2.x.vec.length q.2.c) q.2.x.vec.length (iv q.2.x.vec) := own_only hq1 (S := fun i => (Value.slice A pre.length c).ownBlock = some i) (Only.of_grown hg fun g e => .inl e) fun g e e2 => own_types h2 hq (by decide) e2 e
    exact own_only hq2 (Only.setCell (S := (· = gl)) (p := ⟨gl, 0, none⟩) (Only.refl _ _) (.inl rfl) _) fun g e e2 => blk_types hq h1 (by decide) (by rw [e, show g = gl from e2])
  refine ⟨h1'.cell 0, h1'.frozen 0, o2, ⟨?_, ⟨A4, c4, ?_, ?_, ?_⟩, ?_, ?_, ?_⟩⟩
  · exact ((h.low.alloc h.low.size _).grown hg (by have := h.low.size; simp; omega) (fun g e => (own_lt h2 e).1)).setCell (p := ⟨gl, 0, none⟩) hgw _
  · rw [List.length_append]
    exact h1'.set_ 0 _
  · rw [List.length_append, List.flatMap_append]
    simpa using own_only ho (Only.setCell (S := (· = gl)) (p := ⟨gl, 0, none⟩) (Only.refl _ _) (.inl rfl) _) fun g e e2 => hgl4 g e e2
  · intro g e
    rw [List.length_append] at e
    rcases hv with e1 | e1
    · exact h3 g (e1.symm.trans e)
    · have e : (Value.slice A4 (pre.length + 1) c4).ownBlock = some g := e
      rw [e1] at e
      injection e with e
      exact .inr (by omega)
  · have := (List.getElem?_eq_some_iff.1 hm1).1
    simp
    omega
  · rw [List.length_append, show rM (pre ++ [x]) = rM pre ++ [(x.1, x.2.x)] by simp [rM], hm2, List.length_singleton, List.take_add_one, hm1]
    rfl
  · intro q hq
    rcases List.mem_append.1 hq with hq | hq
    · exact keep q (h.owns q hq)
    · obtain rfl : q = x := by simpa using hq
      exact keep q hx
end Go.Proofs.Ytaickhhbdbbmjaa.store
