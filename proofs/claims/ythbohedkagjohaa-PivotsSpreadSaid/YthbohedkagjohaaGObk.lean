/-
  Several texts in one.
-/
import Derived.Test.YthbohedkagjohaaGObj
import Derived.Test.YthbohedkagjohaaShelf
/-
  The contracts of object.Cmp, object.Clone, and the document's own order.
-/
namespace Go.Proofs.Ythbohedkagjohaa.obj
open Go.RowKit law bytes nums ord
set_option linter.unusedVariables false

theorem int32E : Elem Try.prog 21 (.int .i32 0) 4 := elem_mk (by kernel_rfl) rfl
end Go.Proofs.Ythbohedkagjohaa.obj
/-
  The contracts of the document's own order of things, and of object.Clone.
-/
namespace Go.Proofs.Ythbohedkagjohaa.obj
open Go.RowKit law bytes nums ord
set_option linter.unusedVariables false

theorem less_str (a b : ByteArray) : Op.bytesLess a.toList b.toList = decide (cmpL cmpC (tl a) (tl b) < 0) := by
  rw [less_lib, Lib.toList_data, Lib.toList_data]
  rfl
end Go.Proofs.Ythbohedkagjohaa.obj
/-
  The contracts of object.Clone and of the document's own Same.
-/
namespace Go.Proofs.Ythbohedkagjohaa.obj
open Go.RowKit law bytes nums ord
set_option linter.unusedVariables false

theorem own_base {w : World} {base base' : Nat} {e : TypeId} {size n : Nat} {v : Value} {xs : List Value} (h : w.ownsRow base' e size v n xs) (hb : base ≤ base') : w.ownsRow base e size v n xs := by
  refine ⟨h.1, ?_⟩
  rcases h.2 with hn | ⟨g, cap, cur, hv, hg, rest⟩
  · exact .inl hn
  · exact .inr ⟨g, cap, cur, hv, Nat.le_trans hb hg, rest⟩
theorem on' {P : Program} {f : FuncId} {args : Array Value} {V W : World} {v : Value} (hb : Below V.heap.size V W) (h : Calls P f args W (Gives v W)) : Calls P f args W fun e w' => e = .returned v ∧ Below W.heap.size W w' ∧ Below V.heap.size V w' :=
  h.mono fun e w' ⟨he, h2⟩ => ⟨he, h2, hb.trans (h2.mono hb.size)⟩
theorem made_on {P : Program} {f : FuncId} {args : Array Value} {V W : World} {t : TypeId} {xs : List Value} {n : Nat} (hb : Below V.heap.size V W) (hn : xs.length = n) (h : Calls P f args W (Made t xs W)) :
    Calls P f args W fun e w' => ∃ A c, e = .returned (.slice A n c) ∧ w'.ownsRow V.heap.size t 1 (.slice A n c) n xs ∧ Below V.heap.size V w' := by
  subst hn
  exact h.mono fun e w' ⟨A, c, he, ho, h2⟩ => ⟨A, c, he, own_base ho hb.size, hb.trans (h2.mono hb.size)⟩
theorem Below.three {B : Nat} {w V : World} (h : Below B w V) {b : Nat} (hb : B ≤ b) (u0 u1 u2 : Value) : Below B w (((V.setCell ⟨b, 0, none⟩ u0).setCell ⟨b, 1, none⟩ u1).setCell ⟨b, 2, none⟩ u2) :=
  ((h.setCell (p := ⟨b, 0, none⟩) hb u0).setCell (p := ⟨b, 1, none⟩) hb u1).setCell (p := ⟨b, 2, none⟩) hb u2
theorem own_three {V : World} {base b n : Nat} {t : TypeId} {v : Value} {xs : List Value} (h : V.ownsRow base t 1 v n xs) (hb : b < base) (u0 u1 u2 : Value) : (((V.setCell ⟨b, 0, none⟩ u0).setCell ⟨b, 1, none⟩ u1).setCell ⟨b, 2, none⟩ u2).ownsRow base t 1 v n xs :=
  ownsRow_setCell_below (ownsRow_setCell_below (ownsRow_setCell_below h hb _) hb _) hb _
/-- a copy, in memory of its own -/
def Cloned (x : Thing) (w : World) (e : Ending) (w' : World) : Prop := ∃ A c, e = .returned (.agg #[.int .i64 x.tag, .slice A x.vec.length c, .string x.str]) ∧ Sl w' w'.heap.size A (iv x.vec) ∧ Below w.heap.size w w'
end Go.Proofs.Ythbohedkagjohaa.obj
