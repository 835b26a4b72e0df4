/-
  The contracts of object.Right and the document's own, Tag, Same, Clone's parts; what lives.
-/
import Derived.Test.YtaickhhbdbbmjaaThing
import Derived.Test.YtaickhhbdbbmjaaQuiet
import Derived.Lib.Hide
import Derived.Deep.QuietTactic
import Derived.BigQuiet
import Derived.WalkSpells
namespace Go.Proofs.Ytaickhhbdbbmjaa.obj
open Go.RowKit law bytes nums ord
set_option linter.unusedVariables false

/-- a value, and nothing that there was has turned -/
def Gives (v : Value) (w : World) (e : Ending) (w' : World) : Prop := e = .returned v ∧ Below w.heap.size w w'
theorem cells3 {w : World} {b t : Nat} {x0 x1 x2 : Value} (h : Blk w b t #[x0, x1, x2]) : w.cell? ⟨b, 0, none⟩ = some x0 ∧ w.cell? ⟨b, 1, none⟩ = some x1 ∧ w.cell? ⟨b, 2, none⟩ = some x2 ∧ (∀ i, w.frozen? ⟨b, i, none⟩ = false) := ⟨h.cell 0, h.cell 1, h.cell 2, h.frozen⟩
theorem box_blk (w : World) (t : Nat) (cs : Array Value) : Below w.heap.size w (w.alloc (.cells cs t)) := (Below.refl _ w).alloc (Nat.le_refl _) _
def U64' (n : Nat) : Prop := n < 18446744073709551616
/-- the tests of object.Right: not of a length, another tag, a size that may not be -/
theorem right_len (x : Thing) (m s : Int) : rightO x m s = if (lenO x).2 = false ∨ x.tag ≠ tagOf m ∨ s < 0 ∨ 65536 < s then false else decide ((lenO x).1 = s ∨ (m = 3 ∧ (lenO x).1 < s)) := by
  unfold rightO lenO tagOf
  have hv : (0 : Int) ≤ (x.vec.length : Int) := by omega
  by_cases hs : s < 0 ∨ 65536 < s
  · rw [if_pos hs, if_pos (by rcases hs with h | h <;> simp [h])]
  rw [if_neg hs]
  have hs1 : ¬ s < 0 := fun h => hs (.inl h)
  have hs2 : ¬ 65536 < s := fun h => hs (.inr h)
  by_cases h1 : m = 1
  · subst h1
    by_cases t2 : x.tag = 2
    · simp [t2, hs1, hs2]
    · by_cases t1 : x.tag = 1
      · by_cases h0 : x.str.size = 0 <;> simp [t1, h0, hs1, hs2]
      · simp [t1, t2]
  by_cases h2 : m = 2
  · subst h2
    by_cases t2 : x.tag = 2
    · by_cases h0 : x.vec.length = 0 <;> simp [t2, h0, hs1, hs2]
      all_goals simp_all
    · simp [t2]
  by_cases h3 : m = 3
  · subst h3
    by_cases t2 : x.tag = 2
    · by_cases h0 : x.vec.length = 0 <;> simp [t2, h0, hs1, hs2]
      all_goals (first | omega | (rw [Bool.eq_iff_iff]; simp; omega) | simp_all)
    · simp [t2]
  · simp only [h1, h2, h3, if_false]
    by_cases t2 : x.tag = 2
    · simp [t2]
    · by_cases t1 : x.tag = 1
      · simp [t1]
      · simp [t1, t2]

end Go.Proofs.Ytaickhhbdbbmjaa.obj
