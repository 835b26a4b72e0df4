/-
  Program-free: the first number that is there already, or that comes twice; which aren't there; a set of numbers as a map.
-/
import Derived.Test.YtaamlidflfdjkaaRows
import Derived.Maps.OwnSet
namespace Go.Proofs.Ytaamlidflfdjkaa.idx
open Go.Maps
set_option linter.unusedVariables false

/-- is the number at a place there already, or at an earlier place? -/
def dup (p : Int → Bool) (l : List Int) (i : Nat) : Bool := match l[i]? with
  | some x => (l.take i).contains x || p x
  | none => false
/-- the first such place (how many there are, if there is none) -/
def fr (p : Int → Bool) (l : List Int) : Nat := ((List.range l.length).find? (dup p l)).getD l.length
def fe (p : Int → Bool) (l : List Int) : Int := if fr p l < l.length then 4 else 0
/-- those that aren't there -/
def ms (p : Int → Bool) (l : List Int) : List Int := l.filter fun x => !p x
section
variable {p q : Int → Bool} {l : List Int} {k : Nat}
theorem find_first {n : Nat} {f : Nat → Bool} (h : ∀ j, j < k → f j = false) (hk : f k = true) (hn : k < n) : (List.range n).find? f = some k := by
  have e : List.range n = List.range k ++ k :: (List.range n).drop (k + 1) := by
    have h1 : (List.range n)[k]'(by simpa using hn) = k := by simp
    have h2 := List.drop_eq_getElem_cons (l := List.range n) (i := k) (by simpa using hn)
    rw [h1] at h2
    rw [← h2]
    have h3 : List.range k = (List.range n).take k := by rw [List.take_range, Nat.min_eq_left (by omega)]
    rw [h3, List.take_append_drop]
  rw [e, List.find?_append, List.find?_eq_none.2 (fun j hj => by simpa using h j (by simpa using hj)), List.find?_cons_of_pos hk]
  rfl
theorem fr_here (h : ∀ j, j < k → dup p l j = false) (hk : dup p l k = true) (hn : k < l.length) : fr p l = k ∧ fe p l = 4 := by
  have e : fr p l = k := by unfold fr; rw [find_first h hk hn]; rfl
  exact ⟨e, by unfold fe; rw [e, if_pos hn]⟩
theorem fr_none (h : ∀ j, j < l.length → dup p l j = false) : fr p l = l.length ∧ fe p l = 0 := by
  have e : fr p l = l.length := by
    unfold fr
    rw [List.find?_eq_none.2 fun j hj => by simpa using h j (by simpa using hj)]
    rfl
  exact ⟨e, by unfold fe; rw [e, if_neg (by omega)]⟩
theorem dup_at {x : Int} (hx : l[k]? = some x) : dup p l k = ((l.take k).contains x || p x) := by unfold dup; rw [hx]
theorem fr_le : fr p l ≤ l.length := by
  unfold fr
  cases h : (List.range l.length).find? (dup p l) with
  | none => exact Nat.le_refl _
  | some j =>
    have := List.mem_of_find?_eq_some h
    simp at this
    show j ≤ l.length
    omega
theorem ms_snoc {x : Int} (hx : l[k]? = some x) : ms p (l.take (k + 1)) = ms p (l.take k) ++ (if p x then [] else [x]) := by
  rw [List.take_add_one, hx]
  unfold ms
  rw [List.filter_append]
  cases h : p x <;> simp [h]
theorem ms_le : (ms p l).length ≤ l.length := List.length_filter_le _ _
/-! ### a set of numbers, as a map without values -/
def Sd (l : List Int) : DataW Unit := setOf (.agg []) (l.map (Lit.int .u64))
theorem any_u64 (x : Int) : ∀ l : List Int, l.any ((fun y : Lit => y.sameKey (.int .u64 x)) ∘ Lit.int .u64) = l.contains x
  | [] => rfl
  | a :: r => by
    rw [List.any_cons, List.contains_cons, any_u64 x r]
    congr 1
    show decide (IntKind.u64 = IntKind.u64 ∧ a = x) = (x == a)
    by_cases e : a = x
    · subst e
      simp
    · have e' : ¬ x = a := fun h => e h.symm
      simp [e, e']
theorem has_Sd (l : List Int) (x : Int) : Maps.has (Sd l) (.int .u64 x) = l.contains x := by
  unfold Sd
  rw [has_setOf _ _ _ (fun y hy => by obtain ⟨_, _, rfl⟩ := List.mem_map.1 hy; trivial), List.any_map]
  exact any_u64 x _
theorem Sd_snoc {x : Int} (hx : l[k]? = some x) : (Sd (l.take k)).put (.int .u64 x) (.agg []) = Sd (l.take (k + 1)) := by
  unfold Sd
  rw [List.take_add_one, hx]
  simp only [Option.toList_some, List.map_append, List.map_cons, List.map_nil]
  rw [setOf_snoc]
theorem Sd_nil : Sd [] = .map [] := rfl
end
end Go.Proofs.Ytaamlidflfdjkaa.idx
