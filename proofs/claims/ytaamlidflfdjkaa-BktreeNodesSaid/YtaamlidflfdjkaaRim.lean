/-
  Program-free: things by rising numbers, found, put in, taken out; what is of a number in a row of items; an item as a value.
-/
import Derived.Test.YtaamlidflfdjkaaGItm
namespace Go.Proofs.Ytaamlidflfdjkaa.store
open Go.RowKit law bytes only flat ord obj
open aro (Kept zK)
set_option linter.unusedVariables false

/-- a thing of a number -/
def mf (M : List (Int × Thing)) (id : Int) : Option Thing := (M.find? fun x => x.1 == id).map (·.2)
/-- one more, at its place -/
def insM (M : List (Int × Thing)) (id : Int) (x : Thing) : List (Int × Thing) := (M.filter fun y => decide (y.1 < id)) ++ (id, x) :: M.filter fun y => decide (id < y.1)
def putM (M : List (Int × Thing)) (id : Int) (x : Thing) : List (Int × Thing) := if (mf M id).isSome = true then M else insM M id x
/-- without one -/
def delM (M : List (Int × Thing)) (id : Int) : List (Int × Thing) := M.filter fun y => y.1 != id
theorem putM_length (M : List (Int × Thing)) (id : Int) (x : Thing) : (putM M id x).length ≤ M.length + 1 := by
  unfold putM
  split
  · omega
  · rename_i h
    have hn : mf M id = none := by simpa using h
    have hne : ∀ y ∈ M, y.1 ≠ id := fun y hy e => by
      unfold mf at hn
      have h1 : M.find? (fun x => x.1 == id) = none := by simpa using hn
      have := List.find?_eq_none.1 h1 y hy
      simp [e] at this
    unfold insM
    rw [List.length_append, List.length_cons]
    have key : ∀ l : List (Int × Thing), (l.filter fun y => decide (y.1 < id)).length + (l.filter fun y => decide (id < y.1)).length ≤ l.length := by
      intro l
      induction l with
      | nil => simp
      | cons a l ih =>
        simp only [List.filter_cons]
        by_cases h1 : a.1 < id
        · rw [if_pos (by simpa using h1), if_neg (by simp; omega)]
          simp only [List.length_cons]
          omega
        · by_cases h2 : id < a.1
          · rw [if_neg (by simpa using h1), if_pos (by simpa using h2)]
            simp only [List.length_cons]
            omega
          · rw [if_neg (by simpa using h1), if_neg (by simpa using h2)]
            simp only [List.length_cons]
            omega
    have := key M
    omega
theorem delM_length (M : List (Int × Thing)) (id : Int) : (delM M id).length ≤ M.length := List.length_filter_le _ _
/-- what is of a number in a row of items -/
def gq (q : List (Int × Kept)) (id : Int) : Option Kept := (q.find? fun p => p.1 == id).map (·.2)
theorem gq_rM (q : List (Int × Kept)) (id : Int) : mf (rM q) id = (gq q id).map (·.x) := by
  unfold mf rM gq
  rw [List.find?_map]
  cases h : List.find? ((fun x : Int × Thing => x.1 == id) ∘ fun p : Int × Kept => (p.1, p.2.x)) q with
  | none =>
    have h2 : q.find? (fun p => p.1 == id) = none := h
    rw [h2]; rfl
  | some p =>
    have h2 : q.find? (fun p => p.1 == id) = some p := h
    rw [h2]; rfl
theorem gq_take_none {q : List (Int × Kept)} {id : Int} (h : ∀ p ∈ q, p.1 ≠ id) : gq q id = none := by
  unfold gq
  rw [List.find?_eq_none.2 fun p hp => by simpa using h p hp]
  rfl
theorem gq_here {q : List (Int × Kept)} {id : Int} {k : Nat} (hk : k < q.length) (h : ∀ p ∈ q.take k, p.1 ≠ id) (he : q[k].1 = id) : gq q id = some q[k].2 := by
  unfold gq
  have e : q = q.take k ++ q[k] :: q.drop (k + 1) := by rw [← List.drop_eq_getElem_cons hk, List.take_append_drop]
  have h1 : (q.take k).find? (fun p => p.1 == id) = none := List.find?_eq_none.2 fun p hp => by simpa using h p hp
  have h2 : q.find? (fun p => p.1 == id) = some q[k] := by
    conv => lhs; rw [e]
    rw [List.find?_append, h1, List.find?_cons_of_pos (by simp [he])]
    rfl
  rw [h2]
  rfl
/-- an item's value -/
def iV (id : Int) (k : Kept) : Value := .agg #[.int .u64 id, .int .i64 k.x.tag, .slice k.A k.x.vec.length k.c, .string k.x.str]
theorem cells4' {w : World} {b t : Nat} {x0 x1 x2 x3 : Value} (h : Blk w b t #[x0, x1, x2, x3]) : w.cell? ⟨b, 0, none⟩ = some x0 ∧ w.cell? ⟨b, 1, none⟩ = some x1 ∧ w.cell? ⟨b, 2, none⟩ = some x2 ∧ w.cell? ⟨b, 3, none⟩ = some x3 ∧ (∀ i, w.frozen? ⟨b, i, none⟩ = false) :=
  ⟨h.cell 0, h.cell 1, h.cell 2, h.cell 3, fun i => h.frozen i⟩
end Go.Proofs.Ytaamlidflfdjkaa.store
