/-
  Program-free: things by rising numbers: found, put in, taken out; as a directory's numbers with the things of their slots.
-/
import Derived.Test.YtaickhhbdbbmjaaAoM
import Derived.Test.YtaickhhbdbbmjaaDirM
import Derived.Test.YtaickhhbdbbmjaaAo
namespace Go.Proofs.Ytaickhhbdbbmjaa.store
open ord direct aro

/-- a thing of a number -/
def mf (M : List (Int × Thing)) (id : Int) : Option Thing := (M.find? fun x => x.1 == id).map (·.2)
/-- one more, at its place -/
def insM (M : List (Int × Thing)) (id : Int) (x : Thing) : List (Int × Thing) := (M.filter fun y => decide (y.1 < id)) ++ (id, x) :: M.filter fun y => decide (id < y.1)
def putM (M : List (Int × Thing)) (id : Int) (x : Thing) : List (Int × Thing) := if (mf M id).isSome = true then M else insM M id x
/-- without one -/
def delM (M : List (Int × Thing)) (id : Int) : List (Int × Thing) := M.filter fun y => y.1 != id
/-- what a directory's numbers have in their slots -/
def its (d : List (Option Kept)) (F : List (Int × Int)) : List (Int × Thing) := F.map fun p => (p.1, (kx (gt d p.2)).x)
theorem its_length (d : List (Option Kept)) (F : List (Int × Int)) : (its d F).length = F.length := by simp [its]
section
variable {d d' : List (Option Kept)} {F : List (Int × Int)} {id s : Int} {x : Thing}
theorem mf_its (d : List (Option Kept)) (F : List (Int × Int)) (id : Int) : mf (its d F) id = (fd F id).map fun s => (kx (gt d s)).x := by
  unfold mf its fd
  rw [List.find?_map]
  cases h : List.find? ((fun x : Int × Thing => x.1 == id) ∘ fun p : Int × Int => (p.1, (kx (gt d p.2)).x)) F with
  | none =>
    have h2 : F.find? (fun x => x.1 == id) = none := h
    rw [h2]
    rfl
  | some p =>
    have h2 : F.find? (fun x => x.1 == id) = some p := h
    rw [h2]
    rfl
theorem mf_isSome (d : List (Option Kept)) (F : List (Int × Int)) (id : Int) : (mf (its d F) id).isSome = (fd F id).isSome := by
  rw [mf_its]
  simp
theorem its_same (h : ∀ p ∈ F, gt d' p.2 = gt d p.2) : its d' F = its d F := by
  unfold its
  refine List.map_congr_left fun p hp => ?_
  rw [h p hp]
theorem its_append (d : List (Option Kept)) (F G : List (Int × Int)) : its d (F ++ G) = its d F ++ its d G := by simp [its]
theorem its_filter (d : List (Option Kept)) (F : List (Int × Int)) (q : Int → Bool) : its d (F.filter fun p => q p.1) = (its d F).filter fun y => q y.1 := by
  unfold its
  rw [List.filter_map]
  rfl
theorem its_ins (h : ∀ p ∈ F, gt d' p.2 = gt d p.2) (hs : (kx (gt d' s)).x = x) : its d' (ins F id s) = insM (its d F) id x := by
  unfold ins insM
  have e1 := its_filter d' F fun i => decide (i < id)
  have e2 := its_filter d' F fun i => decide (id < i)
  rw [its_same h] at e1 e2
  rw [its_append, e1]
  show _ ++ (id, (kx (gt d' s)).x) :: its d' (F.filter fun x => decide (id < x.1)) = _
  rw [e2, hs]
theorem its_del (h : ∀ p ∈ del F id, gt d' p.2 = gt d p.2) : its d' (del F id) = delM (its d F) id := by
  rw [its_same h]
  exact its_filter d F fun i => i != id
end
theorem putM_length (M : List (Int × Thing)) (id : Int) (x : Thing) : (putM M id x).length ≤ M.length + 1 := by
  unfold putM
  split
  · omega
  · rename_i h
    have hn : mf M id = none := by simpa using h
    have hne : ∀ y ∈ M, y.1 ≠ id := fun y hy e => by
      unfold mf at hn
      have h1 : M.find? (fun x => x.1 == id) = none := by simpa using hn
      have := List.find?_eq_none.1 h1 y hy
      simp [e] at this
    unfold insM
    rw [List.length_append, List.length_cons]
    have key : ∀ l : List (Int × Thing), (l.filter fun y => decide (y.1 < id)).length + (l.filter fun y => decide (id < y.1)).length ≤ l.length := by
      intro l
      induction l with
      | nil => simp
      | cons a l ih =>
        simp only [List.filter_cons]
        by_cases h1 : a.1 < id
        · rw [if_pos (by simpa using h1), if_neg (by simp; omega)]
          simp only [List.length_cons]
          omega
        · by_cases h2 : id < a.1
          · rw [if_neg (by simpa using h1), if_pos (by simpa using h2)]
            simp only [List.length_cons]
            omega
          · rw [if_neg (by simpa using h1), if_neg (by simpa using h2)]
            simp only [List.length_cons]
            omega
    have := key M
    omega
theorem delM_length (M : List (Int × Thing)) (id : Int) : (delM M id).length ≤ M.length := List.length_filter_le _ _
end Go.Proofs.Ytaickhhbdbbmjaa.store
