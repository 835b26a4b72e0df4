/-
  Program-free: the pairs of a row that aren't too far apart, as two loops make them; how many there are.
-/
import Derived.Test.YtimkbadjcdnjjaaScB
namespace Go.Proofs.Ytimkbadjcdnjjaa.scan
open Go.RowKit law bytes only flat nums ord obj metric
set_option linter.unusedVariables false

/-- two places, and how far things there are apart -/
abbrev Tw := Nat × Nat × Int
def tc (x : Tw) : List Value := [.int .i64 (x.1 : Int), .int .i64 (x.2.1 : Int), .int .i64 x.2.2]
theorem tc_len (x : Tw) : (tc x).length = 3 := rfl
theorem tc_one (l : List Tw) : ∀ u ∈ l.flatMap tc, u.oneCell' = true := by
  intro u hu
  simp only [List.mem_flatMap, tc, List.mem_cons, List.not_mem_nil, or_false] at hu
  obtain ⟨a, -, rfl | rfl | rfl⟩ := hu <;> rfl
/-- how far two of a row are apart -/
def dd (n : Int) (l : List Item) (a b : Nat) : Int := match l[a]?, l[b]? with | some p, some q => M n p.2.x q.2.x | _, _ => 0
theorem dd_is (n : Int) (l : List Item) {a b : Nat} (ha : a < l.length) (hb : b < l.length) : dd n l a b = M n l[a].2.x l[b].2.x := by
  unfold dd
  rw [List.getElem?_eq_getElem ha, List.getElem?_eq_getElem hb]
/-- of one place, as many later ones -/
def pin (o : Option Addr) (n r : Int) (l : List Item) (a : Nat) : Nat → List Tw
  | 0 => []
  | j + 1 => pin o n r l a j ++ if wi o (dd n l a (a + 1 + j)) r = true then [(a, a + 1 + j, dd n l a (a + 1 + j))] else []
/-- of as many places -/
def pot (o : Option Addr) (n r : Int) (l : List Item) : Nat → List Tw
  | 0 => []
  | a + 1 => pot o n r l a ++ pin o n r l a (l.length - (a + 1))
/-- how many pairs there are of as many places -/
def pc (L : Nat) : Nat → Nat
  | 0 => 0
  | a + 1 => pc L a + (L - (a + 1))
theorem pc_two (L : Nat) : ∀ a, a ≤ L → 2 * pc L a + a * (a + 1) = 2 * (L * a)
  | 0, _ => by simp [pc]
  | a + 1, h => by
    have ih := pc_two L a (by omega)
    simp only [pc, Nat.mul_add, Nat.add_mul, Nat.mul_one, Nat.one_mul] at *
    omega
theorem pc_all (L : Nat) : ((L : Int) * ((L : Int) - 1)).tdiv 2 = (pc L L : Int) := by
  have h := pc_two L L (Nat.le_refl _)
  have h2 : (L : Int) * ((L : Int) - 1) = (pc L L : Int) * 2 := by
    have : ((2 * pc L L + L * (L + 1) : Nat) : Int) = ((2 * (L * L) : Nat) : Int) := by rw [h]
    push_cast at this
    rw [Int.mul_sub]
    rw [Int.mul_add] at this
    omega
  rw [h2, Int.mul_tdiv_cancel _ (by decide)]
theorem pc_le (L : Nat) : ∀ a, a ≤ L → pc L a ≤ L * a
  | 0, _ => by simp [pc]
  | a + 1, h => by
    have ih := pc_le L a (by omega)
    simp only [pc, Nat.mul_add, Nat.mul_one]
    omega
section
variable (o : Option Addr) (n r : Int) (l : List Item)
theorem pin_le (a : Nat) : ∀ j, (pin o n r l a j).length ≤ j
  | 0 => by simp [pin]
  | j + 1 => by
    have ih := pin_le a j
    simp only [pin, List.length_append]
    split <;> simp <;> omega
theorem pot_le : ∀ a, (pot o n r l a).length ≤ pc l.length a
  | 0 => by simp [pot, pc]
  | a + 1 => by
    have ih := pot_le a
    have := pin_le o n r l a (l.length - (a + 1))
    simp only [pot, pc, List.length_append]
    omega
/-- never more than fit in memory -/
theorem pairs_le {a j : Nat} (hl : l.length ≤ 1048576) (ha : a < l.length) (hj : j ≤ l.length - (a + 1)) : (pot o n r l a ++ pin o n r l a j).length ≤ 1099512676352 := by
  have h1 := pot_le o n r l a
  have h2 := pin_le o n r l a j
  have h3 := pc_le l.length a (by omega)
  have h4 : l.length * a ≤ 1048576 * 1048576 := Nat.mul_le_mul hl (by omega)
  rw [List.length_append]
  omega
theorem pin_prefix (a : Nat) : ∀ {i j : Nat}, i ≤ j → pin o n r l a i <+: pin o n r l a j := by
  intro i j h
  induction h with
  | refl => exact List.prefix_rfl
  | step h ih => exact ih.trans (by simp only [pin]; exact List.prefix_append _ _)
theorem pot_prefix : ∀ {i j : Nat}, i ≤ j → pot o n r l i <+: pot o n r l j := by
  intro i j h
  induction h with
  | refl => exact List.prefix_rfl
  | step h ih => exact ih.trans (by simp only [pot]; exact List.prefix_append _ _)
/-- what has come is the beginning of all -/
theorem all_prefix {a j : Nat} (ha : a < l.length) (hj : j ≤ l.length - (a + 1)) : pot o n r l a ++ pin o n r l a j <+: pot o n r l l.length :=
  ((List.prefix_append_right_inj _).2 (pin_prefix o n r l a hj)).trans (pot_prefix o n r l (i := a + 1) ha)
/-- the next one stands where it should -/
theorem all_at {a j : Nat} (ha : a < l.length) (hj : a + 1 + j < l.length) (hw : wi o (dd n l a (a + 1 + j)) r = true) :
    (pot o n r l l.length)[(pot o n r l a ++ pin o n r l a j).length]? = some (a, a + 1 + j, dd n l a (a + 1 + j)) := by
  obtain ⟨t, ht⟩ := all_prefix o n r l ha (j := j + 1) (by omega)
  simp only [pin, if_pos hw] at ht
  rw [← ht, ← List.append_assoc, List.append_assoc, List.getElem?_append_right (Nat.le_refl _)]
  simp
end
end Go.Proofs.Ytimkbadjcdnjjaa.scan
