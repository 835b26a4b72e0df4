/-
  Mathematics: how far two lists of numbers are apart, place by place.
-/
import Derived.Test.YtdfakjpchgomdaaRows
namespace Go.Proofs.Ytdfakjpchgomdaa.dist

/-- how far two numbers are apart -/
def gp (x y : Int) : Int := max (x - y) (y - x)
/-- the number at a place; 0 behind the end -/
def nm (l : List Int) (j : Nat) : Int := l[j]?.getD 0
/-- how far the first k places are apart, added up -/
def dk (l m : List Int) : Nat → Int
  | 0 => 0
  | k + 1 => dk l m k + gp (nm l k) (nm m k)
def mx (l m : List Int) : Nat := max l.length m.length
def D (l m : List Int) : Int := dk l m (mx l m)
def Bd (l : List Int) : Prop := ∀ n ∈ l, -2147483648 ≤ n ∧ n ≤ 2147483647

theorem gp_nonneg (x y : Int) : 0 ≤ gp x y := by unfold gp; omega
theorem gp_symm (x y : Int) : gp x y = gp y x := by unfold gp; omega
theorem gp_tri (x y z : Int) : gp x y ≤ gp x z + gp z y := by unfold gp; omega
theorem gp_zero (x y : Int) : gp x y = 0 ↔ x = y := by unfold gp; omega
theorem gp_le {x y : Int} (h1 : -2147483648 ≤ x ∧ x ≤ 2147483647) (h2 : -2147483648 ≤ y ∧ y ≤ 2147483647) : gp x y ≤ 4294967295 := by unfold gp; omega
theorem gp_pos {x y : Int} (h : y ≤ x) : gp x y = x - y := by unfold gp; omega
theorem gp_neg {x y : Int} (h : x ≤ y) : gp x y = y - x := by unfold gp; omega

theorem nm_lt {l : List Int} {j : Nat} (h : j < l.length) : nm l j = l[j] := by simp [nm, h]
theorem nm_ge {l : List Int} {j : Nat} (h : l.length ≤ j) : nm l j = 0 := by simp [nm, h]
theorem nm_nil (j : Nat) : nm [] j = 0 := by simp [nm]
theorem nm_bd {l : List Int} (h : Bd l) (j : Nat) : -2147483648 ≤ nm l j ∧ nm l j ≤ 2147483647 := by
  by_cases hj : j < l.length
  · rw [nm_lt hj]; exact h _ (List.getElem_mem hj)
  · rw [nm_ge (by omega)]; omega

theorem dk_succ (l m : List Int) (k : Nat) : dk l m (k + 1) = dk l m k + gp (nm l k) (nm m k) := rfl
theorem dk_nonneg (l m : List Int) (k : Nat) : 0 ≤ dk l m k := by
  induction k with
  | zero => exact Int.le_refl _
  | succ k ih => have := gp_nonneg (nm l k) (nm m k); rw [dk_succ]; omega
theorem dk_le {l m : List Int} (hl : Bd l) (hm : Bd m) (k : Nat) : dk l m k ≤ k * 4294967295 := by
  induction k with
  | zero => simp [dk]
  | succ k ih => have := gp_le (nm_bd hl k) (nm_bd hm k); rw [dk_succ]; omega
theorem dk_mono (l m : List Int) {j k : Nat} (h : j ≤ k) : dk l m j ≤ dk l m k := by
  induction k with
  | zero => obtain rfl : j = 0 := by omega
            exact Int.le_refl _
  | succ k ih =>
    by_cases hj : j = k + 1
    · subst hj; exact Int.le_refl _
    · have h1 := ih (by omega)
      have h2 := gp_nonneg (nm l k) (nm m k)
      rw [dk_succ]
      omega
theorem dk_symm (l m : List Int) (k : Nat) : dk l m k = dk m l k := by
  induction k with
  | zero => rfl
  | succ k ih => rw [dk_succ, dk_succ, ih, gp_symm]
theorem dk_tri (l m n : List Int) (k : Nat) : dk l m k ≤ dk l n k + dk n m k := by
  induction k with
  | zero => simp [dk]
  | succ k ih => have := gp_tri (nm l k) (nm m k) (nm n k); rw [dk_succ, dk_succ, dk_succ]; omega
theorem dk_stop (l m : List Int) {k : Nat} (h : mx l m ≤ k) : dk l m k = D l m := by
  induction k with
  | zero => unfold D; rw [show mx l m = 0 from by omega]
  | succ k ih =>
    by_cases hk : mx l m = k + 1
    · unfold D; rw [hk]
    · have h1 := ih (by omega)
      have h2 : l.length ≤ k ∧ m.length ≤ k := by unfold mx at h hk; omega
      rw [dk_succ]
      rw [h1, nm_ge h2.1, nm_ge h2.2]
      simp [gp]
theorem dk_zero (l m : List Int) (k : Nat) : dk l m k = 0 ↔ ∀ j, j < k → nm l j = nm m j := by
  induction k with
  | zero => simp [dk]
  | succ k ih =>
    have h1 := dk_nonneg l m k
    have h2 := gp_nonneg (nm l k) (nm m k)
    have h3 := gp_zero (nm l k) (nm m k)
    constructor
    · intro h j hj
      rw [dk_succ] at h
      by_cases hjk : j = k
      · subst hjk; exact h3.1 (by omega)
      · exact ih.1 (by omega) j (by omega)
    · intro h
      have h4 := ih.2 (fun j hj => h j (by omega))
      have h5 := h3.2 (h k (by omega))
      rw [dk_succ]
      omega
theorem mx_symm (l m : List Int) : mx l m = mx m l := by unfold mx; omega
theorem D_nonneg (l m : List Int) : 0 ≤ D l m := dk_nonneg l m _
theorem D_symm (l m : List Int) : D l m = D m l := by unfold D; rw [mx_symm, dk_symm]
theorem D_tri (l m n : List Int) : D l m ≤ D l n + D n m := by
  have h := dk_tri l m n (mx l m + mx l n + mx n m)
  rw [dk_stop l m (by omega), dk_stop l n (by omega), dk_stop n m (by omega)] at h
  exact h
theorem D_le {l m : List Int} (hl : Bd l) (hm : Bd m) : D l m ≤ mx l m * 4294967295 := dk_le hl hm _
theorem D_zero (l m : List Int) : D l m = 0 ↔ ∀ j, j < mx l m → nm l j = nm m j := dk_zero l m _
theorem D_least (l m : List Int) : gp (D l []) (D m []) ≤ D l m := by
  have h1 := D_tri l [] m
  have h2 := D_tri m [] l
  have h3 := D_symm l m
  unfold gp
  omega
theorem Bd_nil : Bd [] := fun n h => by simp at h
/-- small: no sum of two distances leaves what an int tells -/
theorem D_small {l m : List Int} (hl : Bd l) (hm : Bd m) (h1 : l.length ≤ 1048576) (h2 : m.length ≤ 1048576) : D l m ≤ 4503599627370496 := by
  have h := D_le hl hm
  have : mx l m ≤ 1048576 := by unfold mx; omega
  have h3 : (mx l m : Int) * 4294967295 ≤ 1048576 * 4294967295 := Int.mul_le_mul_of_nonneg_right (by omega) (by omega)
  omega
end Go.Proofs.Ytdfakjpchgomdaa.dist
