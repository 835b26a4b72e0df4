/-
  Mathematics: the best way; the contracts of lev.next, lev.first.
-/
import Derived.Test.YtfahmllooeceaaaRTab
namespace Go.Proofs.Ytfahmllooeceaaa.lev
open Go.RowKit law bytes
set_option linter.unusedVariables false

/-- the letter by which the best way goes on -/
def lt : List UInt8 → List UInt8 → UInt8
  | [], _ => 43
  | _ :: _, [] => 45
  | x :: a, y :: b => if x = y then 61 else if L (x :: a) (y :: b) = L a b then (if L (x :: a) (y :: b) = L a (y :: b) + 1 then 45 else 43) else 33
/-- the best way -/
def E (a b : List UInt8) : List UInt8 :=
  match a, b with
  | [], [] => []
  | [], y :: b => 43 :: E [] b
  | x :: a, [] => 45 :: E a []
  | x :: a, y :: b => if x = y then 61 :: E a b else if L (x :: a) (y :: b) = L a b then (if L (x :: a) (y :: b) = L a (y :: b) + 1 then 45 :: E a (y :: b) else 43 :: E (x :: a) b) else 33 :: E a b
termination_by a.length + b.length
theorem E_nil : E [] [] = [] := by rw [E]
theorem E_plus : ∀ b : List UInt8, E [] b = List.replicate b.length 43
  | [] => by rw [E]; rfl
  | y :: b => by rw [E, E_plus b]; rfl
theorem E_same (x : UInt8) (a b : List UInt8) : E (x :: a) (x :: b) = 61 :: E a b := by rw [E, if_pos rfl]
theorem E_pre : ∀ a b : List UInt8, E a b = List.replicate (pre a b) 61 ++ E (a.drop (pre a b)) (b.drop (pre a b))
  | x :: a, y :: b => by
    by_cases h : x = y
    · subst h; rw [pre_same, E_same, E_pre a b]; rfl
    · rw [pre_other h]; rfl
  | [], b => by rw [pre_nil]; rfl
  | x :: a, [] => by rw [pre_nil']; rfl
theorem E_minus (x : UInt8) (a : List UInt8) : E (x :: a) [] = 45 :: E a [] := by rw [E]
theorem E_becomes {x y : UInt8} (h : x ≠ y) {a b : List UInt8} (h1 : L (x :: a) (y :: b) ≠ L a b) : E (x :: a) (y :: b) = 33 :: E a b := by rw [E, if_neg h, if_neg h1]
theorem E_goes {x y : UInt8} (h : x ≠ y) {a b : List UInt8} (h1 : L (x :: a) (y :: b) = L a b) (h2 : L (x :: a) (y :: b) = L a (y :: b) + 1) : E (x :: a) (y :: b) = 45 :: E a (y :: b) := by rw [E, if_neg h, if_pos h1, if_pos h2]
theorem E_comes {x y : UInt8} (h : x ≠ y) {a b : List UInt8} (h1 : L (x :: a) (y :: b) = L a b) (h2 : L (x :: a) (y :: b) ≠ L a (y :: b) + 1) : E (x :: a) (y :: b) = 43 :: E (x :: a) b := by rw [E, if_neg h, if_pos h1, if_neg h2]
theorem E_len (a b : List UInt8) : (E a b).length ≤ a.length + b.length := by
  match a, b with
  | [], [] => rw [E_nil]; exact Nat.le_refl _
  | [], y :: b => rw [E_plus]; simp
  | x :: a, [] => rw [E_minus]; have := E_len a []; simp only [List.length_cons] at *; omega
  | x :: a, y :: b =>
    have h1 := E_len a b
    have h2 := E_len a (y :: b)
    have h3 := E_len (x :: a) b
    rw [E]
    simp only [List.length_cons] at *
    split
    · simp only [List.length_cons]; omega
    · split
      · split <;> simp only [List.length_cons] <;> omega
      · simp only [List.length_cons]; omega
termination_by a.length + b.length
/-- how many letters are no = -/
def ed : List UInt8 → Nat
  | [] => 0
  | x :: l => (if x = 61 then 0 else 1) + ed l
theorem L_more {x y : UInt8} (h : x ≠ y) (a b : List UInt8) (h1 : L (x :: a) (y :: b) = L a b) (h2 : L (x :: a) (y :: b) ≠ L a (y :: b) + 1) : L (x :: a) (y :: b) = L (x :: a) b + 1 := by
  have h3 := L_cons x y a b
  have h4 : ne x y = 1 := if_neg h
  rw [h4] at h3
  omega
theorem ed_E (a b : List UInt8) : ed (E a b) = L a b := by
  match a, b with
  | [], [] => rw [E_nil]; rfl
  | [], y :: b => rw [E, ed, if_neg (by decide), ed_E [] b, L_nil, L_nil, List.length_cons]; omega
  | x :: a, [] => rw [E_minus, ed, if_neg (by decide), ed_E a [], L_cons_nil]; omega
  | x :: a, y :: b =>
    have e1 := ed_E a b
    have e2 := ed_E a (y :: b)
    have e3 := ed_E (x :: a) b
    by_cases h : x = y
    · subst h; rw [E_same, ed, if_pos rfl, e1, L_same]; omega
    · by_cases h1 : L (x :: a) (y :: b) = L a b
      · by_cases h2 : L (x :: a) (y :: b) = L a (y :: b) + 1
        · rw [E_goes h h1 h2, ed, if_neg (by decide), e2, h2]; omega
        · rw [E_comes h h1 h2, ed, if_neg (by decide), e3, L_more h a b h1 h2]; omega
      · rw [E_becomes h h1, ed, if_neg (by decide), e1]
        have d1 := L_diag x y a b
        have d2 := L_sub x y a b
        have d3 := ne_le x y
        omega
termination_by a.length + b.length

/-! ### which texts are ways -/
def va : List UInt8 → List UInt8 → List UInt8 → Bool
  | a, b, [] => a.isEmpty && b.isEmpty
  | a, b, c :: e =>
    if c = 61 then (match a, b with | x :: a, y :: b => decide (x = y) && va a b e | _, _ => false)
    else if c = 33 then (match a, b with | x :: a, y :: b => decide (x ≠ y) && va a b e | _, _ => false)
    else if c = 45 then (match a, b with | _ :: a, b => va a b e | _, _ => false)
    else if c = 43 then (match a, b with | a, _ :: b => va a b e | _, _ => false)
    else false
theorem va_E (a b : List UInt8) : va a b (E a b) = true := by
  match a, b with
  | [], [] => rw [E_nil]; rfl
  | [], y :: b => rw [E]; have := va_E [] b; simpa [va] using this
  | x :: a, [] => rw [E_minus]; have := va_E a []; simpa [va] using this
  | x :: a, y :: b =>
    have e1 := va_E a b
    have e2 := va_E a (y :: b)
    have e3 := va_E (x :: a) b
    by_cases h : x = y
    · subst h; rw [E_same]; simpa [va] using e1
    · by_cases h1 : L (x :: a) (y :: b) = L a b
      · by_cases h2 : L (x :: a) (y :: b) = L a (y :: b) + 1
        · rw [E_goes h h1 h2]; simpa [va] using e2
        · rw [E_comes h h1 h2]; simpa [va] using e3
      · rw [E_becomes h h1]; simp [va, h, e1]
termination_by a.length + b.length

/-! ### next -/
theorem next_plus (i j : Nat) (hi : i ≤ 140737488355328) (hj : j ≤ 140737488355328) (w : World) :
    Calls Try.prog 30 #[.int .i64 i, .int .i64 j, .int .u8 43] w fun e w' => e = .returned (.tuple #[.int .i64 i, .int .i64 (j + 1 : Nat)]) ∧ w = w' := by
  go_enter Try.func30, Try.ntmps30
  go_wp2_with (fail)
  refine bodyPost_ret (v := .tuple #[.int .i64 i, .int .i64 (j + 1)]) (by simp [results, Try.results30, go_sem]) rfl ?_
  exact ⟨ret_two rfl (by omega), rfl⟩
theorem next_minus (i j : Nat) (hi : i ≤ 140737488355328) (hj : j ≤ 140737488355328) (w : World) :
    Calls Try.prog 30 #[.int .i64 i, .int .i64 j, .int .u8 45] w fun e w' => e = .returned (.tuple #[.int .i64 (i + 1 : Nat), .int .i64 j]) ∧ w = w' := by
  go_enter Try.func30, Try.ntmps30
  go_wp2_with (fail)
  refine bodyPost_ret (v := .tuple #[.int .i64 (i + 1), .int .i64 j]) (by simp [results, Try.results30, go_sem]) rfl ?_
  exact ⟨ret_two (by omega) rfl, rfl⟩
theorem next_both (i j : Nat) (hi : i ≤ 140737488355328) (hj : j ≤ 140737488355328) (c : Nat) (h1 : c ≠ 43) (h2 : c ≠ 45) (w : World) :
    Calls Try.prog 30 #[.int .i64 i, .int .i64 j, .int .u8 c] w fun e w' => e = .returned (.tuple #[.int .i64 (i + 1 : Nat), .int .i64 (j + 1 : Nat)]) ∧ w = w' := by
  have q1 : ((c : Int) != 43) = true := by simp; omega
  have q2 : ((c : Int) != 45) = true := by simp; omega
  have q3 : ((c : Int) == 43) = false := by simp; omega
  have q4 : ((c : Int) == 45) = false := by simp; omega
  go_enter Try.func30, Try.ntmps30
  go_wp2_with (fail)
  refine bodyPost_ret (v := .tuple #[.int .i64 (i + 1), .int .i64 (j + 1)]) (by simp [results, Try.results30, go_sem]) rfl ?_
  exact ⟨ret_two (by omega) (by omega), rfl⟩
end Go.Proofs.Ytfahmllooeceaaa.lev
