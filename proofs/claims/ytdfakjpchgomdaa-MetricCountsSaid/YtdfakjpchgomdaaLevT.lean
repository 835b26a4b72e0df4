/-
  Mathematics: what two texts begin and end with alike; bytes of texts as lists.
-/
import Derived.Test.YtdfakjpchgomdaaLevV
namespace Go.Proofs.Ytdfakjpchgomdaa.lev

/-- what is left where both begin alike -/
def strip : List UInt8 → List UInt8 → List UInt8 × List UInt8
  | x :: a, y :: b => if x = y then strip a b else (x :: a, y :: b)
  | [], b => ([], b)
  | a, [] => (a, [])
def pre : List UInt8 → List UInt8 → Nat
  | x :: a, y :: b => if x = y then pre a b + 1 else 0
  | _, _ => 0
theorem strip_same (x : UInt8) (a b : List UInt8) : strip (x :: a) (x :: b) = strip a b := by simp [strip]
theorem strip_other {x y : UInt8} (h : x ≠ y) (a b : List UInt8) : strip (x :: a) (y :: b) = (x :: a, y :: b) := by simp [strip, h]
theorem strip_nil (b : List UInt8) : strip [] b = ([], b) := by cases b <;> rfl
theorem strip_nil' (a : List UInt8) : strip a [] = (a, []) := by cases a <;> rfl
theorem pre_same (x : UInt8) (a b : List UInt8) : pre (x :: a) (x :: b) = pre a b + 1 := by simp [pre]
theorem pre_other {x y : UInt8} (h : x ≠ y) (a b : List UInt8) : pre (x :: a) (y :: b) = 0 := by simp [pre, h]
theorem pre_nil (b : List UInt8) : pre [] b = 0 := by cases b <;> rfl
theorem pre_nil' (a : List UInt8) : pre a [] = 0 := by cases a <;> rfl
theorem pre_le : ∀ a b : List UInt8, pre a b ≤ a.length ∧ pre a b ≤ b.length
  | x :: a, y :: b => by
    by_cases h : x = y
    · subst h; rw [pre_same]; have := pre_le a b; simp only [List.length_cons]; omega
    · rw [pre_other h]; omega
  | [], b => by rw [pre_nil]; omega
  | x :: a, [] => by rw [pre_nil']; omega
theorem strip_pre : ∀ a b : List UInt8, strip a b = (a.drop (pre a b), b.drop (pre a b))
  | x :: a, y :: b => by
    by_cases h : x = y
    · subst h; rw [strip_same, pre_same, strip_pre a b]; rfl
    · rw [strip_other h, pre_other h]; rfl
  | [], b => by rw [strip_nil, pre_nil]; rfl
  | x :: a, [] => by rw [strip_nil', pre_nil']; rfl
theorem pre_take : ∀ a b : List UInt8, a.take (pre a b) = b.take (pre a b)
  | x :: a, y :: b => by
    by_cases h : x = y
    · subst h; rw [pre_same, List.take_succ_cons, List.take_succ_cons, pre_take a b]
    · rw [pre_other h]; rfl
  | [], b => by rw [pre_nil]; rfl
  | x :: a, [] => by rw [pre_nil']; rfl
theorem L_strip : ∀ a b : List UInt8, L (strip a b).1 (strip a b).2 = L a b
  | x :: a, y :: b => by
    by_cases h : x = y
    · subst h; rw [strip_same, L_same, L_strip a b]
    · rw [strip_other h]
  | [], b => by rw [strip_nil]
  | x :: a, [] => by rw [strip_nil']
/-- what is left where both end alike -/
def stripR (a b : List UInt8) : List UInt8 × List UInt8 := ((strip a.reverse b.reverse).1.reverse, (strip a.reverse b.reverse).2.reverse)
def tr (a b : List UInt8) : List UInt8 × List UInt8 := stripR (strip a b).1 (strip a b).2
theorem L_stripR (a b : List UInt8) : L (stripR a b).1 (stripR a b).2 = L a b := by unfold stripR; rw [L_reverse, L_strip, L_reverse]
theorem L_tr (a b : List UInt8) : L (tr a b).1 (tr a b).2 = L a b := by unfold tr; rw [L_stripR, L_strip]
theorem stripR_same (x : UInt8) (a b : List UInt8) : stripR (a ++ [x]) (b ++ [x]) = stripR a b := by
  unfold stripR; rw [List.reverse_append, List.reverse_append]; simp [strip_same]
theorem stripR_other {x y : UInt8} (h : x ≠ y) (a b : List UInt8) : stripR (a ++ [x]) (b ++ [y]) = (a ++ [x], b ++ [y]) := by
  unfold stripR; rw [List.reverse_append, List.reverse_append]; simp [strip_other h]
theorem stripR_nil (b : List UInt8) : stripR [] b = ([], b) := by unfold stripR; simp [strip_nil]
theorem stripR_nil' (a : List UInt8) : stripR a [] = (a, []) := by unfold stripR; simp [strip_nil']
theorem strip_len (a b : List UInt8) : (strip a b).1.length ≤ a.length ∧ (strip a b).2.length ≤ b.length := by rw [strip_pre]; simp
theorem stripR_len (a b : List UInt8) : (stripR a b).1.length ≤ a.length ∧ (stripR a b).2.length ≤ b.length := by
  have := strip_len a.reverse b.reverse
  simpa [stripR] using this
theorem tr_len (a b : List UInt8) : (tr a b).1.length ≤ a.length ∧ (tr a b).2.length ≤ b.length := by
  have h1 := strip_len a b
  have h2 := stripR_len (strip a b).1 (strip a b).2
  unfold tr; omega

/-! ### texts as lists -/
def bl (s : ByteArray) : List UInt8 := s.data.toList
def of (l : List UInt8) : ByteArray := ⟨l.toArray⟩
theorem bl_len (s : ByteArray) : (bl s).length = s.size := Array.length_toList
theorem bl_of (l : List UInt8) : bl (of l) = l := rfl
theorem of_bl (s : ByteArray) : of (bl s) = s := by cases s; simp [of, bl]
theorem of_size (l : List UInt8) : (of l).size = l.length := by rw [← bl_len, bl_of]
theorem bl_ext {s t : ByteArray} (h : bl s = bl t) : s = t := by rw [← of_bl s, h, of_bl]
theorem of_inj {l m : List UInt8} (h : of l = of m) : l = m := by rw [← bl_of l, h, bl_of]
theorem bl_get (s : ByteArray) (k : Nat) (h : k < s.size) : (bl s)[k]'(by rw [bl_len]; exact h) = s[k]'h := rfl
theorem bl_extract (s : ByteArray) (i j : Nat) : bl (s.extract i j) = ((bl s).take j).drop i := by
  unfold bl
  rw [ByteArray.data_extract, Array.toList_extract]
  simp [List.extract_eq_take_drop, List.drop_take]
theorem bl_from (s : ByteArray) (i : Nat) : bl (s.extract i s.size) = (bl s).drop i := by
  rw [bl_extract, List.take_of_length_le (by rw [bl_len]; exact Nat.le_refl _)]
theorem bl_to (s : ByteArray) (j : Nat) : bl (s.extract 0 j) = (bl s).take j := by rw [bl_extract, List.drop_zero]
theorem bl_cons (s : ByteArray) (k : Nat) (h : k < s.size) : (bl s).drop k = s[k]'h :: (bl s).drop (k + 1) := by
  rw [List.drop_eq_getElem_cons (by rw [bl_len]; exact h)]; rfl
theorem bl_last (s : ByteArray) (h : 0 < s.size) : bl s = (bl s).take (s.size - 1) ++ [s[s.size - 1]'(by omega)] := by
  have := List.take_succ_eq_append_getElem (l := bl s) (i := s.size - 1) (by rw [bl_len]; omega)
  rw [show s.size - 1 + 1 = s.size from by omega, List.take_of_length_le (by rw [bl_len]; exact Nat.le_refl _)] at this
  exact this
end Go.Proofs.Ytdfakjpchgomdaa.lev
