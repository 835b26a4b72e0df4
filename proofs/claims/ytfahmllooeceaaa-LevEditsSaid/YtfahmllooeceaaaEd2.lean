/-
  The contracts of lev.first and lev.may.
-/
import Derived.Test.YtfahmllooeceaaaEd1
namespace Go.Proofs.Ytfahmllooeceaaa.lev
open Go.RowKit law bytes
set_option linter.unusedVariables false

theorem U_one (k : Nat) : IntKind.u64.wrap (2 ^ k) = U (1#64 <<< k) := by
  unfold U
  rw [IntKind.wrap_u64, BitVec.toNat_shiftLeft, Nat.shiftLeft_eq, show (1#64).toNat = 1 from rfl, Nat.one_mul, Int.natCast_emod, Int.natCast_pow]
  rfl
theorem and_one (s : BitVec 64) (k : Nat) (hk : k < 64) : s &&& 1#64 <<< k = if s.getLsbD k then 1#64 <<< k else 0#64 := by
  apply BitVec.eq_of_getLsbD_eq
  intro i hi
  rw [BitVec.getLsbD_and, BitVec.getLsbD_shiftLeft, BitVec.getLsbD_one]
  by_cases h : i = k
  · subst h; cases hb : s.getLsbD i <;> simp [hi]
  · have h1 : (decide (i < 64) && !decide (i < k) && (decide (0 < 64) && decide (i - k = 0))) = false := by
      rw [Bool.and_eq_false_iff]
      by_cases h2 : i < k
      · left; simp [h2]
      · right; simp; omega
    rw [h1, Bool.and_false]
    split
    · rw [BitVec.getLsbD_shiftLeft, BitVec.getLsbD_one, h1]
    · rw [BitVec.getLsbD_zero]
theorem U_test (s : BitVec 64) (k : Nat) (hk : k < 64) : (bits .and .u64 (U s) (U (1#64 <<< k)) == 0) = !s.getLsbD k ∧ (bits .and .u64 (U s) (U (1#64 <<< k)) != 0) = s.getLsbD k := by
  have h1 : (U (1#64 <<< k) == 0) = false := by
    have : (1#64 <<< k).toNat ≠ 0 := by
      intro e
      have h2 : (1#64 <<< k).getLsbD k = true := by rw [BitVec.getLsbD_shiftLeft, BitVec.getLsbD_one]; simp [hk]
      rw [← BitVec.testBit_toNat, e] at h2
      simp at h2
    rw [beq_eq_false_iff_ne]; unfold U; omega
  have h0 : (U 0#64 == 0) = true := by unfold U; rfl
  rw [U_and, and_one s k hk]
  cases hb : s.getLsbD k
  · simp only [Bool.false_eq_true, if_false, Bool.not_false, bne, h0, Bool.not_true, and_self]
  · simp only [if_true, Bool.not_true, bne, h1, Bool.not_false, and_self]

/-- which letter: by the heads, by the bits -/
def fl (same sb mb : Bool) : Int := if same then 61 else if sb then (if mb then 45 else 43) else 33
set_option maxHeartbeats 800000 in
set_option maxRecDepth 100000 in
theorem first_any (text : ByteArray) (h64 : text.size ≤ 64) (i : Nat) (hi : i < text.size) (x : UInt8) (s m l : BitVec 64) (w : World) :
    Calls Try.prog 29 #[.string text, .int .i64 i, .int .u8 x.toNat, .agg #[.int .u64 (U s), .int .u64 (U m), .int .u64 (U l)]] w
      (Tells (.int .u8 (fl (decide (text[i]'hi = x)) (s.getLsbD (text.size - 1 - i)) (m.getLsbD (text.size - 1 - i)))) w) := by
  have e0 := U_one (text.size - 1 - i)
  obtain ⟨t1, t2⟩ := U_test s (text.size - 1 - i) (by omega)
  obtain ⟨t3, t4⟩ := U_test m (text.size - 1 - i) (by omega)
  generalize s.getLsbD (text.size - 1 - i) = sb at *
  generalize m.getLsbD (text.size - 1 - i) = mb at *
  generalize U (1#64 <<< (text.size - 1 - i)) = ru at *
  have hal : Below w.heap.size w (w.alloc (.cells #[.int .u64 (U s), .int .u64 (U m), .int .u64 (U l)] 52)) := (Below.refl _ _).alloc (Nat.le_refl _) _
  by_cases he : text[i]'hi = x
  · have q1 : (((text[i]'hi).toNat : Int) == (x.toNat : Int)) = true := by rw [he]; simp
    rw [decide_eq_true he]
    unfold fl
    simp only [if_true]
    clear he t1 t2 t3 t4
    go_enter Try.func29, Try.ntmps29
    go_wp2_with (fail)
    go_ret
    exact ⟨rfl, hal⟩
  · have q1 : (((text[i]'hi).toNat : Int) == (x.toNat : Int)) = false := by
      have hn : (text[i]'hi).toNat ≠ x.toNat := fun e => he (UInt8.toNat_inj.1 e)
      simp; omega
    rw [decide_eq_false he]
    unfold fl
    simp only [Bool.false_eq_true, if_false]
    clear he
    cases sb <;> cases mb <;> simp only [Bool.false_eq_true, if_false, if_true, Bool.not_true, Bool.not_false] at t1 t2 t3 t4 ⊢
    all_goals
      go_enter Try.func29, Try.ntmps29
      go_wp2_with (fail)
      go_ret
      exact ⟨rfl, hal⟩

/-! ### may -/
theorem s_yes {s : ByteArray} (h : 0 < s.size) : (!s.toList.isEmpty) = true ∧ (s.toList == []) = false := s_ne h
set_option maxHeartbeats 800000 in
set_option maxRecDepth 100000 in
theorem may_stays (a b : ByteArray) (w : World) :
    Calls Try.prog 31 #[.string a, .string b, .int .u8 61] w (Still (.bool (match bl a, bl b with | x :: _, y :: _ => decide (x = y) | _, _ => false)) w) := by
  by_cases h1 : 0 < a.size
  · have c1 := bl_cons a 0 h1
    rw [List.drop_zero] at c1
    obtain ⟨z1, z2⟩ := s_ne h1
    by_cases h2 : 0 < b.size
    · have c2 := bl_cons b 0 h2
      rw [List.drop_zero] at c2
      rw [c1, c2]
      simp only
      obtain ⟨z3, z4⟩ := s_ne h2
      clear c1 c2
      by_cases he : a[0]'h1 = b[0]'h2
      · obtain ⟨q1, q2⟩ := eq_get h1 h2 he
        rw [decide_eq_true he]
        clear he
        go_enter Try.func31, Try.ntmps31
        go_wp2_with (fail)
        go_quiet (fail)
        go_wp2_with (fail)
        go_ret
        exact ⟨rfl, _, rfl⟩
      · obtain ⟨q1, q2⟩ := ne_get h1 h2 he
        rw [decide_eq_false he]
        clear he
        go_enter Try.func31, Try.ntmps31
        go_wp2_with (fail)
        go_quiet (fail)
        go_wp2_with (fail)
        go_ret
        exact ⟨rfl, _, rfl⟩
    · have hb : bl b = [] := List.eq_nil_of_length_eq_zero (by rw [bl_len]; omega)
      obtain rfl : b = ByteArray.empty := by rw [← of_bl b, hb]; rfl
      rw [c1, hb]
      simp only
      clear c1 hb h2
      go_enter Try.func31, Try.ntmps31
      go_wp2_with (fail)
      go_quiet (fail)
      go_wp2_with (fail)
      go_ret
      exact ⟨rfl, _, rfl⟩
  · have ha : bl a = [] := List.eq_nil_of_length_eq_zero (by rw [bl_len]; omega)
    obtain rfl : a = ByteArray.empty := by rw [← of_bl a, ha]; rfl
    rw [ha]
    simp only
    clear ha h1
    go_enter Try.func31, Try.ntmps31
    go_wp2_with (fail)
    go_quiet (fail)
    go_wp2_with (fail)
    go_ret
    exact ⟨rfl, _, rfl⟩
set_option maxHeartbeats 800000 in
set_option maxRecDepth 100000 in
theorem may_becomes (a b : ByteArray) (w : World) :
    Calls Try.prog 31 #[.string a, .string b, .int .u8 33] w (Still (.bool (match bl a, bl b with | x :: _, y :: _ => decide (x ≠ y) | _, _ => false)) w) := by
  by_cases h1 : 0 < a.size
  · have c1 := bl_cons a 0 h1
    rw [List.drop_zero] at c1
    obtain ⟨z1, z2⟩ := s_ne h1
    by_cases h2 : 0 < b.size
    · have c2 := bl_cons b 0 h2
      rw [List.drop_zero] at c2
      rw [c1, c2]
      simp only
      obtain ⟨z3, z4⟩ := s_ne h2
      clear c1 c2
      by_cases he : a[0]'h1 = b[0]'h2
      · obtain ⟨q1, q2⟩ := eq_get h1 h2 he
        rw [decide_eq_false (fun h => h he)]
        clear he
        go_enter Try.func31, Try.ntmps31
        go_wp2_with (fail)
        go_quiet (fail)
        go_wp2_with (fail)
        go_ret
        exact ⟨rfl, _, rfl⟩
      · obtain ⟨q1, q2⟩ := ne_get h1 h2 he
        rw [decide_eq_true he]
        clear he
        go_enter Try.func31, Try.ntmps31
        go_wp2_with (fail)
        go_quiet (fail)
        go_wp2_with (fail)
        go_ret
        exact ⟨rfl, _, rfl⟩
    · have hb : bl b = [] := List.eq_nil_of_length_eq_zero (by rw [bl_len]; omega)
      obtain rfl : b = ByteArray.empty := by rw [← of_bl b, hb]; rfl
      rw [c1, hb]
      simp only
      clear c1 hb h2
      go_enter Try.func31, Try.ntmps31
      go_wp2_with (fail)
      go_quiet (fail)
      go_wp2_with (fail)
      go_ret
      exact ⟨rfl, _, rfl⟩
  · have ha : bl a = [] := List.eq_nil_of_length_eq_zero (by rw [bl_len]; omega)
    obtain rfl : a = ByteArray.empty := by rw [← of_bl a, ha]; rfl
    rw [ha]
    simp only
    clear ha h1
    go_enter Try.func31, Try.ntmps31
    go_wp2_with (fail)
    go_quiet (fail)
    go_wp2_with (fail)
    go_ret
    exact ⟨rfl, _, rfl⟩

set_option maxHeartbeats 800000 in
set_option maxRecDepth 100000 in
theorem may_goes (a b : ByteArray) (w : World) :
    Calls Try.prog 31 #[.string a, .string b, .int .u8 45] w (Still (.bool (!(bl a).isEmpty)) w) := by
  by_cases h1 : 0 < a.size
  · have c1 := bl_cons a 0 h1
    rw [List.drop_zero] at c1
    obtain ⟨z1, z2⟩ := s_ne h1
    rw [c1]
    simp only [List.isEmpty_cons, Bool.not_false]
    clear c1
    go_enter Try.func31, Try.ntmps31
    go_wp2_with (fail)
    go_ret
    exact ⟨rfl, 0, rfl⟩
  · have ha : bl a = [] := List.eq_nil_of_length_eq_zero (by rw [bl_len]; omega)
    obtain rfl : a = ByteArray.empty := by rw [← of_bl a, ha]; rfl
    rw [ha]
    simp only [List.isEmpty_nil, Bool.not_true]
    clear ha h1
    go_enter Try.func31, Try.ntmps31
    go_wp2_with (fail)
    go_ret
    exact ⟨rfl, 0, rfl⟩

set_option maxHeartbeats 800000 in
set_option maxRecDepth 100000 in
theorem may_comes (a b : ByteArray) (w : World) :
    Calls Try.prog 31 #[.string a, .string b, .int .u8 43] w (Still (.bool (!(bl b).isEmpty)) w) := by
  by_cases h1 : 0 < b.size
  · have c1 := bl_cons b 0 h1
    rw [List.drop_zero] at c1
    obtain ⟨z1, z2⟩ := s_ne h1
    rw [c1]
    simp only [List.isEmpty_cons, Bool.not_false]
    clear c1
    go_enter Try.func31, Try.ntmps31
    go_wp2_with (fail)
    go_ret
    exact ⟨rfl, 0, rfl⟩
  · have ha : bl b = [] := List.eq_nil_of_length_eq_zero (by rw [bl_len]; omega)
    obtain rfl : b = ByteArray.empty := by rw [← of_bl b, ha]; rfl
    rw [ha]
    simp only [List.isEmpty_nil, Bool.not_true]
    clear ha h1
    go_enter Try.func31, Try.ntmps31
    go_wp2_with (fail)
    go_ret
    exact ⟨rfl, 0, rfl⟩

set_option maxHeartbeats 800000 in
set_option maxRecDepth 100000 in
theorem may_other (a b : ByteArray) (c : Nat) (h1 : c ≠ 61) (h2 : c ≠ 33) (h3 : c ≠ 45) (h4 : c ≠ 43) (w : World) :
    Calls Try.prog 31 #[.string a, .string b, .int .u8 c] w (Still (.bool false) w) := by
  have q1 : ((c : Int) == 61) = false := by simp; omega
  have q2 : ((c : Int) == 33) = false := by simp; omega
  have q3 : ((c : Int) == 45) = false := by simp; omega
  have q4 : ((c : Int) == 43) = false := by simp; omega
  go_enter Try.func31, Try.ntmps31
  go_wp2_with (fail)
  go_ret
  exact ⟨rfl, 0, rfl⟩

/-- may a way go on by a letter? -/
def ml (a b : List UInt8) (c : UInt8) : Bool :=
  if c = 61 then (match a, b with | x :: _, y :: _ => decide (x = y) | _, _ => false)
  else if c = 33 then (match a, b with | x :: _, y :: _ => decide (x ≠ y) | _, _ => false)
  else if c = 45 then !a.isEmpty
  else if c = 43 then !b.isEmpty
  else false
theorem may_any (a b : ByteArray) (c : UInt8) (w : World) : Calls Try.prog 31 #[.string a, .string b, .int .u8 c.toNat] w (Still (.bool (ml (bl a) (bl b) c)) w) := by
  unfold ml
  by_cases h1 : c = 61
  · subst h1; rw [if_pos rfl]; exact may_stays a b w
  · rw [if_neg h1]
    by_cases h2 : c = 33
    · subst h2; rw [if_pos rfl]; exact may_becomes a b w
    · rw [if_neg h2]
      by_cases h3 : c = 45
      · subst h3; rw [if_pos rfl]; exact may_goes a b w
      · rw [if_neg h3]
        by_cases h4 : c = 43
        · subst h4; rw [if_pos rfl]; exact may_comes a b w
        · rw [if_neg h4]
          have ne_of : ∀ d : UInt8, c ≠ d → c.toNat ≠ d.toNat := fun d h e => h (UInt8.toNat_inj.1 e)
          exact may_other a b c.toNat (ne_of 61 h1) (ne_of 33 h2) (ne_of 45 h3) (ne_of 43 h4) w
theorem va_step (a b : List UInt8) (c : UInt8) (e : List UInt8) : va a b (c :: e) = (ml a b c && va (if c = 43 then a else a.tail) (if c = 45 then b else b.tail) e) := by
  unfold ml
  rw [va.eq_def]
  simp only
  by_cases h1 : c = 61
  · subst h1
    rw [if_pos rfl, if_pos rfl, if_neg (by decide), if_neg (by decide)]
    cases a <;> cases b <;> rfl
  · rw [if_neg h1, if_neg h1]
    by_cases h2 : c = 33
    · subst h2
      rw [if_pos rfl, if_pos rfl, if_neg (by decide), if_neg (by decide)]
      cases a <;> cases b <;> rfl
    · rw [if_neg h2, if_neg h2]
      by_cases h3 : c = 45
      · subst h3
        rw [if_pos rfl, if_pos rfl, if_neg (by decide), if_pos rfl]
        cases a <;> rfl
      · rw [if_neg h3, if_neg h3]
        by_cases h4 : c = 43
        · subst h4
          rw [if_pos rfl, if_pos rfl, if_pos rfl, if_neg (by decide)]
          cases b <;> rfl
        · rw [if_neg h4, if_neg h4]; rfl
end Go.Proofs.Ytfahmllooeceaaa.lev
