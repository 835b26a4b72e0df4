/-
  The contracts of package draws: Mod, a source of numbers: New, Pick, Used; of none; what lives; the document's own Mod and At.
-/
import Derived.Test.YtgbjpobgjmkjgaaGreatGLib
import Derived.Test.YtgbjpobgjmkjgaaGreatShelf
import Derived.Lib.Hide
namespace Go.Proofs.YtgbjpobgjmkjgaaGreat.draws
open Go.RowKit law bytes only
set_option linter.unusedVariables false

/-! ### mathematics -/
/-- x but for a multiple of n -/
def md (x n : Int) : Int := if n < 1 then 0 else x % n
theorem md_low {x n : Int} (h : n < 1) : md x n = 0 := if_pos h
theorem md_pos {x n : Int} (h : ¬ n < 1) : md x n = x % n := if_neg h
theorem md_range (x : Int) {n : Int} (h : ¬ n < 1) : 0 ≤ md x n ∧ md x n < n := by
  rw [md_pos h]
  exact ⟨Int.emod_nonneg _ (by omega), Int.emod_lt_of_pos _ (by omega)⟩
theorem tm (x : Int) {n : Int} (h : ¬ n < 1) : -n < x.tmod n ∧ x.tmod n < n ∧ x - x.tdiv n * n = x.tmod n ∧ (x.tmod n < 0 → x.tmod n + n = md x n) ∧ (¬ x.tmod n < 0 → x.tmod n = md x n) := by
  have h1 := Int.tmod_lt_of_pos x (b := n) (by omega)
  have h2 := Int.lt_tmod_of_pos x (b := n) (by omega)
  have h3 := Int.tmod_add_mul_tdiv x n
  have h4 : md x n = (x.tmod n) % n := by
    rw [md_pos h]
    conv => lhs; rw [← h3]
    exact Int.add_mul_emod_self_left _ _ _
  refine ⟨h2, h1, by rw [Int.mul_comm]; omega, fun hr => ?_, fun hr => ?_⟩
  · rw [h4, ← Int.add_emod_right, Int.emod_eq_of_lt (by omega) (by omega)]
  · rw [h4, Int.emod_eq_of_lt (by omega) h1]
/-- an int -/
def I64 (x : Int) : Prop := -9223372036854775808 ≤ x ∧ x ≤ 9223372036854775807
theorem tq {x n : Int} (hx : 0 ≤ x) (h : ¬ n < 1) : 0 ≤ x.tdiv n * n ∧ x.tdiv n * n ≤ x := by
  obtain ⟨-, -, h3, -, -⟩ := tm x h
  have h4 := Int.tmod_nonneg n hx
  exact ⟨Int.mul_nonneg (Int.tdiv_nonneg hx (by omega)) (by omega), by omega⟩
theorem tq_bd {x n : Int} (hx : I64 x) (h : ¬ n < 1) : -9223372036854775808 ≤ x.tdiv n * n ∧ x.tdiv n * n ≤ 9223372036854775807 := by
  obtain ⟨h1, h2⟩ := hx
  rcases Int.lt_or_le x 0 with h0 | h0
  · have h5 := tq (x := -x) (by omega) h
    rw [Int.neg_tdiv, Int.neg_mul] at h5
    omega
  · have h5 := tq h0 h
    omega
/-- the number that comes next, behind k -/
def nx (l : List Int) (k : Nat) : Int := l.getD (k % l.length) 0
theorem nx_none (k : Nat) : nx [] k = 0 := by simp [nx]
theorem nx_at {l : List Int} (h : 0 < l.length) (k : Nat) : nx l k = l[k % l.length]'(Nat.mod_lt _ h) := by
  unfold nx
  rw [List.getD_eq_getElem?_getD, List.getElem?_eq_getElem (Nat.mod_lt _ h)]
  rfl
theorem nx_i64 {l : List Int} (h : ∀ x ∈ l, I64 x) (k : Nat) : I64 (nx l k) := by
  rcases Nat.eq_zero_or_pos l.length with h0 | h0
  · obtain rfl := List.eq_nil_of_length_eq_zero h0
    rw [nx_none]; exact ⟨by omega, by omega⟩
  · rw [nx_at h0]; exact h _ (List.getElem_mem _)

/-! ### Mod -/
set_option maxHeartbeats 1600000 in
theorem mod_any (x n : Int) (hx : I64 x) (hn : I64 n) (w : World) : Calls Tryz.prog 128 #[.int .i64 x, .int .i64 n] w fun e w' => e = .returned (.int .i64 (md x n)) ∧ w = w' := by
  obtain ⟨hn1, hn2⟩ := hn
  obtain ⟨hx1, hx2⟩ := hx
  by_cases hlow : n < 1
  · rw [md_low hlow]
    go_enter Tryz.func128, Tryz.ntmps128
    go_wp2_with (fail)
    go_ret
    exact ⟨rfl, rfl⟩
  · obtain ⟨t1, t2, -, t4, t5⟩ := tm x hlow
    obtain ⟨r, hr⟩ : ∃ r, r = x.tmod n := ⟨_, rfl⟩
    obtain ⟨m, hm⟩ : ∃ m, m = md x n := ⟨_, rfl⟩
    rw [← hr] at t1 t2 t4 t5
    rw [← hm] at t4 t5 ⊢
    have n0 : (n == 0) = false := by simp; omega
    have HT4 := Lib.hid t4
    have HT5 := Lib.hid t5
    have HR := Lib.hid hr
    have HM := Lib.hid hm
    clear t4 t5 hm
    by_cases hneg : r < 0
    · have H := Lib.hid (HT4.out hneg)
      go_enter Tryz.func128, Tryz.ntmps128
      go_wp2_with (fail)
      go_ret
      exact ⟨ret_int (by rw [← hr]; exact H.out), rfl⟩
    · have H := Lib.hid (HT5.out hneg)
      go_enter Tryz.func128, Tryz.ntmps128
      go_wp2_with (fail)
      go_ret
      exact ⟨ret_int (by rw [← hr]; exact H.out), rfl⟩
set_option maxHeartbeats 1600000 in
theorem rmod_any (x n : Int) (hx : I64 x) (hn : I64 n) (w : World) : Calls Tryz.prog 24 #[.int .i64 x, .int .i64 n] w fun e w' => e = .returned (.int .i64 (md x n)) ∧ w = w' := by
  obtain ⟨hn1, hn2⟩ := hn
  obtain ⟨hx1, hx2⟩ := hx
  by_cases hlow : n < 1
  · rw [md_low hlow]
    go_enter Tryz.func24, Tryz.ntmps24
    go_wp2_with (fail)
    go_ret
    exact ⟨rfl, rfl⟩
  · obtain ⟨t1, t2, t3, t4, t5⟩ := tm x hlow
    obtain ⟨b1, b2⟩ := tq_bd ⟨hx1, hx2⟩ hlow
    obtain ⟨m, hm⟩ : ∃ m, m = md x n := ⟨_, rfl⟩
    rw [← hm] at t4 t5 ⊢
    rw [← t3] at t1 t2 t4 t5
    have n0 : (n == 0) = false := by simp; omega
    have HT4 := Lib.hid t4
    have HT5 := Lib.hid t5
    have HM := Lib.hid hm
    clear t4 t5 hm t3
    by_cases hneg : x - x.tdiv n * n < 0
    · have H := Lib.hid (HT4.out hneg)
      go_enter Tryz.func24, Tryz.ntmps24
      go_wp2_with (fail)
      go_ret
      exact ⟨ret_int H.out, rfl⟩
    · have H := Lib.hid (HT5.out hneg)
      go_enter Tryz.func24, Tryz.ntmps24
      go_wp2_with (fail)
      go_ret
      exact ⟨ret_int H.out, rfl⟩
end Go.Proofs.YtgbjpobgjmkjgaaGreat.draws
