/-
  The contracts of package bound and of the document's own answers for layer 1: each call returns the given integer or bool and leaves the world alone.
-/
import Derived.Test.YtfonbiknmhgelaaLaw
namespace Go.Proofs.Ytfonbiknmhgelaa.bound
open Go.RowKit law
set_option linter.unusedVariables false

def inn (n : Int) : Int := if n < 0 then 0 else if 1125899906842624 < n then 1125899906842624 else n
theorem inn_bd (n : Int) : 0 ≤ inn n ∧ inn n ≤ 1125899906842624 := by unfold inn; omega
def apart (a b : Int) : Int := if a < b then b - a else a - b
def ring (q a b : Int) : Int := if q < min a b then min a b - q else if max a b < q then q - max a b else 0

theorem bringIn_any (n : Int) (w : World) : Calls Try.prog 15 #[.int .i64 n] w fun e w' => e = .returned (.int .i64 (inn n)) ∧ w = w' := by
  go_enter Try.func15, Try.ntmps15
  go_wp2
  all_goals
    go_ret
    exact ⟨ret_int (by unfold inn; omega), rfl⟩
theorem in_any (n : Int) (w : World) : Calls Try.prog 6 #[.int .i64 n] w fun e w' => e = .returned (.int .i64 (inn n)) ∧ w = w' := by
  go_enter Try.func6, Try.ntmps6
  go_wp2
  all_goals
    go_ret
    exact ⟨ret_int (by unfold inn; omega), rfl⟩
theorem apart_any (a b : Int) (w : World) : Calls Try.prog 7 #[.int .i64 a, .int .i64 b] w fun e w' => e = .returned (.int .i64 (apart (inn a) (inn b))) ∧ w = w' := by
  have ha := inn_bd a
  have hb := inn_bd b
  obtain ⟨ha1, ha2⟩ := ha
  obtain ⟨hb1, hb2⟩ := hb
  go_enter Try.func7, Try.ntmps7
  go_wp2_with (go_at_call 15; refine (bringIn_any _ _).mono ?_; rintro e w' ⟨rfl, rfl⟩)
  all_goals
    go_ret
    exact ⟨ret_int (by unfold apart; omega), rfl⟩
theorem rapart_any (a b : Int) (w : World) : Calls Try.prog 8 #[.int .i64 a, .int .i64 b] w fun e w' => e = .returned (.int .i64 (apart (inn a) (inn b))) ∧ w = w' := by
  have ha := inn_bd a
  have hb := inn_bd b
  obtain ⟨ha1, ha2⟩ := ha
  obtain ⟨hb1, hb2⟩ := hb
  go_enter Try.func8, Try.ntmps8
  go_wp2_with (go_at_call 6; refine (in_any _ _).mono ?_; rintro e w' ⟨rfl, rfl⟩)
  all_goals
    go_ret
    exact ⟨ret_int (by unfold apart; omega), rfl⟩
theorem sum_any (a b : Int) (w : World) : Calls Try.prog 9 #[.int .i64 a, .int .i64 b] w fun e w' => e = .returned (.int .i64 (inn a + inn b)) ∧ w = w' := by
  have ha := inn_bd a
  have hb := inn_bd b
  obtain ⟨ha1, ha2⟩ := ha
  obtain ⟨hb1, hb2⟩ := hb
  go_enter Try.func9, Try.ntmps9
  go_wp2_with (go_at_call 15; refine (bringIn_any _ _).mono ?_; rintro e w' ⟨rfl, rfl⟩)
  all_goals
    go_ret
    exact ⟨rfl, rfl⟩
theorem ring_any (q a b : Int) (w : World) : Calls Try.prog 10 #[.int .i64 q, .int .i64 a, .int .i64 b] w fun e w' => e = .returned (.int .i64 (ring (inn q) (inn a) (inn b))) ∧ w = w' := by
  obtain ⟨ha1, ha2⟩ := inn_bd a
  obtain ⟨hb1, hb2⟩ := inn_bd b
  obtain ⟨hq1, hq2⟩ := inn_bd q
  go_enter Try.func10, Try.ntmps10
  go_wp2_with (go_at_call 15; refine (bringIn_any _ _).mono ?_; rintro e w' ⟨rfl, rfl⟩)
  all_goals
    go_ret
    exact ⟨ret_int (by unfold ring; omega), rfl⟩
theorem rring_any (q a b : Int) (w : World) : Calls Try.prog 11 #[.int .i64 q, .int .i64 a, .int .i64 b] w fun e w' => e = .returned (.int .i64 (ring (inn q) (inn a) (inn b))) ∧ w = w' := by
  obtain ⟨ha1, ha2⟩ := inn_bd a
  obtain ⟨hb1, hb2⟩ := inn_bd b
  obtain ⟨hq1, hq2⟩ := inn_bd q
  go_enter Try.func11, Try.ntmps11
  go_wp2_with (go_at_call 6; refine (in_any _ _).mono ?_; rintro e w' ⟨rfl, rfl⟩)
  all_goals
    go_ret
    exact ⟨ret_int (by unfold ring; omega), rfl⟩
theorem ball_any (q r : Int) (w : World) : Calls Try.prog 12 #[.int .i64 q, .int .i64 r] w fun e w' => e = .returned (.int .i64 (ring (inn q) (inn 0) (inn r))) ∧ w = w' := by
  go_enter Try.func12, Try.ntmps12
  go_wp2_with (go_at_call 10; refine (ring_any _ _ _ _).mono ?_; rintro e w' ⟨rfl, rfl⟩)
  go_ret
  exact ⟨rfl, rfl⟩
theorem cut_any (a r : Int) (w : World) : Calls Try.prog 13 #[.int .i64 a, .int .i64 r] w fun e w' => e = .returned (.bool (decide (r < inn a))) ∧ w = w' := by
  go_enter Try.func13, Try.ntmps13
  go_wp2_with (go_at_call 15; refine (bringIn_any _ _).mono ?_; rintro e w' ⟨rfl, rfl⟩)
  all_goals
    go_ret
    exact ⟨rfl, rfl⟩
def wlow (a b c : Int) : Int := if b < a then c else min a c
def whigh (a b c : Int) : Int := if b < a then c else max b c
theorem widen_any (a b c : Int) (w : World) : Calls Try.prog 5 #[.int .i64 a, .int .i64 b, .int .i64 c] w fun e w' => e = .returned (.tuple #[.int .i64 (wlow (inn a) (inn b) (inn c)), .int .i64 (whigh (inn a) (inn b) (inn c))]) ∧ w = w' := by
  go_enter Try.func5, Try.ntmps5
  go_wp2_with (go_at_call 15; refine (bringIn_any _ _).mono ?_; rintro e w' ⟨rfl, rfl⟩)
  all_goals
    go_ret2
    exact ⟨ret_two (by unfold wlow; omega) (by unfold whigh; omega), rfl⟩
theorem lives_any (w : World) : Calls Try.prog 14 #[] w fun e w' => e = .returned (.bool true) ∧ w = w' := by
  go_enter Try.func14, Try.ntmps14
  go_wp2
  go_ret
  exact ⟨rfl, rfl⟩
end Go.Proofs.Ytfonbiknmhgelaa.bound
