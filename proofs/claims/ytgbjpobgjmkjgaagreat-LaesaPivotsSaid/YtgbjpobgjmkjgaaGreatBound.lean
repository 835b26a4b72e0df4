/-
  The contracts of package bound and of the document's own answers for layer 1: each call returns the given integer or bool and leaves the world alone.
-/
import Derived.Test.YtgbjpobgjmkjgaaGreatGLib
namespace Go.Proofs.YtgbjpobgjmkjgaaGreat.bound
open Go.RowKit law
set_option linter.unusedVariables false

def inn (n : Int) : Int := if n < 0 then 0 else if 1125899906842624 < n then 1125899906842624 else n
theorem inn_bd (n : Int) : 0 ≤ inn n ∧ inn n ≤ 1125899906842624 := by unfold inn; omega
def apart (a b : Int) : Int := if a < b then b - a else a - b
def ring (q a b : Int) : Int := if q < min a b then min a b - q else if max a b < q then q - max a b else 0

theorem bringIn_any (n : Int) (w : World) : Calls Tryz.prog 102 #[.int .i64 n] w fun e w' => e = .returned (.int .i64 (inn n)) ∧ w = w' := by
  go_enter Tryz.func102, Tryz.ntmps102
  go_wp2
  all_goals
    go_ret
    exact ⟨ret_int (by unfold inn; omega), rfl⟩
theorem apart_any (a b : Int) (w : World) : Calls Tryz.prog 71 #[.int .i64 a, .int .i64 b] w fun e w' => e = .returned (.int .i64 (apart (inn a) (inn b))) ∧ w = w' := by
  have ha := inn_bd a
  have hb := inn_bd b
  obtain ⟨ha1, ha2⟩ := ha
  obtain ⟨hb1, hb2⟩ := hb
  go_enter Tryz.func71, Tryz.ntmps71
  go_wp2_with (go_at_call 102; refine (bringIn_any _ _).mono ?_; rintro e w' ⟨rfl, rfl⟩)
  all_goals
    go_ret
    exact ⟨ret_int (by unfold apart; omega), rfl⟩
theorem cut_any (a r : Int) (w : World) : Calls Tryz.prog 79 #[.int .i64 a, .int .i64 r] w fun e w' => e = .returned (.bool (decide (r < inn a))) ∧ w = w' := by
  go_enter Tryz.func79, Tryz.ntmps79
  go_wp2_with (go_at_call 102; refine (bringIn_any _ _).mono ?_; rintro e w' ⟨rfl, rfl⟩)
  all_goals
    go_ret
    exact ⟨rfl, rfl⟩
def wlow (a b c : Int) : Int := if b < a then c else min a c
def whigh (a b c : Int) : Int := if b < a then c else max b c
end Go.Proofs.YtgbjpobgjmkjgaaGreat.bound
