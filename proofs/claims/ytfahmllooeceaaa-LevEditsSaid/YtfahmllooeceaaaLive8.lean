/-
  The contracts of what lives, and of which texts are short; words for the laws.
-/
import Derived.Test.YtfahmllooeceaaaRLeast
import Derived.Test.YtfahmllooeceaaaEdits
import Derived.Test.YtfahmllooeceaaaREdits
import Derived.Test.YtfahmllooeceaaaRApp
namespace Go.Proofs.Ytfahmllooeceaaa.lev
open Go.RowKit law bytes
set_option linter.unusedVariables false

theorem list_eq_iff (a b : ByteArray) : (a.toList == b.toList) = decide (a = b) := by
  rw [Bool.eq_iff_iff]
  simp only [beq_iff_eq, decide_eq_true_eq, ByteArray.toList_eq]
  exact ⟨fun h => by cases a; cases b; simp only at h; congr 1; exact Array.toList_inj.1 h, fun h => by rw [h]⟩
/-- a call told in every world that left what there was -/
def ToldL (f : FuncId) (args : Array Value) (v : Value) (w : World) : Prop := ∀ W, Below w.heap.size w W → Calls Try.prog f args W fun e w' => e = .returned v ∧ Below w.heap.size w w'
theorem told {f : FuncId} {args : Array Value} {v : Value} {w : World} (h : ∀ W, Calls Try.prog f args W (Tells v W)) : ToldL f args v w := fun W hW =>
  (h W).mono fun e w' ⟨he, hb⟩ => ⟨he, hW.trans (hb.mono hW.size)⟩
theorem told_still {f : FuncId} {args : Array Value} {v : Value} {w : World} (h : ∀ W, Calls Try.prog f args W (Still v W)) : ToldL f args v w := fun W hW =>
  (h W).mono fun e w' ⟨he, k, hk⟩ => ⟨he, by rw [hk]; exact below_drewN' hW _⟩
theorem told_same {f : FuncId} {args : Array Value} {v : Value} {w : World} (h : ∀ W, Calls Try.prog f args W fun e w' => e = .returned v ∧ W = w') : ToldL f args v w := fun W hW =>
  (h W).mono fun e w' ⟨he, hk⟩ => ⟨he, by rw [← hk]; exact hW⟩

theorem short_yes (a b : ByteArray) (ha : a.size ≤ 120) (hb : b.size ≤ 120) (w : World) : Calls Try.prog 7 #[.string a, .string b] w fun e w' => e = .returned (.bool true) ∧ w = w' := by
  have d2 : decide ((b.size : Int) ≤ 120) = true := decide_eq_true (by omega)
  go_enter Try.func7, Try.ntmps7
  go_wp2_with (fail)
  go_ret
  exact ⟨rfl, rfl⟩
theorem short_no (a b : ByteArray) (h : ¬ (a.size ≤ 120 ∧ b.size ≤ 120)) (w : World) : Calls Try.prog 7 #[.string a, .string b] w fun e w' => e = .returned (.bool false) ∧ w = w' := by
  by_cases h1 : a.size ≤ 120
  · have h2 : ¬ b.size ≤ 120 := fun h2 => h ⟨h1, h2⟩
    clear h
    have d2 : decide ((b.size : Int) ≤ 120) = false := decide_eq_false (by omega)
    go_enter Try.func7, Try.ntmps7
    go_wp2_with (fail)
    go_ret
    exact ⟨rfl, rfl⟩
  · clear h
    have d1 : decide ((a.size : Int) ≤ 120) = false := decide_eq_false (by omega)
    go_enter Try.func7, Try.ntmps7
    go_wp2_with (fail)
    go_ret
    exact ⟨rfl, rfl⟩

theorem L_kitten : L [107, 105, 116, 116, 101, 110] [115, 105, 116, 116, 105, 110, 103] = 3 := by decide +kernel
theorem E_ab : E [97, 98] [98] = [45, 61] := by
  rw [E_goes (x := 97) (y := 98) (by decide) (by decide) (by decide), E_same, E_nil]
set_option maxRecDepth 100000 in
theorem lives_any (w : World) : Calls Try.prog 8 #[] w (Tells (.bool true) w) := by
  have h1 : Calls Try.prog 13 #[.string ⟨#[107, 105, 116, 116, 101, 110]⟩, .string ⟨#[115, 105, 116, 116, 105, 110, 103]⟩] w (Tells (.int .i64 3) w) := by
    have := dist_any ⟨#[107, 105, 116, 116, 101, 110]⟩ ⟨#[115, 105, 116, 116, 105, 110, 103]⟩ (by decide) (by decide) w
    rwa [show L (bl ⟨#[107, 105, 116, 116, 101, 110]⟩) (bl ⟨#[115, 105, 116, 116, 105, 110, 103]⟩) = 3 from L_kitten] at this
  have h2 : ∀ W, Calls Try.prog 16 #[.string ⟨#[97, 98]⟩, .string ⟨#[98]⟩] W (Tells (.string ⟨#[45, 61]⟩) W) := fun W => by
    have := edits_any ⟨#[97, 98]⟩ ⟨#[98]⟩ (by decide) (by decide) W
    rwa [show of (E (bl ⟨#[97, 98]⟩) (bl ⟨#[98]⟩)) = ⟨#[45, 61]⟩ from by show of (E [97, 98] [98]) = _; rw [E_ab]; rfl] at this
  have H1 := Lib.hid h1
  have H2 := Lib.hid h2
  clear h1 h2
  go_enter Try.func8, Try.ntmps8
  go_wp2_with (fail)
  refine H1.out.mono ?_
  rintro e w1 ⟨rfl, hb1⟩
  go_wp2_with (fail)
  refine (H2.out w1).mono ?_
  rintro e w2 ⟨rfl, hb2⟩
  go_wp2_with (fail)
  go_ret
  exact ⟨rfl, hb1.trans (hb2.mono hb1.size)⟩
end Go.Proofs.Ytfahmllooeceaaa.lev
