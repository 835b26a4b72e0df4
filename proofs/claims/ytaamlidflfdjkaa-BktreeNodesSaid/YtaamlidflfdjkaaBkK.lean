/-
  Maps keyed by hooks: a struct of two ints.
-/
import Derived.Test.YtaamlidflfdjkaaBkM
import Derived.DeepKeys4
namespace Go.Proofs.Ytaamlidflfdjkaa.bk
open Go.RowKit Go.WideShapes Go.Maps
set_option linter.unusedVariables false

theorem hookLaw : Maps.Keyed Try.prog 97 := Maps.Keyed.of_law (deep_law_laid (m := 3) (by kernel_rfl) (by decide) (of_decide_eq_true (by kernel_rfl)) (by kernel_rfl) (by kernel_rfl))
theorem hookType : Try.prog.keyType 97 = true := by kernel_rfl
theorem hookForm (p e : Int) : (Value.agg #[.int .i64 p, .int .i64 e]).formed Try.prog 97 = true := by kernel_rfl
theorem typesP : 0 < Try.prog.types.size := of_decide_eq_true (by kernel_rfl)
theorem hook_keyOf {p e : Int} (hp : I64 p) (he : I64 e) : keyOf Try.prog 97 (.agg #[.int .i64 p, .int .i64 e]) = some (hkey p e) := by
  have w1 := wf64 hp
  have w2 := wf64 he
  have h0 : ∀ m, Try.prog.keyLits (m + 2) 97 [.int .i64 p, .int .i64 e] = some [.int .i64 p, .int .i64 e] := fun m => by
    have hc : Try.prog.cellsOf 97 = 2 := by kernel_rfl
    have hc3 : Try.prog.cellsOf 3 = 1 := by kernel_rfl
    have hu := Try.underlying97
    unfold Program.keyLits
    simp only [hu]
    rw [if_pos ⟨by rw [hc]; rfl, by kernel_rfl⟩]
    simp [Program.keyLits, Try.underlying3, hc3, w1, w2]
  unfold keyOf
  have hu := Try.underlying97
  simp only [hu]
  rw [if_pos (by rw [hookType, hookForm]; rfl)]
  obtain ⟨m, hm⟩ : ∃ m, Try.prog.types.size + 1 = m + 2 := ⟨Try.prog.types.size - 1, by have := typesP; omega⟩
  rw [hm, show (Value.agg #[.int .i64 p, .int .i64 e]).cells.toList = [.int .i64 p, .int .i64 e] from rfl, h0]
  rfl
end Go.Proofs.Ytaamlidflfdjkaa.bk
