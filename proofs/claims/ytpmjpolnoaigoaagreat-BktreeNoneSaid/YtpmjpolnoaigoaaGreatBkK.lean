/-
  Maps keyed by hooks: a struct of two ints.
-/
import Derived.Test.YtpmjpolnoaigoaaGreatBkM
import Derived.DeepKeys4
namespace Go.Proofs.YtpmjpolnoaigoaaGreat.bk
open Go.RowKit Go.WideShapes Go.Maps
set_option linter.unusedVariables false

theorem hookLaw : Maps.Keyed Tryz.prog 183 := Maps.Keyed.of_law (deep_law_laid (m := 3) (by kernel_rfl) (by decide) (of_decide_eq_true (by kernel_rfl)) (by kernel_rfl) (by kernel_rfl))
theorem hookType : Tryz.prog.keyType 183 = true := by kernel_rfl
theorem hookForm (p e : Int) : (Value.agg #[.int .i64 p, .int .i64 e]).formed Tryz.prog 183 = true := by kernel_rfl
theorem typesP : 0 < Tryz.prog.types.size := of_decide_eq_true (by kernel_rfl)
theorem hook_keyOf {p e : Int} (hp : I64 p) (he : I64 e) : keyOf Tryz.prog 183 (.agg #[.int .i64 p, .int .i64 e]) = some (hkey p e) := by
  have w1 := wf64 hp
  have w2 := wf64 he
  have h0 : ∀ m, Tryz.prog.keyLits (m + 2) 183 [.int .i64 p, .int .i64 e] = some [.int .i64 p, .int .i64 e] := fun m => by
    have hc : Tryz.prog.cellsOf 183 = 2 := by kernel_rfl
    have hc3 : Tryz.prog.cellsOf 3 = 1 := by kernel_rfl
    have hu := Tryz.underlying183
    unfold Program.keyLits
    simp only [hu]
    rw [if_pos ⟨by rw [hc]; rfl, by kernel_rfl⟩]
    simp [Program.keyLits, Tryz.underlying3, hc3, w1, w2]
  unfold keyOf
  have hu := Tryz.underlying183
  simp only [hu]
  rw [if_pos (by rw [hookType, hookForm]; rfl)]
  obtain ⟨m, hm⟩ : ∃ m, Tryz.prog.types.size + 1 = m + 2 := ⟨Tryz.prog.types.size - 1, by have := typesP; omega⟩
  rw [hm, show (Value.agg #[.int .i64 p, .int .i64 e]).cells.toList = [.int .i64 p, .int .i64 e] from rfl, h0]
  rfl
end Go.Proofs.YtpmjpolnoaigoaaGreat.bk
