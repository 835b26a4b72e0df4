/-
  A row of ints that came in.
-/
import Derived.Test.YtgbjpobgjmkjgaaGreatGPiv
import Derived.Test.YtgbjpobgjmkjgaaGreatGLib
namespace Go.Proofs.YtgbjpobgjmkjgaaGreat.tab
open Go.RowKit Go.ChangeShapes Go.WideShapes Go.ChangeAt law bytes only flat nums pv came
set_option linter.unusedVariables false
set_option maxRecDepth 100000

section
variable {H : Type} {enc : TypeId × Value → H} {W : World} {base b0 : Nat} {held : Bool}
/-- a row of ints that came in -/
theorem open_i64s {ts : List TypeId} {ds : List (DataW H)} {j : Nat} {v : Value} {d : DataW H} {p : List MemPlace} (hv : Value.okWide Tryz.prog W .any b0 39 v) (h : DataW.Trod enc Tryz.prog W 0 (fun _ => true) true 39 v d p)
    (hsz : (DataW.weightsEach Tryz.prog ts ds).all (· ≤ reachBytes) = true) (hj : ts[j]? = some 39) (hdj : ds[j]? = some d) :
    ∃ A c, ∃ l : List Int, v = .slice A l.length c ∧ Sl W W.heap.size A (nv l) ∧ l.length * 8 ≤ 140737488351232 ∧ ∀ x ∈ l, -9223372036854775808 ≤ x ∧ x ≤ 9223372036854775807 := by
  obtain ⟨A, len, cap, rfl⟩ := okWide_slice Tryz.underlying39 hv
  obtain ⟨fuel, hf⟩ := h
  rcases open_ints Tryz.underlying39 Tryz.underlying3 (by kernel_rfl) hf with ⟨hcs, hx⟩ | ⟨a, len', cap', zs, hcs, _, hl, hm, hz, hx, hcell, hwz⟩
  · simp [Value.cells] at hcs
    obtain ⟨rfl, rfl, rfl⟩ := hcs
    exact ⟨none, 0, [], rfl, Sl.nil, by simp, by simp⟩
  · simp [Value.cells] at hcs
    obtain ⟨rfl, rfl, rfl⟩ := hcs
    injection hx with hd hp
    simp only [if_true] at hz
    have ht : (zs.take len).length = len := by simp; omega
    have hle : len ≤ cap := by omega
    refine ⟨some a, cap, zs.take len, by rw [ht], fun j u hj => ?_, ?_, fun x hx => ?_⟩
    · simp only [nv, List.getElem?_map, List.getElem?_take] at hj
      split at hj
      · rename_i hlt
        have hlz : j < zs.length := by omega
        have hcj := hcell j hlz
        simp only [List.getElem?_eq_getElem hlz, Option.map_some, Option.some.injEq] at hj
        subst hj
        refine ⟨a, rfl, ?_, by rw [hcj]; simp [List.getD, List.getElem?_eq_getElem hlz]⟩
        have := World.block_lt_of_cell? W _ hcj
        rwa [blk_add] at this
      · cases hj
    · subst hd
      have h2 := sized_slice hsz hj hdj Tryz.underlying39
      rw [show Tryz.prog.bytesOf 3 = 8 from by kernel_rfl] at h2
      have hr : reachBytes = 140737488351232 := by decide
      simp [lits] at h2
      rw [ht]
      omega
    · have hw := hwz x (List.mem_of_mem_take hx)
      simpa [Lit.wf, IntKind.min, IntKind.max, IntKind.signed, IntKind.bits] using hw
end
end Go.Proofs.YtgbjpobgjmkjgaaGreat.tab
