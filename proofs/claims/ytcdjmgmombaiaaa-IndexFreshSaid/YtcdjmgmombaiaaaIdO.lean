/-
  Items that came in, with what their numbers are; numbers that came in.
-/
import Derived.Test.YtcdjmgmombaiaaaIdR
namespace Go.Proofs.Ytcdjmgmombaiaaa.idx
open Go.RowKit law bytes only flat nums ord obj came
open aro (Kept zK)
open store (iE RI item_in item_fit Lie)
open Go.ChangeShapes Go.WideShapes Go.Deep Go.ChangeAt
set_option linter.unusedVariables false

section
variable {H : Type} {enc : TypeId × Value → H} {P : Program} {w : World} {base : Nat} {held : Bool}
theorem first_wf {fuel : Nat} {t : TypeId} {f0 f1 : Field} {cs : List Value} {y : DataW H × List MemPlace} (ht : P.underlying t = some (.struct #[f0, f1])) (hoff : f0.offset = 0) (hsz : P.cellsOf f0.type = 1)
    (k0 : P.underlying f0.type = some (.int .u64)) (h : DataW.trod enc P w base (fun _ => true) held fuel t cs = some y) {id : Int} {r : List Value} (hcs : cs = .int .u64 id :: r) : (Lit.int .u64 id).wf = true := by
  obtain ⟨xs, n, _, hx, hl, hlen, hg⟩ := DataW.trod_struct ht h
  match xs, hlen with
  | [y0, y1], _ =>
    have g0 : DataW.trod enc P w base (fun _ => true) held n f0.type [.int .u64 id] = some y0 := by simpa [hoff, hsz, hcs] using hg 0 f0 rfl
    obtain ⟨m, e0, -, hw⟩ := DataW.trod_int k0 g0
    have e1 := List.singleton_inj.1 e0
    injection e1 with _ e2
    rw [e2]; exact hw
end
section
variable {H : Type} {enc : TypeId × Value → H} {W : World} {base b0 : Nat} {held : Bool}
/-- a row of items that came in -/
theorem open_itemsW {r : Reach} {ts : List TypeId} {ds : List (DataW H)} {j : Nat} {v : Value} {d : DataW H} {p : List MemPlace} (hv : Value.okWide Try.prog W r b0 22 v) (h : DataW.Trod enc Try.prog W base (fun _ => true) held 22 v d p)
    (hsz : (DataW.weightsEach Try.prog ts ds).all (· ≤ reachBytes) = true) (hj : ts[j]? = some 22) (hdj : ds[j]? = some d) :
    ∃ A c, ∃ l : List (Int × Kept), v = .slice A l.length c ∧ Came 4 iE W A l ∧ Lie W W.heap.size l ∧ Wf l ∧ l.length * 56 ≤ 140737488351232 := by
  have k : ∀ (fuel : Nat) (cs : List Value) (y : DataW H × List MemPlace), DataW.trod enc Try.prog W base (fun _ => true) held fuel 36 cs = some y → ∃ a : Int × Kept, cs = iE a ∧ (RI W a y.1 ∧ (Lit.int .u64 a.1).wf = true) := fun fuel cs y h => by
    obtain ⟨a, e, hR⟩ := item_in fuel cs y h
    exact ⟨a, e, hR, first_wf Try.underlying36 (by kernel_rfl) (by kernel_rfl) Try.underlying24 h e⟩
  obtain ⟨A, cap, l, rfl, hr, hd⟩ := open_rowD (N := 4) (R := fun a d => RI W a d ∧ (Lit.int .u64 a.1).wf = true) Try.underlying22 (by kernel_rfl) k hv h
  refine ⟨A, cap, l, rfl, hr, ?_⟩
  rcases hd with rfl | ⟨el, sp, rfl, hle, hR⟩
  · exact ⟨fun p hp => by simp at hp, fun p hp => by simp at hp, by simp⟩
  · refine ⟨fun p hp => ?_, fun p hp => ?_, ?_⟩
    · obtain ⟨i, hi, rfl⟩ := List.getElem_of_mem hp
      obtain ⟨x, hx, hRI, -⟩ := hR i hi
      exact ⟨by obtain ⟨d0, d1, -, h1⟩ := hRI; exact h1.1, item_fit hRI (weighs_slice hsz hj hdj Try.underlying22 hx)⟩
    · obtain ⟨i, hi, rfl⟩ := List.getElem_of_mem hp
      obtain ⟨x, hx, -, hw⟩ := hR i hi
      exact hw
    · have h2 := sized_slice hsz hj hdj Try.underlying22
      have hr : reachBytes = 140737488351232 := by decide
      rw [show Try.prog.bytesOf 36 = 56 from by kernel_rfl, hr] at h2
      omega
theorem open_u64s {ts : List TypeId} {ds : List (DataW H)} {j : Nat} {v : Value} {d : DataW H} {p : List MemPlace} (hv : Value.okWide Try.prog W .any b0 23 v) (h : DataW.Trod enc Try.prog W 0 (fun _ => true) true 23 v d p)
    (hsz : (DataW.weightsEach Try.prog ts ds).all (· ≤ reachBytes) = true) (hj : ts[j]? = some 23) (hdj : ds[j]? = some d) :
    ∃ A c, ∃ l : List Int, v = .slice A l.length c ∧ Sl W W.heap.size A (us l) ∧ l.length * 8 ≤ 140737488355328 := by
  obtain ⟨A, len, cap, rfl⟩ := okWide_slice Try.underlying23 hv
  obtain ⟨fuel, hf⟩ := h
  rcases open_ints Try.underlying23 Try.underlying24 (by kernel_rfl) hf with ⟨hcs, hx⟩ | ⟨a, len', cap', zs, hcs, _, hl, hm, hz, hx, hcell, hwz⟩
  · simp [Value.cells] at hcs
    obtain ⟨rfl, rfl, rfl⟩ := hcs
    exact ⟨none, 0, [], rfl, Sl.nil, by simp⟩
  · simp [Value.cells] at hcs
    obtain ⟨rfl, rfl, rfl⟩ := hcs
    injection hx with hd hp
    simp only [if_true] at hz
    have ht : (zs.take len).length = len := by simp; omega
    have hle : len ≤ cap := by omega
    refine ⟨some a, cap, zs.take len, by rw [ht], fun j u hj => ?_, ?_⟩
    · simp only [us, List.getElem?_map, List.getElem?_take] at hj
      split at hj
      · rename_i hlt
        have hlz : j < zs.length := by omega
        have hcj := hcell j hlz
        simp only [List.getElem?_eq_getElem hlz, Option.map_some, Option.some.injEq] at hj
        subst hj
        refine ⟨a, rfl, ?_, by rw [hcj]; simp [List.getD, List.getElem?_eq_getElem hlz]⟩
        have := World.block_lt_of_cell? W _ hcj
        rwa [blk_add] at this
      · cases hj
    · subst hd
      have h2 := sized_slice hsz hj hdj Try.underlying23
      rw [show Try.prog.bytesOf 24 = 8 from by kernel_rfl] at h2
      have hr := reachBytes_lt
      simp [lits] at h2
      rw [ht]
      omega
end
end Go.Proofs.Ytcdjmgmombaiaaa.idx
