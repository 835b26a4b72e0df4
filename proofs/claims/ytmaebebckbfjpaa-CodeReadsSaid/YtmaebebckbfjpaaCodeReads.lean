/-
  For all bytes and all parts the law CodeReads returns true, and changes nothing that there was.
-/
import Derived.Test.YtmaebebckbfjpaaReadsWalk
import Derived.Test.YtmaebebckbfjpaaOpenParts
namespace Go.Proofs.Ytmaebebckbfjpaa.codeReads
open Go.RowKit law bytes nums same code
open Go.ChangeShapes Go.WideShapes Go.ChangeAt

theorem lifted (os : Os) (started : os.Started) (H : Type) (enc : TypeId × Value → H) :
    ReturnsInHanded {} Try.checked os 4 .any (Rows.codeReadsSpec.pre6 enc Try.prog Try.f4 Rows.codeReadsRow.domain false) (Rows.codeReadsSpec.post enc Try.prog Try.f4 false true false false) := by
  refine lift (C := Try.checked) (by kernel_rfl) started (by kernel_rfl) Try.func4 rfl (by kernel_rfl) (by kernel_rfl) rfl Try.underlying4
    (fun ds hd => by match ds, hd with | [_, _], _ => exact ⟨rfl, rfl, rfl⟩)
    (ChangeSpec.witness6 (enc := enc) (C := Try.checked) false ⟨#[], #[.slice none 0 0, .slice none 0 0], []⟩ 8 (by kernel_rfl) (by kernel_rfl) (by kernel_rfl) (by kernel_rfl)) ?_
  intro W base args ds before hval0 hA0 hfz hsz0
  have hval : ∀ (j : Nat) t v, Try.f4.params[j]? = some t → args[j]? = some v → Value.okWide Try.prog W .any base t v := hval0
  have hA : DataW.TrodAll enc Try.prog W 0 (fun _ => true) true Try.f4.params.toList args.toList ds before := hA0
  have hsz : (DataW.weightsEach Try.prog Try.f4.params.toList ds).all (· ≤ reachBytes) = true := hsz0
  rw [Try.params4] at hA hval hsz
  obtain ⟨v0, vs0, d0, ds0, p0, q0, hargs, rfl, rfl, h0, r0⟩ := trodAll_cons hA
  obtain ⟨v1, vs1, d1, ds1, p1, q1, rfl, rfl, rfl, h1, r1⟩ := trodAll_cons r0
  obtain ⟨rfl, rfl, rfl⟩ := trodAll_nil r1
  obtain rfl : args = #[v0, v1] := by cases args; simp_all
  obtain ⟨A, c, b, rfl, hc, hs, hd⟩ := open_bytes Try.underlying27 Try.underlying5 (by kernel_rfl) (hval 0 27 v0 rfl rfl) h0
  obtain ⟨A1, c1, l, rfl, hc1, hs1, hf, _, hd1⟩ := open_parts Try.underlying22 Try.underlying38 (by kernel_rfl) (by kernel_rfl) rfl ⟨_, rfl, Try.underlying3⟩ ⟨_, rfl, Try.underlying36⟩ ⟨_, rfl, Try.underlying3⟩ ⟨_, rfl, Try.underlying4⟩ ⟨_, rfl, Try.underlying9⟩ ⟨_, rfl, Try.underlying3⟩ ⟨_, rfl, Try.underlying3⟩ ⟨_, rfl, Try.underlying3⟩ (hval 1 22 v1 rfl rfl) h1
  have hm : c ≤ 140737488351232 := bytes_reach (by kernel_rfl) Try.underlying27 hsz (j := 0) rfl rfl hd
  have hml : l.length ≤ 140737488355328 := by
    rcases hd1 with ⟨rfl, _⟩ | ⟨el, sp, rfl, hel⟩
    · simp
    · have h := sized_slice hsz (j := 1) (t := 22) rfl rfl Try.underlying22
      have hby : 1 ≤ Try.prog.bytesOf 38 := of_decide_eq_true (by kernel_rfl)
      have hr : reachBytes = 140737488351232 := by decide
      have h2 : el.length + sp.length ≤ (el.length + sp.length) * Try.prog.bytesOf 38 := Nat.le_mul_of_pos_right _ hby
      omega
  exact walk A A1 b l c c1 W hs (by omega) hc hs1 (fun q hq => (hf q hq).2.2.2) hml

theorem proved : Rows.CodeReadsSaid :=
  OpenClaim.holds_of_wide 4 Try.f4 rfl rfl rfl rfl rfl rfl rfl ⟨rfl, rfl, rfl, rfl, rfl⟩ rfl rfl rfl rfl rfl (by kernel_rfl) Try.func4 (by kernel_rfl)
    (of_decide_eq_true (by kernel_rfl)) (by unfold Func.isWrapper; first | (rw [if_pos (by decide +kernel)]; kernel_rfl) | (rw [if_neg (by decide +kernel)]; exact ⟨rfl, rfl⟩))
    (fun os started H enc _ => lifted os started H enc)
#print axioms proved
end Go.Proofs.Ytmaebebckbfjpaa.codeReads
