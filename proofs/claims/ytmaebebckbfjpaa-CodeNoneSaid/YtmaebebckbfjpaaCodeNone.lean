/-
  For every part the law CodeNone returns true, and changes nothing that there was.
-/
import Derived.Test.YtmaebebckbfjpaaNone
namespace Go.Proofs.Ytmaebebckbfjpaa.codeNone
open Go.RowKit law bytes nums same code
open Go.ChangeShapes Go.WideShapes Go.ChangeAt

theorem lifted (os : Os) (started : os.Started) (H : Type) (enc : TypeId × Value → H) :
    ReturnsInHanded {} Try.checked os 6 .any (Rows.codeNoneSpec.pre6 enc Try.prog Try.f6 Rows.codeNoneRow.domain false) (Rows.codeNoneSpec.post enc Try.prog Try.f6 false true false false) := by
  refine lift (C := Try.checked) (by kernel_rfl) started (by kernel_rfl) Try.func6 rfl (by kernel_rfl) (by kernel_rfl) rfl Try.underlying4
    (fun ds hd => by match ds, hd with | [_], _ => exact ⟨rfl, rfl, rfl⟩)
    (ChangeSpec.witness6 (enc := enc) (C := Try.checked) false ⟨#[], #[.agg #[.int .i64 0, .int .u64 0, .int .i64 0, .bool false, .string ⟨#[]⟩, .int .i64 0, .int .i64 0, .int .i64 0]], []⟩ 8 (by kernel_rfl) (by kernel_rfl) (by kernel_rfl) (by kernel_rfl)) ?_
  intro W base args ds before hval0 hA0 hfz hsz
  have hval : ∀ (j : Nat) t v, Try.f6.params[j]? = some t → args[j]? = some v → Value.okWide Try.prog W .any base t v := hval0
  have hA : DataW.TrodAll enc Try.prog W 0 (fun _ => true) true Try.f6.params.toList args.toList ds before := hA0
  rw [Try.params6] at hA hval
  obtain ⟨v0, vs0, d0, ds0, p0, q0, hargs, rfl, rfl, h0, r0⟩ := trodAll_cons hA
  obtain ⟨rfl, rfl, rfl⟩ := trodAll_nil r0
  obtain rfl : args = #[v0] := by cases args; simp_all
  obtain ⟨p, rfl, hf⟩ := open_part Try.underlying38 (by kernel_rfl) (by kernel_rfl) rfl ⟨_, rfl, Try.underlying3⟩ ⟨_, rfl, Try.underlying36⟩ ⟨_, rfl, Try.underlying3⟩ ⟨_, rfl, Try.underlying4⟩ ⟨_, rfl, Try.underlying9⟩ ⟨_, rfl, Try.underlying3⟩ ⟨_, rfl, Try.underlying3⟩ ⟨_, rfl, Try.underlying3⟩ (hval 0 38 v0 rfl rfl) h0
  exact none_walk p W hf.1

theorem proved : Rows.CodeNoneSaid :=
  OpenClaim.holds_of_wide 6 Try.f6 rfl rfl rfl rfl rfl rfl rfl ⟨rfl, rfl, rfl, rfl, rfl⟩ rfl rfl rfl rfl rfl (by kernel_rfl) Try.func6 (by kernel_rfl)
    (of_decide_eq_true (by kernel_rfl)) (by unfold Func.isWrapper; first | (rw [if_pos (by decide +kernel)]; kernel_rfl) | (rw [if_neg (by decide +kernel)]; exact ⟨rfl, rfl⟩))
    (fun os started H enc _ => lifted os started H enc)
#print axioms proved
end Go.Proofs.Ytmaebebckbfjpaa.codeNone
