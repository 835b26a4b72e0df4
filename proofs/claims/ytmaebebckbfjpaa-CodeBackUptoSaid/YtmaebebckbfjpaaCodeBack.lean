/-
  For all parts and bytes that are together of bulk at most 1048576 the law CodeBack returns true, and changes nothing that there was.
-/
import Derived.Test.YtmaebebckbfjpaaBackWalk
namespace Go.Proofs.Ytmaebebckbfjpaa.codeBack
open Go.RowKit law bytes nums same code
open Go.ChangeShapes Go.WideShapes Go.ChangeAt

theorem lifted (os : Os) (started : os.Started) (H : Type) (enc : TypeId × Value → H) (F : Stop.Interp) :
    ReturnsInHanded {} Try.checked os 5 .any ((Rows.OpenSpec.upto Rows.codeBackSpec).pre6 enc Try.prog Try.f5 Rows.codeBackUptoRow.domain false) (((Rows.OpenSpec.upto Rows.codeBackSpec).at F).post enc Try.prog Try.f5 false true false false) := by
  refine lift_upto (C := Try.checked) (by kernel_rfl) started (by kernel_rfl) Try.func5 rfl (by kernel_rfl) (by kernel_rfl) rfl Try.underlying4
    (fun ds hd => by match ds, hd with | [_, _], _ => exact ⟨rfl, rfl, rfl⟩)
    (OpenSpec.witness (enc := enc) (C := Try.checked) (s := Rows.OpenSpec.upto Rows.codeBackSpec) (k := Rows.uptoSmall) rfl false ⟨#[], #[.slice none 0 0, .slice none 0 0], []⟩ 8 (by kernel_rfl) (by kernel_rfl) (by kernel_rfl)
      (x := ([.nil, .nil], [], [])) (by kernel_rfl) rfl (by kernel_rfl)) ?_
  intro W base args ds before hval0 hA0 hfz hk
  have hval : ∀ (j : Nat) t v, Try.f5.params[j]? = some t → args[j]? = some v → Value.okWide Try.prog W .any base t v := hval0
  have hA : DataW.TrodAll enc Try.prog W 0 (fun _ => true) true Try.f5.params.toList args.toList ds before := hA0
  rw [Try.params5] at hA hval
  obtain ⟨v0, vs0, d0, ds0, p0, q0, hargs, rfl, rfl, h0, r0⟩ := trodAll_cons hA
  obtain ⟨v1, vs1, d1, ds1, p1, q1, rfl, rfl, rfl, h1, r1⟩ := trodAll_cons r0
  obtain ⟨rfl, rfl, rfl⟩ := trodAll_nil r1
  obtain rfl : args = #[v0, v1] := by cases args; simp_all
  obtain ⟨A, c, l, rfl, hc, hs, hf, hb, _⟩ := open_parts Try.underlying22 Try.underlying38 (by kernel_rfl) (by kernel_rfl) rfl ⟨_, rfl, Try.underlying3⟩ ⟨_, rfl, Try.underlying36⟩ ⟨_, rfl, Try.underlying3⟩ ⟨_, rfl, Try.underlying4⟩ ⟨_, rfl, Try.underlying9⟩ ⟨_, rfl, Try.underlying3⟩ ⟨_, rfl, Try.underlying3⟩ ⟨_, rfl, Try.underlying3⟩ (hval 0 22 v0 rfl rfl) h0
  obtain ⟨A1, c1, b, rfl, hc1, hs1, hd1⟩ := open_bytes Try.underlying27 Try.underlying5 (by kernel_rfl) (hval 1 27 v1 rfl rfl) h1
  have hb1 := bytes_bulk hd1
  simp only [Rows.uptoBulkAll] at hk
  exact walk A A1 l b c c1 W hs hf hs1 (by omega)

theorem proved : Rows.CodeBackUptoSaid :=
  OpenClaim.holds_of_cond 5 Try.f5 rfl rfl rfl rfl rfl rfl rfl ⟨rfl, rfl, rfl, rfl, rfl⟩ rfl rfl rfl rfl rfl (by kernel_rfl) Try.func5 (by kernel_rfl)
    (of_decide_eq_true (by kernel_rfl)) (by unfold Func.isWrapper; first | (rw [if_pos (by decide +kernel)]; kernel_rfl) | (rw [if_neg (by decide +kernel)]; exact ⟨rfl, rfl⟩))
    (fun os started H enc _ F => lifted os started H enc F)
#print axioms proved
end Go.Proofs.Ytmaebebckbfjpaa.codeBack
