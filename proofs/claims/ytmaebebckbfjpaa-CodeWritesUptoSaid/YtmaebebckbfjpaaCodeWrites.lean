/-
  For all parts that are together of bulk at most 1048576 the law CodeWrites returns true, and changes nothing that there was.
-/
import Derived.Test.YtmaebebckbfjpaaOpenParts
import Derived.Test.YtmaebebckbfjpaaRef
import Derived.Test.YtmaebebckbfjpaaLives
namespace Go.Proofs.Ytmaebebckbfjpaa.codeWrites
open Go.RowKit law bytes nums same code
open Go.ChangeShapes Go.WideShapes Go.ChangeAt
set_option linter.unusedVariables false

set_option maxHeartbeats 800000 in
theorem walk (A : Option Addr) (l : List Part) (c : Nat) (w : World) (hs : Sl w w.heap.size A (pcl l)) (hok : ∀ q ∈ l, Ok q) (hsm : l.length + (l.map fun q => q.t.size).sum ≤ 1048576) :
    Calls Try.prog 3 #[.slice A l.length c] w fun e w' => e = .returned (.bool true) ∧ Below w.heap.size w w' := by
  obtain ⟨b1, b2, b3⟩ := small hok hsm
  have b4 : (encL l).length ≤ 140737488355000 := by have := b1 l.length (Nat.le_refl _); rw [List.take_length] at this; omega
  go_enter Try.func3, Try.ntmps3
  go_wp2_with (fail)
  refine (new_any w).mono ?_
  rintro e w1 ⟨rfl, hb1, hw1⟩
  go_wp2_with (fail)
  refine (write_any w.heap.size A l c w.heap.size w1 hw1 (Nat.le_refl _) (hs.below hb1) hok b1 b2 b3).mono ?_
  rintro e w2 ⟨rfl, hb2, hw2⟩
  have hB2 := hb1.trans hb2
  clear hb1 hw1 hb2
  go_wp2_with (fail)
  refine (bytes_any w.heap.size (encL l) w2 hw2 (by omega)).mono ?_
  rintro e w3 ⟨A3, c3, rfl, hc3, hs3, hb3⟩
  have hB3 := hB2.trans (hb3.mono hB2.size)
  clear hB2 hb3 hw2
  go_wp2_with (fail)
  refine (rwrite_any A l c w3 (hs.on hB3) hok b1 b2 b3).mono ?_
  rintro e w4 ⟨v4, rfl, A4, c4, rfl, hown4, hb4⟩
  have hB4 := hB3.trans (hb4.mono hB3.size)
  have hs3' := hs3.on hb4
  have hs4 := Sl.of_own hown4
  clear hB3 hb4 hs3 hown4
  have h5 := same_any A3 A4 (encL l) (encL l) _ _ c3 c4 _ _ w4 rfl rfl (by omega) hs3' hs4
  rw [decide_eq_true rfl] at h5
  go_wp2_with (fail)
  refine h5.mono ?_
  rintro e w5 ⟨rfl, j, rfl⟩
  go_wp2_with (fail)
  refine (lives_any _).mono ?_
  rintro e w6 ⟨rfl, hb6⟩
  go_wp2_with (fail)
  go_ret
  exact ⟨rfl, (below_drewN' hB4 j).trans (hb6.mono hB4.size)⟩

theorem lifted (os : Os) (started : os.Started) (H : Type) (enc : TypeId × Value → H) (F : Stop.Interp) :
    ReturnsInHanded {} Try.checked os 3 .any ((Rows.OpenSpec.upto Rows.codeWritesSpec).pre6 enc Try.prog Try.f3 Rows.codeWritesUptoRow.domain false) (((Rows.OpenSpec.upto Rows.codeWritesSpec).at F).post enc Try.prog Try.f3 false true false false) := by
  refine lift_upto (C := Try.checked) (by kernel_rfl) started (by kernel_rfl) Try.func3 rfl (by kernel_rfl) (by kernel_rfl) rfl Try.underlying4
    (fun ds hd => by match ds, hd with | [_], _ => exact ⟨rfl, rfl, rfl⟩)
    (OpenSpec.witness (enc := enc) (C := Try.checked) (s := Rows.OpenSpec.upto Rows.codeWritesSpec) (k := Rows.uptoSmall) rfl false ⟨#[], #[.slice none 0 0], []⟩ 8 (by kernel_rfl) (by kernel_rfl) (by kernel_rfl)
      (x := ([.nil], [], [])) (by kernel_rfl) rfl (by kernel_rfl)) ?_
  intro W base args ds before hval0 hA0 hfz hk
  have hval : ∀ (j : Nat) t v, Try.f3.params[j]? = some t → args[j]? = some v → Value.okWide Try.prog W .any base t v := hval0
  have hA : DataW.TrodAll enc Try.prog W 0 (fun _ => true) true Try.f3.params.toList args.toList ds before := hA0
  rw [Try.params3] at hA hval
  obtain ⟨v0, vs0, d0, ds0, p0, q0, hargs, rfl, rfl, h0, r0⟩ := trodAll_cons hA
  obtain ⟨rfl, rfl, rfl⟩ := trodAll_nil r0
  obtain rfl : args = #[v0] := by cases args; simp_all
  obtain ⟨A, c, l, rfl, hc, hs, hf, hb, _⟩ := open_parts Try.underlying22 Try.underlying38 (by kernel_rfl) (by kernel_rfl) rfl ⟨_, rfl, Try.underlying3⟩ ⟨_, rfl, Try.underlying36⟩ ⟨_, rfl, Try.underlying3⟩ ⟨_, rfl, Try.underlying4⟩ ⟨_, rfl, Try.underlying9⟩ ⟨_, rfl, Try.underlying3⟩ ⟨_, rfl, Try.underlying3⟩ ⟨_, rfl, Try.underlying3⟩ (hval 0 22 v0 rfl rfl) h0
  simp only [Rows.uptoBulkAll] at hk
  exact walk A l c W hs (fun q hq => (hf q hq).1) (by omega)

theorem proved : Rows.CodeWritesUptoSaid :=
  OpenClaim.holds_of_cond 3 Try.f3 rfl rfl rfl rfl rfl rfl rfl ⟨rfl, rfl, rfl, rfl, rfl⟩ rfl rfl rfl rfl rfl (by kernel_rfl) Try.func3 (by kernel_rfl)
    (of_decide_eq_true (by kernel_rfl)) (by unfold Func.isWrapper; first | (rw [if_pos (by decide +kernel)]; kernel_rfl) | (rw [if_neg (by decide +kernel)]; exact ⟨rfl, rfl⟩))
    (fun os started H enc _ F => lifted os started H enc F)
#print axioms proved
end Go.Proofs.Ytmaebebckbfjpaa.codeWrites
