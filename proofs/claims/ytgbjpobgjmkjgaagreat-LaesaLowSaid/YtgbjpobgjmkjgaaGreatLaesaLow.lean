/-
  For any two rows of ints laesa.Low tells the greatest number by which bound's Apart tells two of them at one place to be apart, 0 of none, as the document has it (P22.1); what lives, lives. No condition.
-/
import Derived.Test.YtgbjpobgjmkjgaaGreatLaV
import Derived.Test.YtgbjpobgjmkjgaaGreatLaO
namespace Go.Proofs.YtgbjpobgjmkjgaaGreat.laesaLow
open Go.RowKit Go.ChangeShapes Go.WideShapes Go.ChangeAt law bytes only flat pv
set_option linter.unusedVariables false
set_option maxRecDepth 100000

set_option maxRecDepth 100000 in
set_option maxHeartbeats 1600000 in
theorem walk (A : Option Addr) (c : Nat) (l : List Int) (hm : l.length ≤ 17592186044416) (A2 : Option Addr) (c2 : Nat) (l2 : List Int) (hm2 : l2.length ≤ 17592186044416) (w : World) (hs : Sl w w.heap.size A (nv l)) (hs2 : Sl w w.heap.size A2 (nv l2)) :
    Calls Tryz.prog 6 #[.slice A l.length c, .slice A2 l2.length c2] w fun e w' => e = .returned (.bool true) ∧ Below w.heap.size w w' := by
  have HL := Lib.hid (lae.low_any A A2 c c2 _ _ l l2 w hs hs2 hm hm2)
  have HR : Hid (∀ W, Below w.heap.size w W → Calls Tryz.prog 34 #[.slice A l.length c, .slice A2 l2.length c2] W fun e w' => e = .returned (.int .i64 (lae.lw l l2)) ∧ Below w.heap.size w w') := Lib.hid fun W hW =>
    (lae.rlow_any A A2 c c2 _ _ l l2 W (hs.below hW) (hs2.below hW) hm hm2).mono fun e w' ⟨he, hb⟩ => ⟨he, hW.trans (hb.mono hW.size)⟩
  have HV : Hid (∀ W, Below w.heap.size w W → Calls Tryz.prog 9 #[] W fun e w' => e = .returned (.bool true) ∧ Below w.heap.size w w') := Lib.hid fun W hW =>
    (tab.lives_any W).mono fun e w' ⟨he, hb⟩ => ⟨he, hW.trans (hb.mono hW.size)⟩
  clear hs hs2
  generalize lae.lw l l2 = x at HL HR
  have d0 : (x == x) = true := by simp
  go_enter Tryz.func6, Tryz.ntmps6
  go_wp2_with (fail)
  refine HL.out.mono ?_
  rintro e w1 ⟨rfl, hb1⟩
  have HR1 := Lib.hid (HR.out w1 hb1)
  clear HR HL hb1
  go_wp2_with (fail)
  refine HR1.out.mono ?_
  rintro e w2 ⟨rfl, hb2⟩
  have HV1 := Lib.hid (HV.out w2 hb2)
  clear HR1 hb2 HV
  go_wp2_with (fail)
  refine HV1.out.mono ?_
  rintro e w3 ⟨rfl, hb3⟩
  have HB := Lib.hid hb3
  clear hb3
  go_wp2_with (fail)
  go_ret
  exact ⟨rfl, HB.out⟩
theorem lifted (os : Os) (started : os.Started) (H : Type) (enc : TypeId × Value → H) :
    ReturnsInHanded {} Tryz.checked os 6 .any (Rows.laesaLowSpec.pre6 enc Tryz.prog Tryz.f6 Rows.laesaLowRow.domain false) (Rows.laesaLowSpec.post enc Tryz.prog Tryz.f6 false true false false) := by
  refine lift (C := Tryz.checked) (by kernel_rfl) started (by kernel_rfl) Tryz.func6 rfl (by kernel_rfl) (by kernel_rfl) rfl Tryz.underlying4
    (fun ds hd => by match ds, hd with | [_, _], _ => exact ⟨rfl, rfl, rfl⟩)
    (ChangeSpec.witness6 (enc := enc) (C := Tryz.checked) false ⟨#[], #[.slice none 0 0, .slice none 0 0], []⟩ 8 (by kernel_rfl) (by kernel_rfl) (by kernel_rfl) (by kernel_rfl)) ?_
  intro W base args ds before hval0 hA0 hfz hsz0
  have hval : ∀ (j : Nat) t v, Tryz.f6.params[j]? = some t → args[j]? = some v → Value.okWide Tryz.prog W .any base t v := hval0
  have hA : DataW.TrodAll enc Tryz.prog W 0 (fun _ => true) true Tryz.f6.params.toList args.toList ds before := hA0
  have hsz : (DataW.weightsEach Tryz.prog Tryz.f6.params.toList ds).all (· ≤ reachBytes) = true := hsz0
  rw [Tryz.params6] at hA hval hsz
  obtain ⟨v0, vs0, d0, ds0, p0, q0, hargs, rfl, rfl, h0, r0⟩ := trodAll_cons hA
  obtain ⟨v1, vs1, d1, ds1, p1, q1, rfl, rfl, rfl, h1, r1⟩ := trodAll_cons r0
  obtain ⟨rfl, rfl, rfl⟩ := trodAll_nil r1
  obtain rfl : args = #[v0, v1] := by cases args; simp_all
  obtain ⟨A, c, l, rfl, hr, hm, hi⟩ := tab.open_i64s (hval 0 39 v0 rfl rfl) h0 hsz (j := 0) rfl rfl
  obtain ⟨A2, c2, most, rfl, hr2, hm2, hi2⟩ := tab.open_i64s (hval 1 39 v1 rfl rfl) h1 hsz (j := 1) rfl rfl
  exact walk A c l (by omega) A2 c2 most (by omega) W hr hr2

theorem proved : Rows.LaesaLowSaid :=
  OpenClaim.holds_of_wide 6 Tryz.f6 rfl rfl rfl rfl rfl rfl rfl ⟨rfl, rfl, rfl, rfl, rfl⟩ rfl rfl rfl rfl rfl (by kernel_rfl) Tryz.func6 (by kernel_rfl)
    (of_decide_eq_true (by kernel_rfl)) (by unfold Func.isWrapper; first | (rw [if_pos (by decide +kernel)]; kernel_rfl) | (rw [if_neg (by decide +kernel)]; exact ⟨rfl, rfl⟩))
    (fun os started H enc _ => lifted os started H enc)
#print axioms proved
end Go.Proofs.YtgbjpobgjmkjgaaGreat.laesaLow
