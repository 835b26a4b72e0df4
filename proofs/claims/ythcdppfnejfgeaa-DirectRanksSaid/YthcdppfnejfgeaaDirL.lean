/-
  What lives: two numbers are put in order.
-/
import Derived.Test.YthcdppfnejfgeaaDirP
namespace Go.Proofs.Ythcdppfnejfgeaa.direct
open Go.RowKit law bytes only flat
set_option linter.unusedVariables false
set_option maxRecDepth 100000 in
set_option maxHeartbeats 3200000 in
theorem lives_any (w : World) : Calls Try.prog 20 #[] w fun e w' => e = .returned (.bool true) ∧ Below w.heap.size w w' := by
  have HN := Lib.hid (new_dy w)
  go_enter Try.func20, Try.ntmps20
  go_wp2_with (fail)
  refine HN.out.mono ?_
  rintro e w1 ⟨db, T, rfl, hb1, h1⟩
  have s1 := hb1.size
  have HP1 := Lib.hid (put_any h1 9 1 (by simp) s1)
  go_wp2_with (fail)
  refine HP1.out.mono ?_
  rintro e w2 ⟨rfl, hl2⟩
  have hb2 := hb1.trans (hl2.below h1 s1)
  obtain ⟨T2, h2⟩ := hl2.dy
  have s2 := hb2.size
  have e2 : putF [] 9 1 = [(9, 1)] := rfl
  rw [e2] at h2
  have HP2 := Lib.hid (put_any h2 4 2 (by simp) s2)
  clear HP1 HN hb1 hl2 h1
  go_wp2_with (fail)
  refine HP2.out.mono ?_
  rintro e w3 ⟨rfl, hl3⟩
  have hb3 := hb2.trans (hl3.below h2 s2)
  obtain ⟨T3, h3⟩ := hl3.dy
  have s3 := hb3.size
  have e3 : putF [(9, 1)] 4 2 = [(4, 2), (9, 1)] := rfl
  rw [e3] at h3
  have hf := find_dy h3 4
  have e4 : fd [(4, 2), (9, 1)] 4 = some 2 := rfl
  rw [e4] at hf
  have HF := Lib.hid hf
  clear HP2 hb2 hl3 h2 hf e2 e3 e4
  go_wp2_with (fail)
  refine HF.out.mono ?_
  rintro e w4 ⟨rfl, hb4⟩
  have h4 := h3.below hb4 (Nat.le_refl _)
  have hb4' := hb3.trans (hb4.mono s3)
  have hr := rank_dy h4 5 (by simp)
  have e5 : rk [(4, 2), (9, 1)] 5 = 1 := rfl
  rw [e5] at hr
  have HR := Lib.hid hr
  have HL := Lib.hid (len_dy h4)
  have HB := Lib.hid hb4'
  clear HF hb4 hb4' hb3 h3 h4 hr e5
  go_wp2_with (first
    | (go_at_call 18; (with_reducible refine HR.out.mono ?_); rintro e w' ⟨rfl, rfl⟩)
    | (go_at_call 15; (with_reducible refine HL.out.mono ?_); rintro e w' ⟨rfl, rfl⟩))
  go_ret
  exact ⟨rfl, HB.out⟩
end Go.Proofs.Ythcdppfnejfgeaa.direct
