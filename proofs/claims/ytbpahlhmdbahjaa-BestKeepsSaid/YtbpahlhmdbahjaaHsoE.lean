/-
  The contract of partitionEqualCmpFunc.
-/
import Derived.Test.YtbpahlhmdbahjaaHsoS
namespace Go.Proofs.Ytbpahlhmdbahjaa.hso
open Go.RowKit law bytes only flat hit heapM best Go.Sort Go.Shelf
set_option linter.unusedVariables false

section
variable {p : Hit → Bool} {d : Array Hit} {i j : Nat}
theorem up_go (h : i ≤ j) (hp : p d[i]! = true) : scanUp p d j i = scanUp p d j (i + 1) := by rw [scanUp, if_pos (by simp [h, hp])]
theorem up_no (hp : p d[i]! = false) : scanUp p d j i = i := by rw [scanUp, if_neg (by simp [hp])]
theorem up_end (h : ¬ i ≤ j) : scanUp p d j i = i := by rw [scanUp, if_neg (by simp [h])]
theorem down_go (h0 : 0 < j) (h : i ≤ j) (hp : p d[j]! = true) : scanDown p d i j = scanDown p d i (j - 1) := by
  obtain ⟨m, rfl⟩ : ∃ m, j = m + 1 := ⟨j - 1, by omega⟩
  rw [scanDown, if_pos (by simp [h, hp])]; rfl
theorem down_no (hp : p d[j]! = false) : scanDown p d i j = j := by
  cases j with
  | zero => rfl
  | succ m => rw [scanDown, if_neg (by simp [hp])]
theorem down_end (h : ¬ i ≤ j) : scanDown p d i j = j := by
  cases j with
  | zero => rfl
  | succ m => rw [scanDown, if_neg (by simp [h])]
theorem apart {q : Hit → Bool} (hq : ∀ x, q x = !p x) {i2 j2 : Nat} (hi : 0 < i) (hij : i ≤ j + 1) (h1 : scanUp p d j i = i2) (h2 : scanDown q d i2 j = j2) (h3 : ¬ i2 > j2) : i2 < j2 := by
  have := round_facts p q hq d (i - 1) (j + 1) i j (by omega) hij (fun t _ _ => by omega) (fun t _ _ => by omega)
  rw [h1, h2] at this
  exact (this.2.2.2.2.2.2 h3).2.2
end
set_option maxRecDepth 100000 in
set_option maxHeartbeats 12800000 in
theorem parteq_any {hb K : Nat} {v : Value} {cf : Hit → Hit → Int} {base g c : Nat} {d : Array Hit} {w : World} (hc : Cm hb K v cf w) (hr : HRow w base g c d) (hne : hb ≠ g) (a b pivot : Nat) (hap : a ≤ pivot) (hpb : pivot < b) (hb2 : b ≤ d.size) (hsz : d.size < 2305843009213693952) :
    Calls Try.prog 49 #[.slice (some ⟨g, 0, none⟩) d.size c, .int .i64 a, .int .i64 b, .int .i64 pivot, FV hb] w fun e w' =>
      e = .returned (.int .i64 (partitionEqual (lf cf) d a b pivot).1) ∧ Only (· = g) w w' ∧ HRow w' base g c (partitionEqual (lf cf) d a b pivot).2 := by
  have HC := Lib.hid hc
  clear hc
  unfold FV
  have i0 : IntKind.i64.wrap ((a : Int) + 1) = ((a + 1 : Nat) : Int) := w64 (by omega) (by omega) (by omega)
  have i1 : IntKind.i64.wrap ((b : Int) - 1) = ((b - 1 : Nat) : Int) := w64 (by omega) (by omega) (by omega)
  have i2 : (a : Int) < (d.size : Int) := by omega
  have i3 : (pivot : Int) < (d.size : Int) := by omega
  obtain ⟨q0, q1, q2, q3, ⟨fz0, fz1, fz2, fz3⟩, ⟨u, uu, q4, q5, q6⟩, HR0, HO0⟩ := swap_step hr a pivot (by omega) (by omega) (Only.refl _ _) rfl rfl
  generalize d[a]! = x at q0 q1 q2 q3 q4 q5 q6 HR0 HO0
  generalize d[pivot]! = y at q0 q1 q2 q3 q4 q5 q6 HR0 HO0
  clear hr
  go_enter Try.func49, Try.ntmps49
  go_wp2_with (fail)
  go_region
  clear q0 q1 q2 q3 fz0 fz1 fz2 fz3 q4 q5 q6 i3
  go_wp2_with (fail)
  go_loopg [11, 12] (b - 1 + 1 - (a + 1)) (fun gk s11 s12 wr => ∃ (i j : Nat) (d' : Array Hit), gk = j + 1 - i ∧ s11 = .int .i64 i ∧ s12 = .int .i64 j ∧ a < i ∧ i ≤ j + 1 ∧ j < b ∧ d'.size = d.size ∧ partEqLoop (lf cf) a i j d' = partEqLoop (lf cf) a (a + 1) (b - 1) (swp d a pivot) ∧ HRow wr base g c d' ∧ Only (· = g) w wr)
  case atStart => exact ⟨a + 1, b - 1, swp d a pivot, rfl, rfl, rfl, by omega, by omega, by omega, by rw [size_swp], rfl, HR0.out, HO0.out⟩
  case round =>
    clear HR0 HO0
    obtain ⟨i, j, d', rfl, rfl, rfl, hai, hij, hjb, hds, heq, hr, ho⟩ := hrel
    obtain ⟨w0, hw0⟩ : ∃ w0, w0 = wr := ⟨_, rfl⟩
    subst hw0
    have HRu := Lib.hid hr
    have HOu := Lib.hid ho
    have HE := Lib.hid heq
    clear hr ho heq
    go_wp2_with (fail)
    go_loopg [11] (j + 1 - i) (fun gk s wr => ∃ iu : Nat, gk = j + 1 - iu ∧ s = .int .i64 iu ∧ i ≤ iu ∧ iu ≤ j + 1 ∧ scanUp (fun x => !lf cf d'[a]! x) d' j iu = scanUp (fun x => !lf cf d'[a]! x) d' j i ∧ HRow wr base g c d' ∧ Only (· = g) w wr)
    case atStart => exact ⟨i, rfl, rfl, Nat.le_refl _, hij, rfl, HRu.out, HOu.out⟩
    case round =>
      clear HRu HOu
      obtain ⟨iu, rfl, rfl, hiu1, hiu2, hsc, hr, ho⟩ := hrel
      have HSCu := Lib.hid hsc
      clear hsc
      by_cases hle : iu ≤ j
      · have k1 : (iu : Int) ≤ (j : Int) := by omega
        have k2 : (iu : Int) < (d.size : Int) := by omega
        have k3 : IntKind.i64.wrap ((iu : Int) + 1) = ((iu + 1 : Nat) : Int) := w64 (by omega) (by omega) (by omega)
        obtain ⟨x, y, r, hx, hy, hl, HS, HCC, q0, q1, q2, q3⟩ := cmp_step (HC.out.only ho hne) hr a iu (by omega) (by omega)
        have hl2 : lf cf d'[a]! d'[iu]! = decide (r < 0) := by rw [hx, hy]; exact hl
        have HL := Lib.hid hl2
        have HR := Lib.hid hr
        have HO := Lib.hid ho
        clear hl2 hx hy hl hr ho
        by_cases hrr : r < 0
        · have hdd : decide (r < 0) = true := decide_eq_true hrr
          have hst : scanUp (fun x => !lf cf d'[a]! x) d' j i = iu := by rw [← HSCu.out]; exact up_no (by have hl := HL.out; rw [hdd] at hl; simp only [hl]; rfl)
          have HST := Lib.hid hst
          clear hst HL hrr
          go_wp2_with (fail)
          go_region_held3 (fun W => W.cell? ⟨g, a * 2, none⟩ = some (.int .u64 x.1) ∧ W.cell? ⟨g, a * 2 + 1, none⟩ = some (.int .i64 x.2) ∧ W.cell? ⟨g, iu * 2, none⟩ = some (.int .u64 y.1) ∧ W.cell? ⟨g, iu * 2 + 1, none⟩ = some (.int .i64 y.2)) ((refine HS.out _ ?_; repeat' (first | (with_reducible exact Below.refl _ _) | (with_reducible assumption) | (with_reducible refine Below.drew ?_) | (with_reducible refine below_drewN' ?_ _))))
            (first
              | (go_at_call 36; (with_reducible refine (HCC.out _ (by repeat' (first | (with_reducible exact Below.refl _ _) | (with_reducible assumption) | (with_reducible refine Below.drew ?_) | (with_reducible refine below_drewN' ?_ _)))).mono ?_); rintro e w2 ⟨rfl, hb2⟩))
          have HRu := Lib.hid (HR.out.below hb2 (Nat.le_refl _))
          have HOu := Lib.hid (HO.out.on hb2)
          clear HR HO HS HCC q0 q1 q2 q3 hb2 hdd
          have HUu := HST
          clear HST k1 k2 k3
          go_wp2_with (fail)
          go_loopg [12] j (fun gk s wr => ∃ jv : Nat, jv = gk ∧ s = .int .i64 jv ∧ jv ≤ j ∧ iu ≤ jv + 1 ∧ scanDown (fun x => lf cf d'[a]! x) d' iu jv = scanDown (fun x => lf cf d'[a]! x) d' iu j ∧ HRow wr base g c d' ∧ Only (· = g) w wr)
          case atStart => exact ⟨j, rfl, rfl, Nat.le_refl _, by omega, rfl, HRu.out, HOu.out⟩
          case round =>
            clear HRu HOu
            obtain ⟨jv, rfl, rfl, hjv1, hjv2, hsc, hr, ho⟩ := hrel
            have HSCv := Lib.hid hsc
            clear hsc
            by_cases hle : iu ≤ jv
            · have k1 : (iu : Int) ≤ (jv : Int) := by omega
              have k2 : (jv : Int) < (d.size : Int) := by omega
              have k3 : IntKind.i64.wrap ((jv : Int) - 1) = ((jv - 1 : Nat) : Int) := w64 (by omega) (by omega) (by omega)
              obtain ⟨x, y, r, hx, hy, hl, HS, HCC, q0, q1, q2, q3⟩ := cmp_step (HC.out.only ho hne) hr a jv (by omega) (by omega)
              have hl2 : lf cf d'[a]! d'[jv]! = decide (r < 0) := by rw [hx, hy]; exact hl
              have HL := Lib.hid hl2
              have HR := Lib.hid hr
              have HO := Lib.hid ho
              have HXJ := Lib.hid hy
              have HXA := Lib.hid hx
              clear hl2 hx hy hl hr ho
              by_cases hrr : r < 0
              · have hdd : decide (r < 0) = true := decide_eq_true hrr
                have hst : scanDown (fun x => lf cf d'[a]! x) d' iu (jv - 1) = scanDown (fun x => lf cf d'[a]! x) d' iu j := by rw [← HSCv.out]; exact (down_go (by omega) hle (by have hl := HL.out; rw [hdd] at hl; simp only [hl])).symm
                have HST := Lib.hid hst
                clear hst HL hrr
                go_wp2_with (fail)
                go_region_held3 (fun W => W.cell? ⟨g, a * 2, none⟩ = some (.int .u64 x.1) ∧ W.cell? ⟨g, a * 2 + 1, none⟩ = some (.int .i64 x.2) ∧ W.cell? ⟨g, jv * 2, none⟩ = some (.int .u64 y.1) ∧ W.cell? ⟨g, jv * 2 + 1, none⟩ = some (.int .i64 y.2)) ((refine HS.out _ ?_; repeat' (first | (with_reducible exact Below.refl _ _) | (with_reducible assumption) | (with_reducible refine Below.drew ?_) | (with_reducible refine below_drewN' ?_ _))))
                  (first
                    | (go_at_call 36; (with_reducible refine (HCC.out _ (by repeat' (first | (with_reducible exact Below.refl _ _) | (with_reducible assumption) | (with_reducible refine Below.drew ?_) | (with_reducible refine below_drewN' ?_ _)))).mono ?_); rintro e w2 ⟨rfl, hb2⟩))
                have HRv := Lib.hid (HR.out.below hb2 (Nat.le_refl _))
                have HOv := Lib.hid (HO.out.on hb2)
                clear HR HO HS HCC q0 q1 q2 q3 hb2 hdd
                go_wp2_with (fail)
                go_roundg (jv - 1)
                case measure => omega
                case rel => exact ⟨jv - 1, rfl, rfl, by omega, by omega, HST.out, HRv.out, HOv.out⟩
              · have hdd : decide (r < 0) = false := decide_eq_false hrr
                have hst : scanDown (fun x => lf cf d'[a]! x) d' iu j = jv := by rw [← HSCv.out]; exact down_no (by have hl := HL.out; rw [hdd] at hl; simp only [hl])
                have HST := Lib.hid hst
                clear hst HL hrr
                go_wp2_with (fail)
                go_region_held3 (fun W => W.cell? ⟨g, a * 2, none⟩ = some (.int .u64 x.1) ∧ W.cell? ⟨g, a * 2 + 1, none⟩ = some (.int .i64 x.2) ∧ W.cell? ⟨g, jv * 2, none⟩ = some (.int .u64 y.1) ∧ W.cell? ⟨g, jv * 2 + 1, none⟩ = some (.int .i64 y.2)) ((refine HS.out _ ?_; repeat' (first | (with_reducible exact Below.refl _ _) | (with_reducible assumption) | (with_reducible refine Below.drew ?_) | (with_reducible refine below_drewN' ?_ _))))
                  (first
                    | (go_at_call 36; (with_reducible refine (HCC.out _ (by repeat' (first | (with_reducible exact Below.refl _ _) | (with_reducible assumption) | (with_reducible refine Below.drew ?_) | (with_reducible refine below_drewN' ?_ _)))).mono ?_); rintro e w2 ⟨rfl, hb2⟩))
                have HRv := Lib.hid (HR.out.below hb2 (Nat.le_refl _))
                have HOv := Lib.hid (HO.out.on hb2)
                clear HR HO HS HCC q0 q1 q2 q3 hb2 hdd
                have HDv := HST
                clear HST k1 k2 k3
                have hap := fun h => apart (p := (fun x => !lf cf d'[a]! x)) (q := (fun x => lf cf d'[a]! x)) (fun x => by simp) (by omega) hij HUu.out (by have := HDv.out; exact this) h
                have hst : (if iu > jv then (iu, d') else partEqLoop (lf cf) a (iu + 1) (jv - 1) (swp d' iu jv)) = partEqLoop (lf cf) a (a + 1) (b - 1) (swp d a pivot) := by
                  have h1 := partEqLoop_eq (lf cf) a i j d'
                  rw [HUu.out, HDv.out] at h1
                  exact h1.symm.trans HE.out
                have HST := Lib.hid hst
                have HAP := Lib.hid hap
                clear hst hap
                by_cases hgt : iu > jv
                · have k1 : (jv : Int) < (iu : Int) := by omega
                  have hst := HST.out
                  rw [if_pos hgt] at hst
                  have HST2 := Lib.hid hst
                  clear hst
                  go_wp2_with (fail)
                  go_ret
                  exact ⟨by unfold partitionEqual; rw [← HST2.out]; rfl, HOv.out, by unfold partitionEqual; rw [← HST2.out]; exact HRv.out⟩
                · have k1 : ¬ (jv : Int) < (iu : Int) := by omega
                  have hst := HST.out
                  rw [if_neg hgt] at hst
                  have HST2 := Lib.hid hst
                  have hlt := HAP.out hgt
                  clear hst
                  have k2 : (iu : Int) < (d.size : Int) := by omega
                  have k3 : (jv : Int) < (d.size : Int) := by omega
                  have k4 : IntKind.i64.wrap ((iu : Int) + 1) = ((iu + 1 : Nat) : Int) := w64 (by omega) (by omega) (by omega)
                  have k5 : IntKind.i64.wrap ((jv : Int) - 1) = ((jv - 1 : Nat) : Int) := w64 (by omega) (by omega) (by omega)
                  obtain ⟨q0, q1, q2, q3, ⟨fz0, fz1, fz2, fz3⟩, ⟨u, uu, q4, q5, q6⟩, HRS, HOS⟩ := swap_step HRv.out iu jv (by omega) (by omega) HOv.out rfl HXJ.out
                  generalize d'[iu]! = x' at q0 q1 q2 q3 q4 q5 q6 HRS HOS
                  go_wp2_with (fail)
                  go_region
                  go_wp2_with (fail)
                  go_roundg (jv - 1 + 1 - (iu + 1))
                  case measure => omega
                  case rel => exact ⟨iu + 1, jv - 1, swp d' iu jv, rfl, rfl, rfl, by omega, by omega, by omega, by rw [size_swp]; exact hds, HST2.out, HRS.out, HOS.out⟩
            · have k1 : ¬ (iu : Int) ≤ (jv : Int) := by omega
              have hst : scanDown (fun x => lf cf d'[a]! x) d' iu j = jv := by rw [← HSCv.out]; exact down_end hle
              have HDv := Lib.hid hst
              obtain ⟨z, hz⟩ : ∃ z, d'[jv]! = z := ⟨_, rfl⟩
              obtain ⟨z2, hz2⟩ : ∃ z2, d'[a]! = z2 := ⟨_, rfl⟩
              have HXJ := Lib.hid hz
              have HXA := Lib.hid hz2
              clear hz hz2
              have HRv : Hid (HRow wr.drew base g c d') := Lib.hid hr.drew_
              have HOv : Hid (Only (· = g) w wr.drew) := Lib.hid ho.drew
              clear hst hr ho
              go_wp2_with (fail)
              go_region
              clear k1
              have hap := fun h => apart (p := (fun x => !lf cf d'[a]! x)) (q := (fun x => lf cf d'[a]! x)) (fun x => by simp) (by omega) hij HUu.out (by have := HDv.out; exact this) h
              have hst : (if iu > jv then (iu, d') else partEqLoop (lf cf) a (iu + 1) (jv - 1) (swp d' iu jv)) = partEqLoop (lf cf) a (a + 1) (b - 1) (swp d a pivot) := by
                have h1 := partEqLoop_eq (lf cf) a i j d'
                rw [HUu.out, HDv.out] at h1
                exact h1.symm.trans HE.out
              have HST := Lib.hid hst
              have HAP := Lib.hid hap
              clear hst hap
              by_cases hgt : iu > jv
              · have k1 : (jv : Int) < (iu : Int) := by omega
                have hst := HST.out
                rw [if_pos hgt] at hst
                have HST2 := Lib.hid hst
                clear hst
                go_wp2_with (fail)
                go_ret
                exact ⟨by unfold partitionEqual; rw [← HST2.out]; rfl, HOv.out, by unfold partitionEqual; rw [← HST2.out]; exact HRv.out⟩
              · exact absurd hgt (by omega)
        · have hdd : decide (r < 0) = false := decide_eq_false hrr
          have hst : scanUp (fun x => !lf cf d'[a]! x) d' j (iu + 1) = scanUp (fun x => !lf cf d'[a]! x) d' j i := by rw [← HSCu.out]; exact (up_go hle (by have hl := HL.out; rw [hdd] at hl; simp only [hl]; rfl)).symm
          have HST := Lib.hid hst
          clear hst HL hrr
          go_wp2_with (fail)
          go_region_held3 (fun W => W.cell? ⟨g, a * 2, none⟩ = some (.int .u64 x.1) ∧ W.cell? ⟨g, a * 2 + 1, none⟩ = some (.int .i64 x.2) ∧ W.cell? ⟨g, iu * 2, none⟩ = some (.int .u64 y.1) ∧ W.cell? ⟨g, iu * 2 + 1, none⟩ = some (.int .i64 y.2)) ((refine HS.out _ ?_; repeat' (first | (with_reducible exact Below.refl _ _) | (with_reducible assumption) | (with_reducible refine Below.drew ?_) | (with_reducible refine below_drewN' ?_ _))))
            (first
              | (go_at_call 36; (with_reducible refine (HCC.out _ (by repeat' (first | (with_reducible exact Below.refl _ _) | (with_reducible assumption) | (with_reducible refine Below.drew ?_) | (with_reducible refine below_drewN' ?_ _)))).mono ?_); rintro e w2 ⟨rfl, hb2⟩))
          have HRu := Lib.hid (HR.out.below hb2 (Nat.le_refl _))
          have HOu := Lib.hid (HO.out.on hb2)
          clear HR HO HS HCC q0 q1 q2 q3 hb2 hdd
          go_wp2_with (fail)
          go_roundg (j + 1 - (iu + 1))
          case measure => omega
          case rel => exact ⟨iu + 1, rfl, rfl, by omega, by omega, HST.out, HRu.out, HOu.out⟩
      · have k1 : ¬ (iu : Int) ≤ (j : Int) := by omega
        have hst : scanUp (fun x => !lf cf d'[a]! x) d' j i = iu := by rw [← HSCu.out]; exact up_end hle
        have HUu := Lib.hid hst
        have HRu : Hid (HRow wr.drew base g c d') := Lib.hid hr.drew_
        have HOu : Hid (Only (· = g) w wr.drew) := Lib.hid ho.drew
        clear hst hr ho
        go_wp2_with (fail)
        go_region
        clear k1
        go_wp2_with (fail)
        go_loopg [12] j (fun gk s wr => ∃ jv : Nat, jv = gk ∧ s = .int .i64 jv ∧ jv ≤ j ∧ iu ≤ jv + 1 ∧ scanDown (fun x => lf cf d'[a]! x) d' iu jv = scanDown (fun x => lf cf d'[a]! x) d' iu j ∧ HRow wr base g c d' ∧ Only (· = g) w wr)
        case atStart => exact ⟨j, rfl, rfl, Nat.le_refl _, by omega, rfl, HRu.out, HOu.out⟩
        case round =>
          clear HRu HOu
          obtain ⟨jv, rfl, rfl, hjv1, hjv2, hsc, hr, ho⟩ := hrel
          have HSCv := Lib.hid hsc
          clear hsc
          by_cases hle : iu ≤ jv
          · exact absurd hle (by omega)
          · have k1 : ¬ (iu : Int) ≤ (jv : Int) := by omega
            have hst : scanDown (fun x => lf cf d'[a]! x) d' iu j = jv := by rw [← HSCv.out]; exact down_end hle
            have HDv := Lib.hid hst
            obtain ⟨z, hz⟩ : ∃ z, d'[jv]! = z := ⟨_, rfl⟩
            obtain ⟨z2, hz2⟩ : ∃ z2, d'[a]! = z2 := ⟨_, rfl⟩
            have HXJ := Lib.hid hz
            have HXA := Lib.hid hz2
            clear hz hz2
            have HRv : Hid (HRow wr.drew base g c d') := Lib.hid hr.drew_
            have HOv : Hid (Only (· = g) w wr.drew) := Lib.hid ho.drew
            clear hst hr ho
            go_wp2_with (fail)
            go_region
            clear k1
            have hap := fun h => apart (p := (fun x => !lf cf d'[a]! x)) (q := (fun x => lf cf d'[a]! x)) (fun x => by simp) (by omega) hij HUu.out (by have := HDv.out; exact this) h
            have hst : (if iu > jv then (iu, d') else partEqLoop (lf cf) a (iu + 1) (jv - 1) (swp d' iu jv)) = partEqLoop (lf cf) a (a + 1) (b - 1) (swp d a pivot) := by
              have h1 := partEqLoop_eq (lf cf) a i j d'
              rw [HUu.out, HDv.out] at h1
              exact h1.symm.trans HE.out
            have HST := Lib.hid hst
            have HAP := Lib.hid hap
            clear hst hap
            by_cases hgt : iu > jv
            · have k1 : (jv : Int) < (iu : Int) := by omega
              have hst := HST.out
              rw [if_pos hgt] at hst
              have HST2 := Lib.hid hst
              clear hst
              go_wp2_with (fail)
              go_ret
              exact ⟨by unfold partitionEqual; rw [← HST2.out]; rfl, HOv.out, by unfold partitionEqual; rw [← HST2.out]; exact HRv.out⟩
            · exact absurd hgt (by omega)
end Go.Proofs.Ytbpahlhmdbahjaa.hso
