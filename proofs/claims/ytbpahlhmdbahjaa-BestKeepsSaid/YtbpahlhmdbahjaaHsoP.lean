/-
  The contract of partitionCmpFunc.
-/
import Derived.Test.YtbpahlhmdbahjaaHsoE
namespace Go.Proofs.Ytbpahlhmdbahjaa.hso
open Go.RowKit law bytes only flat hit heapM best Go.Sort Go.Shelf
set_option linter.unusedVariables false

theorem _root_.Go.Proofs.Ytbpahlhmdbahjaa.only.Only.undrew {S : Nat → Prop} {a b : World} (h : Only S a b.drew) : Only S a b := ⟨h.os, h.tape, h.output, h.size, h.block⟩
set_option maxRecDepth 100000 in
set_option maxHeartbeats 12800000 in
theorem part_any {hb K : Nat} {v : Value} {cf : Hit → Hit → Int} {base g c : Nat} {d : Array Hit} {w : World} (hc : Cm hb K v cf w) (hr : HRow w base g c d) (hne : hb ≠ g) (a b pivot : Nat) (hap : a ≤ pivot) (hpb : pivot < b) (hb2 : b ≤ d.size) (hsz : d.size < 2305843009213693952) :
    Calls Try.prog 50 #[.slice (some ⟨g, 0, none⟩) d.size c, .int .i64 a, .int .i64 b, .int .i64 pivot, FV hb] w fun e w' =>
      (∃ ap : Bool, e = .returned (.tuple #[.int .i64 (partition (lf cf) d a b pivot).1, .bool ap])) ∧ Only (· = g) w w' ∧ HRow w' base g c (partition (lf cf) d a b pivot).2.2 := by
  have HC := Lib.hid hc
  clear hc
  unfold FV
  have i0 : IntKind.i64.wrap ((a : Int) + 1) = ((a + 1 : Nat) : Int) := w64 (by omega) (by omega) (by omega)
  have i1 : IntKind.i64.wrap ((b : Int) - 1) = ((b - 1 : Nat) : Int) := w64 (by omega) (by omega) (by omega)
  have i2 : (a : Int) < (d.size : Int) := by omega
  have i3 : (pivot : Int) < (d.size : Int) := by omega
  obtain ⟨q0, q1, q2, q3, ⟨fz0, fz1, fz2, fz3⟩, ⟨u, uu, q4, q5, q6⟩, HR0, HO0⟩ := swap_step hr a pivot (by omega) (by omega) (Only.refl _ _) rfl rfl
  generalize d[a]! = x at q0 q1 q2 q3 q4 q5 q6 HR0 HO0
  generalize d[pivot]! = y at q0 q1 q2 q3 q4 q5 q6 HR0 HO0
  clear hr
  go_enter Try.func50, Try.ntmps50
  go_wp2_with (fail)
  go_region
  clear q0 q1 q2 q3 fz0 fz1 fz2 fz3 q4 q5 q6 i3
  obtain ⟨W0, hW0⟩ : ∃ W0, W0 = ((((w.setCell ⟨g, a * 2, none⟩ (.int .u64 y.1)).setCell ⟨g, a * 2 + 1, none⟩ (.int .i64 y.2)).setCell ⟨g, pivot * 2, none⟩ (.int .u64 x.1)).setCell ⟨g, pivot * 2 + 1, none⟩ (.int .i64 x.2)).drew := ⟨_, rfl⟩
  rw [← hW0] at HR0 HO0 ⊢
  clear hW0
  obtain ⟨d1, hd1⟩ : ∃ d1, d1 = swp d a pivot := ⟨_, rfl⟩
  have hds1 : d1.size = d.size := by rw [hd1, size_swp]
  have HE : Hid (partLoop (lf cf) a (a + 1) (b - 1) d1 = partLoop (lf cf) a (a + 1) (b - 1) (swp d a pivot)) := Lib.hid (by rw [hd1])
  rw [← hd1] at HR0
  clear hd1
  have hij : a + 1 ≤ b - 1 + 1 := by omega
  have HRu := HR0
  have HOu := HO0
  clear HR0 HO0
  go_wp2_with (fail)
  go_loopg [12] ((b - 1) + 1 - (a + 1)) (fun gk s wr => ∃ iu : Nat, gk = (b - 1) + 1 - iu ∧ s = .int .i64 iu ∧ (a + 1) ≤ iu ∧ iu ≤ (b - 1) + 1 ∧ scanUp (fun x => lf cf x d1[a]!) d1 (b - 1) iu = scanUp (fun x => lf cf x d1[a]!) d1 (b - 1) (a + 1) ∧ HRow wr base g c d1 ∧ Only (· = g) w wr)
  case atStart => exact ⟨(a + 1), rfl, rfl, Nat.le_refl _, hij, rfl, HRu.out, HOu.out⟩
  case round =>
    clear HRu HOu
    obtain ⟨iu, rfl, rfl, hiu1, hiu2, hsc, hr, ho⟩ := hrel
    have HSCu := Lib.hid hsc
    clear hsc
    by_cases hle : iu ≤ (b - 1)
    · have k1 : (iu : Int) ≤ ((b - 1) : Int) := by omega
      have k2 : (iu : Int) < (d.size : Int) := by omega
      have k3 : IntKind.i64.wrap ((iu : Int) + 1) = ((iu + 1 : Nat) : Int) := w64 (by omega) (by omega) (by omega)
      obtain ⟨x, y, r, hx, hy, hl, HS, HCC, q0, q1, q2, q3⟩ := cmp_step (HC.out.only ho hne) hr iu a (by omega) (by omega)
      have hl2 : lf cf d1[iu]! d1[a]! = decide (r < 0) := by rw [hx, hy]; exact hl
      have HL := Lib.hid hl2
      have HR := Lib.hid hr
      have HO := Lib.hid ho
      clear hl2 hx hy hl hr ho
      by_cases hrr : r < 0
      · have hdd : decide (r < 0) = true := decide_eq_true hrr
        have hst : scanUp (fun x => lf cf x d1[a]!) d1 (b - 1) (iu + 1) = scanUp (fun x => lf cf x d1[a]!) d1 (b - 1) (a + 1) := by rw [← HSCu.out]; exact (up_go hle (by have hl := HL.out; rw [hdd] at hl; simp only [hl])).symm
        have HST := Lib.hid hst
        clear hst HL hrr
        go_wp2_with (fail)
        go_region_held3 (fun W => W.cell? ⟨g, iu * 2, none⟩ = some (.int .u64 x.1) ∧ W.cell? ⟨g, iu * 2 + 1, none⟩ = some (.int .i64 x.2) ∧ W.cell? ⟨g, a * 2, none⟩ = some (.int .u64 y.1) ∧ W.cell? ⟨g, a * 2 + 1, none⟩ = some (.int .i64 y.2)) ((refine HS.out _ ?_; repeat' (first | (with_reducible exact Below.refl _ _) | (with_reducible assumption) | (with_reducible refine Below.drew ?_) | (with_reducible refine below_drewN' ?_ _))))
          (first
            | (go_at_call 36; (with_reducible refine (HCC.out _ (by repeat' (first | (with_reducible exact Below.refl _ _) | (with_reducible assumption) | (with_reducible refine Below.drew ?_) | (with_reducible refine below_drewN' ?_ _)))).mono ?_); rintro e w2 ⟨rfl, hb2⟩))
        have HRu := Lib.hid (HR.out.below hb2 (Nat.le_refl _))
        have HOu := Lib.hid (HO.out.on hb2)
        clear HR HO HS HCC q0 q1 q2 q3 hb2 hdd
        go_wp2_with (fail)
        go_roundg ((b - 1) + 1 - (iu + 1))
        case measure => omega
        case rel => exact ⟨iu + 1, rfl, rfl, by omega, by omega, HST.out, HRu.out, HOu.out⟩
      · have hdd : decide (r < 0) = false := decide_eq_false hrr
        have hst : scanUp (fun x => lf cf x d1[a]!) d1 (b - 1) (a + 1) = iu := by rw [← HSCu.out]; exact up_no (by have hl := HL.out; rw [hdd] at hl; simp only [hl])
        have HST := Lib.hid hst
        clear hst HL hrr
        go_wp2_with (fail)
        go_region_held3 (fun W => W.cell? ⟨g, iu * 2, none⟩ = some (.int .u64 x.1) ∧ W.cell? ⟨g, iu * 2 + 1, none⟩ = some (.int .i64 x.2) ∧ W.cell? ⟨g, a * 2, none⟩ = some (.int .u64 y.1) ∧ W.cell? ⟨g, a * 2 + 1, none⟩ = some (.int .i64 y.2)) ((refine HS.out _ ?_; repeat' (first | (with_reducible exact Below.refl _ _) | (with_reducible assumption) | (with_reducible refine Below.drew ?_) | (with_reducible refine below_drewN' ?_ _))))
          (first
            | (go_at_call 36; (with_reducible refine (HCC.out _ (by repeat' (first | (with_reducible exact Below.refl _ _) | (with_reducible assumption) | (with_reducible refine Below.drew ?_) | (with_reducible refine below_drewN' ?_ _)))).mono ?_); rintro e w2 ⟨rfl, hb2⟩))
        have HRu := Lib.hid (HR.out.below hb2 (Nat.le_refl _))
        have HOu := Lib.hid (HO.out.on hb2)
        clear HR HO HS HCC q0 q1 q2 q3 hb2 hdd
        have HUu := HST
        clear HST k1 k2 k3
        go_wp2_with (fail)
        go_loopg [13] (b - 1) (fun gk s wr => ∃ jv : Nat, jv = gk ∧ s = .int .i64 jv ∧ jv ≤ (b - 1) ∧ iu ≤ jv + 1 ∧ scanDown (fun x => !lf cf x d1[a]!) d1 iu jv = scanDown (fun x => !lf cf x d1[a]!) d1 iu (b - 1) ∧ HRow wr base g c d1 ∧ Only (· = g) w wr)
        case atStart => exact ⟨(b - 1), rfl, rfl, Nat.le_refl _, by omega, rfl, HRu.out, HOu.out⟩
        case round =>
          clear HRu HOu
          obtain ⟨jv, rfl, rfl, hjv1, hjv2, hsc, hr, ho⟩ := hrel
          have HSCv := Lib.hid hsc
          clear hsc
          by_cases hle : iu ≤ jv
          · have k1 : (iu : Int) ≤ (jv : Int) := by omega
            have k2 : (jv : Int) < (d.size : Int) := by omega
            have k3 : IntKind.i64.wrap ((jv : Int) - 1) = ((jv - 1 : Nat) : Int) := w64 (by omega) (by omega) (by omega)
            obtain ⟨x, y, r, hx, hy, hl, HS, HCC, q0, q1, q2, q3⟩ := cmp_step (HC.out.only ho hne) hr jv a (by omega) (by omega)
            have hl2 : lf cf d1[jv]! d1[a]! = decide (r < 0) := by rw [hx, hy]; exact hl
            have HL := Lib.hid hl2
            have HR := Lib.hid hr
            have HO := Lib.hid ho
            have HXJ := Lib.hid hx
            have HXA := Lib.hid hy
            clear hl2 hx hy hl hr ho
            by_cases hrr : r < 0
            · have hdd : decide (r < 0) = true := decide_eq_true hrr
              have hst : scanDown (fun x => !lf cf x d1[a]!) d1 iu (b - 1) = jv := by rw [← HSCv.out]; exact down_no (by have hl := HL.out; rw [hdd] at hl; simp only [hl]; rfl)
              have HST := Lib.hid hst
              clear hst HL hrr
              go_wp2_with (fail)
              go_region_held3 (fun W => W.cell? ⟨g, jv * 2, none⟩ = some (.int .u64 x.1) ∧ W.cell? ⟨g, jv * 2 + 1, none⟩ = some (.int .i64 x.2) ∧ W.cell? ⟨g, a * 2, none⟩ = some (.int .u64 y.1) ∧ W.cell? ⟨g, a * 2 + 1, none⟩ = some (.int .i64 y.2)) ((refine HS.out _ ?_; repeat' (first | (with_reducible exact Below.refl _ _) | (with_reducible assumption) | (with_reducible refine Below.drew ?_) | (with_reducible refine below_drewN' ?_ _))))
                (first
                  | (go_at_call 36; (with_reducible refine (HCC.out _ (by repeat' (first | (with_reducible exact Below.refl _ _) | (with_reducible assumption) | (with_reducible refine Below.drew ?_) | (with_reducible refine below_drewN' ?_ _)))).mono ?_); rintro e w2 ⟨rfl, hb2⟩))
              have HRv := Lib.hid (HR.out.below hb2 (Nat.le_refl _))
              have HOv := Lib.hid (HO.out.on hb2)
              clear HR HO HS HCC q0 q1 q2 q3 hb2 hdd
              have HDv := HST
              clear HST k1 k2 k3
              have hap := fun h => apart (p := (fun x => lf cf x d1[a]!)) (q := (fun x => !lf cf x d1[a]!)) (fun x => rfl) (by omega) hij HUu.out (by have := HDv.out; exact this) h
              have hst : (if iu > jv then (jv, d1) else partLoop (lf cf) a (iu + 1) (jv - 1) (swp d1 iu jv)) = partLoop (lf cf) a (a + 1) (b - 1) (swp d a pivot) := by
                have h1 := partLoop_eq (lf cf) a (a + 1) (b - 1) d1
                rw [HUu.out, HDv.out] at h1
                exact h1.symm.trans HE.out
              have HST := Lib.hid hst
              have HAP := Lib.hid hap
              clear hst hap
              by_cases hgt : iu > jv
              · exact absurd hgt (by omega)
              · have k1 : ¬ (jv : Int) < (iu : Int) := by omega
                have hst := HST.out
                rw [if_neg hgt] at hst
                have HST2 := Lib.hid hst
                have hlt := HAP.out hgt
                clear hst
                have k2 : (iu : Int) < (d.size : Int) := by omega
                have k3 : (jv : Int) < (d.size : Int) := by omega
                have k4 : IntKind.i64.wrap ((iu : Int) + 1) = ((iu + 1 : Nat) : Int) := w64 (by omega) (by omega) (by omega)
                have k5 : IntKind.i64.wrap ((jv : Int) - 1) = ((jv - 1 : Nat) : Int) := w64 (by omega) (by omega) (by omega)
                obtain ⟨q0, q1, q2, q3, ⟨fz0, fz1, fz2, fz3⟩, ⟨u, uu, q4, q5, q6⟩, HRS, HOS⟩ := swap_step HRv.out iu jv (by omega) (by omega) HOv.out rfl HXJ.out
                generalize d1[iu]! = x' at q0 q1 q2 q3 q4 q5 q6 HRS HOS
                go_wp2_with (fail)
                go_region
                go_wp2_with (fail)
                have hsz1 : (swp d1 iu jv).size = d.size := by rw [size_swp]; exact hds1
                go_loopg [12, 13] (jv - 1 + 1 - (iu + 1)) (fun gk s12 s13 wr => ∃ (i j : Nat) (d' : Array Hit), gk = j + 1 - i ∧ s12 = .int .i64 i ∧ s13 = .int .i64 j ∧ a < i ∧ i ≤ j + 1 ∧ j < b ∧ d'.size = d.size ∧ partLoop (lf cf) a i j d' = partLoop (lf cf) a (a + 1) (b - 1) (swp d a pivot) ∧ HRow wr base g c d' ∧ Only (· = g) w wr)
                case atStart => exact ⟨iu + 1, jv - 1, swp d1 iu jv, rfl, rfl, rfl, by omega, by omega, by omega, hsz1, HST2.out, HRS.out, HOS.out⟩
                case round =>
                  clear HRS HOS HST2 HST HAP q0 q1 q2 q3 fz0 fz1 fz2 fz3 q4 q5 q6 k1 k2 k3 k4 k5 HXJ HXA HE hij
                  clear HUu HDv HRv HOv HSCv HSCu
                  obtain ⟨i, j, d', rfl, rfl, rfl, hai, hij, hjb, hds, heq, hr, ho⟩ := hrel
                  obtain ⟨w0, hw0⟩ : ∃ w0, w0 = wr := ⟨_, rfl⟩
                  subst hw0
                  have HRm := Lib.hid hr
                  have HOm := Lib.hid ho
                  have HE := Lib.hid heq
                  clear hr ho heq
                  go_wp2_with (fail)
                  go_loopg [12] (j + 1 - i) (fun gk s wr => ∃ im : Nat, gk = j + 1 - im ∧ s = .int .i64 im ∧ i ≤ im ∧ im ≤ j + 1 ∧ scanUp (fun x => lf cf x d'[a]!) d' j im = scanUp (fun x => lf cf x d'[a]!) d' j i ∧ HRow wr base g c d' ∧ Only (· = g) w wr)
                  case atStart => exact ⟨i, rfl, rfl, Nat.le_refl _, hij, rfl, HRm.out, HOm.out⟩
                  case round =>
                    clear HRm HOm
                    obtain ⟨im, rfl, rfl, him1, him2, hsc, hr, ho⟩ := hrel
                    have HSCm := Lib.hid hsc
                    clear hsc
                    by_cases hle : im ≤ j
                    · have k1 : (im : Int) ≤ (j : Int) := by omega
                      have k2 : (im : Int) < (d.size : Int) := by omega
                      have k3 : IntKind.i64.wrap ((im : Int) + 1) = ((im + 1 : Nat) : Int) := w64 (by omega) (by omega) (by omega)
                      obtain ⟨x, y, r, hx, hy, hl, HS, HCC, q0, q1, q2, q3⟩ := cmp_step (HC.out.only ho hne) hr im a (by omega) (by omega)
                      have hl2 : lf cf d'[im]! d'[a]! = decide (r < 0) := by rw [hx, hy]; exact hl
                      have HL := Lib.hid hl2
                      have HR := Lib.hid hr
                      have HO := Lib.hid ho
                      clear hl2 hx hy hl hr ho
                      by_cases hrr : r < 0
                      · have hdd : decide (r < 0) = true := decide_eq_true hrr
                        have hst : scanUp (fun x => lf cf x d'[a]!) d' j (im + 1) = scanUp (fun x => lf cf x d'[a]!) d' j i := by rw [← HSCm.out]; exact (up_go hle (by have hl := HL.out; rw [hdd] at hl; simp only [hl])).symm
                        have HST := Lib.hid hst
                        clear hst HL hrr
                        go_wp2_with (fail)
                        go_region_held3 (fun W => W.cell? ⟨g, im * 2, none⟩ = some (.int .u64 x.1) ∧ W.cell? ⟨g, im * 2 + 1, none⟩ = some (.int .i64 x.2) ∧ W.cell? ⟨g, a * 2, none⟩ = some (.int .u64 y.1) ∧ W.cell? ⟨g, a * 2 + 1, none⟩ = some (.int .i64 y.2)) ((refine HS.out _ ?_; repeat' (first | (with_reducible exact Below.refl _ _) | (with_reducible assumption) | (with_reducible refine Below.drew ?_) | (with_reducible refine below_drewN' ?_ _))))
                          (first
                            | (go_at_call 36; (with_reducible refine (HCC.out _ (by repeat' (first | (with_reducible exact Below.refl _ _) | (with_reducible assumption) | (with_reducible refine Below.drew ?_) | (with_reducible refine below_drewN' ?_ _)))).mono ?_); rintro e w2 ⟨rfl, hb2⟩))
                        have HRm := Lib.hid (HR.out.below hb2 (Nat.le_refl _))
                        have HOm := Lib.hid (HO.out.on hb2)
                        clear HR HO HS HCC q0 q1 q2 q3 hb2 hdd
                        go_wp2_with (fail)
                        go_roundg (j + 1 - (im + 1))
                        case measure => omega
                        case rel => exact ⟨im + 1, rfl, rfl, by omega, by omega, HST.out, HRm.out, HOm.out⟩
                      · have hdd : decide (r < 0) = false := decide_eq_false hrr
                        have hst : scanUp (fun x => lf cf x d'[a]!) d' j i = im := by rw [← HSCm.out]; exact up_no (by have hl := HL.out; rw [hdd] at hl; simp only [hl])
                        have HST := Lib.hid hst
                        clear hst HL hrr
                        go_wp2_with (fail)
                        go_region_held3 (fun W => W.cell? ⟨g, im * 2, none⟩ = some (.int .u64 x.1) ∧ W.cell? ⟨g, im * 2 + 1, none⟩ = some (.int .i64 x.2) ∧ W.cell? ⟨g, a * 2, none⟩ = some (.int .u64 y.1) ∧ W.cell? ⟨g, a * 2 + 1, none⟩ = some (.int .i64 y.2)) ((refine HS.out _ ?_; repeat' (first | (with_reducible exact Below.refl _ _) | (with_reducible assumption) | (with_reducible refine Below.drew ?_) | (with_reducible refine below_drewN' ?_ _))))
                          (first
                            | (go_at_call 36; (with_reducible refine (HCC.out _ (by repeat' (first | (with_reducible exact Below.refl _ _) | (with_reducible assumption) | (with_reducible refine Below.drew ?_) | (with_reducible refine below_drewN' ?_ _)))).mono ?_); rintro e w2 ⟨rfl, hb2⟩))
                        have HRm := Lib.hid (HR.out.below hb2 (Nat.le_refl _))
                        have HOm := Lib.hid (HO.out.on hb2)
                        clear HR HO HS HCC q0 q1 q2 q3 hb2 hdd
                        have HUm := HST
                        clear HST k1 k2 k3
                        go_wp2_with (fail)
                        go_loopg [13] j (fun gk s wr => ∃ jn : Nat, jn = gk ∧ s = .int .i64 jn ∧ jn ≤ j ∧ im ≤ jn + 1 ∧ scanDown (fun x => !lf cf x d'[a]!) d' im jn = scanDown (fun x => !lf cf x d'[a]!) d' im j ∧ HRow wr base g c d' ∧ Only (· = g) w wr)
                        case atStart => exact ⟨j, rfl, rfl, Nat.le_refl _, by omega, rfl, HRm.out, HOm.out⟩
                        case round =>
                          clear HRm HOm
                          obtain ⟨jn, rfl, rfl, hjn1, hjn2, hsc, hr, ho⟩ := hrel
                          have HSCn := Lib.hid hsc
                          clear hsc
                          by_cases hle : im ≤ jn
                          · have k1 : (im : Int) ≤ (jn : Int) := by omega
                            have k2 : (jn : Int) < (d.size : Int) := by omega
                            have k3 : IntKind.i64.wrap ((jn : Int) - 1) = ((jn - 1 : Nat) : Int) := w64 (by omega) (by omega) (by omega)
                            obtain ⟨x, y, r, hx, hy, hl, HS, HCC, q0, q1, q2, q3⟩ := cmp_step (HC.out.only ho hne) hr jn a (by omega) (by omega)
                            have hl2 : lf cf d'[jn]! d'[a]! = decide (r < 0) := by rw [hx, hy]; exact hl
                            have HL := Lib.hid hl2
                            have HR := Lib.hid hr
                            have HO := Lib.hid ho
                            have HXJ := Lib.hid hx
                            have HXA := Lib.hid hy
                            clear hl2 hx hy hl hr ho
                            by_cases hrr : r < 0
                            · have hdd : decide (r < 0) = true := decide_eq_true hrr
                              have hst : scanDown (fun x => !lf cf x d'[a]!) d' im j = jn := by rw [← HSCn.out]; exact down_no (by have hl := HL.out; rw [hdd] at hl; simp only [hl]; rfl)
                              have HST := Lib.hid hst
                              clear hst HL hrr
                              go_wp2_with (fail)
                              go_region_held3 (fun W => W.cell? ⟨g, jn * 2, none⟩ = some (.int .u64 x.1) ∧ W.cell? ⟨g, jn * 2 + 1, none⟩ = some (.int .i64 x.2) ∧ W.cell? ⟨g, a * 2, none⟩ = some (.int .u64 y.1) ∧ W.cell? ⟨g, a * 2 + 1, none⟩ = some (.int .i64 y.2)) ((refine HS.out _ ?_; repeat' (first | (with_reducible exact Below.refl _ _) | (with_reducible assumption) | (with_reducible refine Below.drew ?_) | (with_reducible refine below_drewN' ?_ _))))
                                (first
                                  | (go_at_call 36; (with_reducible refine (HCC.out _ (by repeat' (first | (with_reducible exact Below.refl _ _) | (with_reducible assumption) | (with_reducible refine Below.drew ?_) | (with_reducible refine below_drewN' ?_ _)))).mono ?_); rintro e w2 ⟨rfl, hb2⟩))
                              have HRn := Lib.hid (HR.out.below hb2 (Nat.le_refl _))
                              have HOn := Lib.hid (HO.out.on hb2)
                              clear HR HO HS HCC q0 q1 q2 q3 hb2 hdd
                              have HDn := HST
                              clear HST k1 k2 k3
                              have hap := fun h => apart (p := (fun x => lf cf x d'[a]!)) (q := (fun x => !lf cf x d'[a]!)) (fun x => rfl) (by omega) hij HUm.out (by have := HDn.out; exact this) h
                              have hst : (if im > jn then (jn, d') else partLoop (lf cf) a (im + 1) (jn - 1) (swp d' im jn)) = partLoop (lf cf) a (a + 1) (b - 1) (swp d a pivot) := by
                                have h1 := partLoop_eq (lf cf) a i j d'
                                rw [HUm.out, HDn.out] at h1
                                exact h1.symm.trans HE.out
                              have HST := Lib.hid hst
                              have HAP := Lib.hid hap
                              clear hst hap
                              by_cases hgt : im > jn
                              · exact absurd hgt (by omega)
                              · have k1 : ¬ (jn : Int) < (im : Int) := by omega
                                have hst := HST.out
                                rw [if_neg hgt] at hst
                                have HST2 := Lib.hid hst
                                have hlt := HAP.out hgt
                                clear hst
                                have k2 : (im : Int) < (d.size : Int) := by omega
                                have k3 : (jn : Int) < (d.size : Int) := by omega
                                have k4 : IntKind.i64.wrap ((im : Int) + 1) = ((im + 1 : Nat) : Int) := w64 (by omega) (by omega) (by omega)
                                have k5 : IntKind.i64.wrap ((jn : Int) - 1) = ((jn - 1 : Nat) : Int) := w64 (by omega) (by omega) (by omega)
                                obtain ⟨q0, q1, q2, q3, ⟨fz0, fz1, fz2, fz3⟩, ⟨u, uu, q4, q5, q6⟩, HRS, HOS⟩ := swap_step HRn.out im jn (by omega) (by omega) HOn.out rfl HXJ.out
                                generalize d'[im]! = x' at q0 q1 q2 q3 q4 q5 q6 HRS HOS
                                go_wp2_with (fail)
                                go_region
                                go_wp2_with (fail)
                                go_roundg (jn - 1 + 1 - (im + 1))
                                case measure => omega
                                case rel => exact ⟨im + 1, jn - 1, swp d' im jn, rfl, rfl, rfl, by omega, by omega, by omega, by rw [size_swp]; exact hds, HST2.out, HRS.out, HOS.out⟩
                            · have hdd : decide (r < 0) = false := decide_eq_false hrr
                              have hst : scanDown (fun x => !lf cf x d'[a]!) d' im (jn - 1) = scanDown (fun x => !lf cf x d'[a]!) d' im j := by rw [← HSCn.out]; exact (down_go (by omega) hle (by have hl := HL.out; rw [hdd] at hl; simp only [hl]; rfl)).symm
                              have HST := Lib.hid hst
                              clear hst HL hrr
                              go_wp2_with (fail)
                              go_region_held3 (fun W => W.cell? ⟨g, jn * 2, none⟩ = some (.int .u64 x.1) ∧ W.cell? ⟨g, jn * 2 + 1, none⟩ = some (.int .i64 x.2) ∧ W.cell? ⟨g, a * 2, none⟩ = some (.int .u64 y.1) ∧ W.cell? ⟨g, a * 2 + 1, none⟩ = some (.int .i64 y.2)) ((refine HS.out _ ?_; repeat' (first | (with_reducible exact Below.refl _ _) | (with_reducible assumption) | (with_reducible refine Below.drew ?_) | (with_reducible refine below_drewN' ?_ _))))
                                (first
                                  | (go_at_call 36; (with_reducible refine (HCC.out _ (by repeat' (first | (with_reducible exact Below.refl _ _) | (with_reducible assumption) | (with_reducible refine Below.drew ?_) | (with_reducible refine below_drewN' ?_ _)))).mono ?_); rintro e w2 ⟨rfl, hb2⟩))
                              have HRn := Lib.hid (HR.out.below hb2 (Nat.le_refl _))
                              have HOn := Lib.hid (HO.out.on hb2)
                              clear HR HO HS HCC q0 q1 q2 q3 hb2 hdd
                              go_wp2_with (fail)
                              go_roundg (jn - 1)
                              case measure => omega
                              case rel => exact ⟨jn - 1, rfl, rfl, by omega, by omega, HST.out, HRn.out, HOn.out⟩
                          · have k1 : ¬ (im : Int) ≤ (jn : Int) := by omega
                            have hst : scanDown (fun x => !lf cf x d'[a]!) d' im j = jn := by rw [← HSCn.out]; exact down_end hle
                            have HDn := Lib.hid hst
                            obtain ⟨z, hz⟩ : ∃ z, d'[jn]! = z := ⟨_, rfl⟩
                            obtain ⟨z2, hz2⟩ : ∃ z2, d'[a]! = z2 := ⟨_, rfl⟩
                            have HXJ := Lib.hid hz
                            have HXA := Lib.hid hz2
                            clear hz hz2
                            have HRn : Hid (HRow wr.drew base g c d') := Lib.hid hr.drew_
                            have HOn : Hid (Only (· = g) w wr.drew) := Lib.hid ho.drew
                            clear hst hr ho
                            go_wp2_with (fail)
                            go_region
                            clear k1
                            have hap := fun h => apart (p := (fun x => lf cf x d'[a]!)) (q := (fun x => !lf cf x d'[a]!)) (fun x => rfl) (by omega) hij HUm.out (by have := HDn.out; exact this) h
                            have hst : (if im > jn then (jn, d') else partLoop (lf cf) a (im + 1) (jn - 1) (swp d' im jn)) = partLoop (lf cf) a (a + 1) (b - 1) (swp d a pivot) := by
                              have h1 := partLoop_eq (lf cf) a i j d'
                              rw [HUm.out, HDn.out] at h1
                              exact h1.symm.trans HE.out
                            have HST := Lib.hid hst
                            have HAP := Lib.hid hap
                            clear hst hap
                            by_cases hgt : im > jn
                            · have k1 : (jn : Int) < (im : Int) := by omega
                              have hst := HST.out
                              rw [if_pos hgt] at hst
                              have HST2 := Lib.hid hst
                              clear hst
                              have k2 : (a : Int) < (d.size : Int) := by omega
                              have k3 : (jn : Int) < (d.size : Int) := by omega
                              obtain ⟨q0, q1, q2, q3, ⟨fz0, fz1, fz2, fz3⟩, ⟨u, uu, q4, q5, q6⟩, HRS, HOS⟩ := swap_step (W := wr) HRn.out jn a (by omega) (by omega) HOn.out.undrew HXJ.out HXA.out
                              go_wp2_with (fail)
                              go_region
                              go_wp2_with (fail)
                              refine bodyPost_ret (v := .tuple #[.int .i64 jn, .bool false]) (by simp [results, Try.results50, go_sem]) rfl ?_
                              exact ⟨⟨false, by rw [partition_fst, ← HST2.out]⟩, HOS.out.drew, by rw [partition_arr, ← HST2.out]; exact HRS.out.drew_⟩
                            · exact absurd hgt (by omega)
                    · have k1 : ¬ (im : Int) ≤ (j : Int) := by omega
                      have hst : scanUp (fun x => lf cf x d'[a]!) d' j i = im := by rw [← HSCm.out]; exact up_end hle
                      have HUm := Lib.hid hst
                      have HRm : Hid (HRow wr.drew base g c d') := Lib.hid hr.drew_
                      have HOm : Hid (Only (· = g) w wr.drew) := Lib.hid ho.drew
                      clear hst hr ho
                      go_wp2_with (fail)
                      go_region
                      clear k1
                      go_wp2_with (fail)
                      go_loopg [13] j (fun gk s wr => ∃ jn : Nat, jn = gk ∧ s = .int .i64 jn ∧ jn ≤ j ∧ im ≤ jn + 1 ∧ scanDown (fun x => !lf cf x d'[a]!) d' im jn = scanDown (fun x => !lf cf x d'[a]!) d' im j ∧ HRow wr base g c d' ∧ Only (· = g) w wr)
                      case atStart => exact ⟨j, rfl, rfl, Nat.le_refl _, by omega, rfl, HRm.out, HOm.out⟩
                      case round =>
                        clear HRm HOm
                        obtain ⟨jn, rfl, rfl, hjn1, hjn2, hsc, hr, ho⟩ := hrel
                        have HSCn := Lib.hid hsc
                        clear hsc
                        by_cases hle : im ≤ jn
                        · exact absurd hle (by omega)
                        · have k1 : ¬ (im : Int) ≤ (jn : Int) := by omega
                          have hst : scanDown (fun x => !lf cf x d'[a]!) d' im j = jn := by rw [← HSCn.out]; exact down_end hle
                          have HDn := Lib.hid hst
                          obtain ⟨z, hz⟩ : ∃ z, d'[jn]! = z := ⟨_, rfl⟩
                          obtain ⟨z2, hz2⟩ : ∃ z2, d'[a]! = z2 := ⟨_, rfl⟩
                          have HXJ := Lib.hid hz
                          have HXA := Lib.hid hz2
                          clear hz hz2
                          have HRn : Hid (HRow wr.drew base g c d') := Lib.hid hr.drew_
                          have HOn : Hid (Only (· = g) w wr.drew) := Lib.hid ho.drew
                          clear hst hr ho
                          go_wp2_with (fail)
                          go_region
                          clear k1
                          have hap := fun h => apart (p := (fun x => lf cf x d'[a]!)) (q := (fun x => !lf cf x d'[a]!)) (fun x => rfl) (by omega) hij HUm.out (by have := HDn.out; exact this) h
                          have hst : (if im > jn then (jn, d') else partLoop (lf cf) a (im + 1) (jn - 1) (swp d' im jn)) = partLoop (lf cf) a (a + 1) (b - 1) (swp d a pivot) := by
                            have h1 := partLoop_eq (lf cf) a i j d'
                            rw [HUm.out, HDn.out] at h1
                            exact h1.symm.trans HE.out
                          have HST := Lib.hid hst
                          have HAP := Lib.hid hap
                          clear hst hap
                          by_cases hgt : im > jn
                          · have k1 : (jn : Int) < (im : Int) := by omega
                            have hst := HST.out
                            rw [if_pos hgt] at hst
                            have HST2 := Lib.hid hst
                            clear hst
                            have k2 : (a : Int) < (d.size : Int) := by omega
                            have k3 : (jn : Int) < (d.size : Int) := by omega
                            obtain ⟨q0, q1, q2, q3, ⟨fz0, fz1, fz2, fz3⟩, ⟨u, uu, q4, q5, q6⟩, HRS, HOS⟩ := swap_step (W := wr) HRn.out jn a (by omega) (by omega) HOn.out.undrew HXJ.out HXA.out
                            go_wp2_with (fail)
                            go_region
                            go_wp2_with (fail)
                            refine bodyPost_ret (v := .tuple #[.int .i64 jn, .bool false]) (by simp [results, Try.results50, go_sem]) rfl ?_
                            exact ⟨⟨false, by rw [partition_fst, ← HST2.out]⟩, HOS.out.drew, by rw [partition_arr, ← HST2.out]; exact HRS.out.drew_⟩
                          · exact absurd hgt (by omega)
            · have hdd : decide (r < 0) = false := decide_eq_false hrr
              have hst : scanDown (fun x => !lf cf x d1[a]!) d1 iu (jv - 1) = scanDown (fun x => !lf cf x d1[a]!) d1 iu (b - 1) := by rw [← HSCv.out]; exact (down_go (by omega) hle (by have hl := HL.out; rw [hdd] at hl; simp only [hl]; rfl)).symm
              have HST := Lib.hid hst
              clear hst HL hrr
              go_wp2_with (fail)
              go_region_held3 (fun W => W.cell? ⟨g, jv * 2, none⟩ = some (.int .u64 x.1) ∧ W.cell? ⟨g, jv * 2 + 1, none⟩ = some (.int .i64 x.2) ∧ W.cell? ⟨g, a * 2, none⟩ = some (.int .u64 y.1) ∧ W.cell? ⟨g, a * 2 + 1, none⟩ = some (.int .i64 y.2)) ((refine HS.out _ ?_; repeat' (first | (with_reducible exact Below.refl _ _) | (with_reducible assumption) | (with_reducible refine Below.drew ?_) | (with_reducible refine below_drewN' ?_ _))))
                (first
                  | (go_at_call 36; (with_reducible refine (HCC.out _ (by repeat' (first | (with_reducible exact Below.refl _ _) | (with_reducible assumption) | (with_reducible refine Below.drew ?_) | (with_reducible refine below_drewN' ?_ _)))).mono ?_); rintro e w2 ⟨rfl, hb2⟩))
              have HRv := Lib.hid (HR.out.below hb2 (Nat.le_refl _))
              have HOv := Lib.hid (HO.out.on hb2)
              clear HR HO HS HCC q0 q1 q2 q3 hb2 hdd
              go_wp2_with (fail)
              go_roundg (jv - 1)
              case measure => omega
              case rel => exact ⟨jv - 1, rfl, rfl, by omega, by omega, HST.out, HRv.out, HOv.out⟩
          · have k1 : ¬ (iu : Int) ≤ (jv : Int) := by omega
            have hst : scanDown (fun x => !lf cf x d1[a]!) d1 iu (b - 1) = jv := by rw [← HSCv.out]; exact down_end hle
            have HDv := Lib.hid hst
            obtain ⟨z, hz⟩ : ∃ z, d1[jv]! = z := ⟨_, rfl⟩
            obtain ⟨z2, hz2⟩ : ∃ z2, d1[a]! = z2 := ⟨_, rfl⟩
            have HXJ := Lib.hid hz
            have HXA := Lib.hid hz2
            clear hz hz2
            have HRv : Hid (HRow wr.drew base g c d1) := Lib.hid hr.drew_
            have HOv : Hid (Only (· = g) w wr.drew) := Lib.hid ho.drew
            clear hst hr ho
            go_wp2_with (fail)
            go_region
            clear k1
            have hap := fun h => apart (p := (fun x => lf cf x d1[a]!)) (q := (fun x => !lf cf x d1[a]!)) (fun x => rfl) (by omega) hij HUu.out (by have := HDv.out; exact this) h
            have hst : (if iu > jv then (jv, d1) else partLoop (lf cf) a (iu + 1) (jv - 1) (swp d1 iu jv)) = partLoop (lf cf) a (a + 1) (b - 1) (swp d a pivot) := by
              have h1 := partLoop_eq (lf cf) a (a + 1) (b - 1) d1
              rw [HUu.out, HDv.out] at h1
              exact h1.symm.trans HE.out
            have HST := Lib.hid hst
            have HAP := Lib.hid hap
            clear hst hap
            by_cases hgt : iu > jv
            · have k1 : (jv : Int) < (iu : Int) := by omega
              have hst := HST.out
              rw [if_pos hgt] at hst
              have HST2 := Lib.hid hst
              clear hst
              have k2 : (a : Int) < (d.size : Int) := by omega
              have k3 : (jv : Int) < (d.size : Int) := by omega
              obtain ⟨q0, q1, q2, q3, ⟨fz0, fz1, fz2, fz3⟩, ⟨u, uu, q4, q5, q6⟩, HRS, HOS⟩ := swap_step (W := wr) HRv.out jv a (by omega) (by omega) HOv.out.undrew HXJ.out HXA.out
              go_wp2_with (fail)
              go_region
              go_wp2_with (fail)
              refine bodyPost_ret (v := .tuple #[.int .i64 jv, .bool true]) (by simp [results, Try.results50, go_sem]) rfl ?_
              exact ⟨⟨true, by rw [partition_fst, ← HST2.out]⟩, HOS.out.drew, by rw [partition_arr, ← HST2.out]; exact HRS.out.drew_⟩
            · exact absurd hgt (by omega)
    · have k1 : ¬ (iu : Int) ≤ ((b - 1) : Int) := by omega
      have hst : scanUp (fun x => lf cf x d1[a]!) d1 (b - 1) (a + 1) = iu := by rw [← HSCu.out]; exact up_end hle
      have HUu := Lib.hid hst
      have HRu : Hid (HRow wr.drew base g c d1) := Lib.hid hr.drew_
      have HOu : Hid (Only (· = g) w wr.drew) := Lib.hid ho.drew
      clear hst hr ho
      go_wp2_with (fail)
      go_region
      clear k1
      go_wp2_with (fail)
      go_loopg [13] (b - 1) (fun gk s wr => ∃ jv : Nat, jv = gk ∧ s = .int .i64 jv ∧ jv ≤ (b - 1) ∧ iu ≤ jv + 1 ∧ scanDown (fun x => !lf cf x d1[a]!) d1 iu jv = scanDown (fun x => !lf cf x d1[a]!) d1 iu (b - 1) ∧ HRow wr base g c d1 ∧ Only (· = g) w wr)
      case atStart => exact ⟨(b - 1), rfl, rfl, Nat.le_refl _, by omega, rfl, HRu.out, HOu.out⟩
      case round =>
        clear HRu HOu
        obtain ⟨jv, rfl, rfl, hjv1, hjv2, hsc, hr, ho⟩ := hrel
        have HSCv := Lib.hid hsc
        clear hsc
        by_cases hle : iu ≤ jv
        · exact absurd hle (by omega)
        · have k1 : ¬ (iu : Int) ≤ (jv : Int) := by omega
          have hst : scanDown (fun x => !lf cf x d1[a]!) d1 iu (b - 1) = jv := by rw [← HSCv.out]; exact down_end hle
          have HDv := Lib.hid hst
          obtain ⟨z, hz⟩ : ∃ z, d1[jv]! = z := ⟨_, rfl⟩
          obtain ⟨z2, hz2⟩ : ∃ z2, d1[a]! = z2 := ⟨_, rfl⟩
          have HXJ := Lib.hid hz
          have HXA := Lib.hid hz2
          clear hz hz2
          have HRv : Hid (HRow wr.drew base g c d1) := Lib.hid hr.drew_
          have HOv : Hid (Only (· = g) w wr.drew) := Lib.hid ho.drew
          clear hst hr ho
          go_wp2_with (fail)
          go_region
          clear k1
          have hap := fun h => apart (p := (fun x => lf cf x d1[a]!)) (q := (fun x => !lf cf x d1[a]!)) (fun x => rfl) (by omega) hij HUu.out (by have := HDv.out; exact this) h
          have hst : (if iu > jv then (jv, d1) else partLoop (lf cf) a (iu + 1) (jv - 1) (swp d1 iu jv)) = partLoop (lf cf) a (a + 1) (b - 1) (swp d a pivot) := by
            have h1 := partLoop_eq (lf cf) a (a + 1) (b - 1) d1
            rw [HUu.out, HDv.out] at h1
            exact h1.symm.trans HE.out
          have HST := Lib.hid hst
          have HAP := Lib.hid hap
          clear hst hap
          by_cases hgt : iu > jv
          · have k1 : (jv : Int) < (iu : Int) := by omega
            have hst := HST.out
            rw [if_pos hgt] at hst
            have HST2 := Lib.hid hst
            clear hst
            have k2 : (a : Int) < (d.size : Int) := by omega
            have k3 : (jv : Int) < (d.size : Int) := by omega
            obtain ⟨q0, q1, q2, q3, ⟨fz0, fz1, fz2, fz3⟩, ⟨u, uu, q4, q5, q6⟩, HRS, HOS⟩ := swap_step (W := wr) HRv.out jv a (by omega) (by omega) HOv.out.undrew HXJ.out HXA.out
            go_wp2_with (fail)
            go_region
            go_wp2_with (fail)
            refine bodyPost_ret (v := .tuple #[.int .i64 jv, .bool true]) (by simp [results, Try.results50, go_sem]) rfl ?_
            exact ⟨⟨true, by rw [partition_fst, ← HST2.out]⟩, HOS.out.drew, by rw [partition_arr, ← HST2.out]; exact HRS.out.drew_⟩
          · exact absurd hgt (by omega)
end Go.Proofs.Ytbpahlhmdbahjaa.hso
