/-
  Several texts in one.
-/
import Derived.Test.YtgbjpobgjmkjgaaGreatGHsoA
import Derived.Test.YtgbjpobgjmkjgaaGreatShelf
import Derived.Laws.Bits64
import Derived.Laws.Bits64b
import Derived.Sort.Walk7a
import Derived.Sort.WalkA14
set_option maxRecDepth 100000
/-
  The contract of partitionCmpFunc.
-/
namespace Go.Proofs.YtgbjpobgjmkjgaaGreat.hso
open Go.RowKit law bytes only flat hit heapM best Go.Sort Go.Shelf
set_option linter.unusedVariables false

theorem _root_.Go.Proofs.YtgbjpobgjmkjgaaGreat.only.Only.undrew {S : Nat → Prop} {a b : World} (h : Only S a b.drew) : Only S a b := ⟨h.os, h.tape, h.output, h.size, h.block⟩
set_option maxRecDepth 100000 in
set_option maxHeartbeats 12800000 in
theorem part_any {hb K : Nat} {v : Value} {cf : Hit → Hit → Int} {base g c : Nat} {d : Array Hit} {w : World} (hc : Cm hb K v cf w) (hr : HRow w base g c d) (hne : hb ≠ g) (a b pivot : Nat) (hap : a ≤ pivot) (hpb : pivot < b) (hb2 : b ≤ d.size) (hsz : d.size < 2305843009213693952) :
    Calls Tryz.prog 198 #[.slice (some ⟨g, 0, none⟩) d.size c, .int .i64 a, .int .i64 b, .int .i64 pivot, FV hb] w fun e w' =>
      (∃ ap : Bool, e = .returned (.tuple #[.int .i64 (partition (lf cf) d a b pivot).1, .bool ap])) ∧ Only (· = g) w w' ∧ HRow w' base g c (partition (lf cf) d a b pivot).2.2 := by
  have HC := Lib.hid hc
  clear hc
  unfold FV
  have i0 : IntKind.i64.wrap ((a : Int) + 1) = ((a + 1 : Nat) : Int) := w64 (by omega) (by omega) (by omega)
  have i1 : IntKind.i64.wrap ((b : Int) - 1) = ((b - 1 : Nat) : Int) := w64 (by omega) (by omega) (by omega)
  have i2 : (a : Int) < (d.size : Int) := by omega
  have i3 : (pivot : Int) < (d.size : Int) := by omega
  obtain ⟨q0, q1, q2, q3, ⟨fz0, fz1, fz2, fz3⟩, ⟨u, uu, q4, q5, q6⟩, HR0, HO0⟩ := swap_step hr a pivot (by omega) (by omega) (Only.refl _ _) rfl rfl
  generalize d[a]! = x at q0 q1 q2 q3 q4 q5 q6 HR0 HO0
  generalize d[pivot]! = y at q0 q1 q2 q3 q4 q5 q6 HR0 HO0
  clear hr
  go_enter Tryz.func198, Tryz.ntmps198
  go_wp2_with (fail)
  go_region
  clear q0 q1 q2 q3 fz0 fz1 fz2 fz3 q4 q5 q6 i3
  obtain ⟨W0, hW0⟩ : ∃ W0, W0 = ((((w.setCell ⟨g, a * 2, none⟩ (.int .u64 y.1)).setCell ⟨g, a * 2 + 1, none⟩ (.int .i64 y.2)).setCell ⟨g, pivot * 2, none⟩ (.int .u64 x.1)).setCell ⟨g, pivot * 2 + 1, none⟩ (.int .i64 x.2)).drew := ⟨_, rfl⟩
  rw [← hW0] at HR0 HO0 ⊢
  clear hW0
  obtain ⟨d1, hd1⟩ : ∃ d1, d1 = swp d a pivot := ⟨_, rfl⟩
  have hds1 : d1.size = d.size := by rw [hd1, size_swp]
  have HE : Hid (partLoop (lf cf) a (a + 1) (b - 1) d1 = partLoop (lf cf) a (a + 1) (b - 1) (swp d a pivot)) := Lib.hid (by rw [hd1])
  rw [← hd1] at HR0
  clear hd1
  have hij : a + 1 ≤ b - 1 + 1 := by omega
  have HRu := HR0
  have HOu := HO0
  clear HR0 HO0
  go_wp2_with (fail)
  go_loopg [12] ((b - 1) + 1 - (a + 1)) (fun gk s wr => ∃ iu : Nat, gk = (b - 1) + 1 - iu ∧ s = .int .i64 iu ∧ (a + 1) ≤ iu ∧ iu ≤ (b - 1) + 1 ∧ scanUp (fun x => lf cf x d1[a]!) d1 (b - 1) iu = scanUp (fun x => lf cf x d1[a]!) d1 (b - 1) (a + 1) ∧ HRow wr base g c d1 ∧ Only (· = g) w wr)
  case atStart => exact ⟨(a + 1), rfl, rfl, Nat.le_refl _, hij, rfl, HRu.out, HOu.out⟩
  case round =>
    clear HRu HOu
    obtain ⟨iu, rfl, rfl, hiu1, hiu2, hsc, hr, ho⟩ := hrel
    have HSCu := Lib.hid hsc
    clear hsc
    by_cases hle : iu ≤ (b - 1)
    · have k1 : (iu : Int) ≤ ((b - 1) : Int) := by omega
      have k2 : (iu : Int) < (d.size : Int) := by omega
      have k3 : IntKind.i64.wrap ((iu : Int) + 1) = ((iu + 1 : Nat) : Int) := w64 (by omega) (by omega) (by omega)
      obtain ⟨x, y, r, hx, hy, hl, HS, HCC, q0, q1, q2, q3⟩ := cmp_step (HC.out.only ho hne) hr iu a (by omega) (by omega)
      have hl2 : lf cf d1[iu]! d1[a]! = decide (r < 0) := by rw [hx, hy]; exact hl
      have HL := Lib.hid hl2
      have HR := Lib.hid hr
      have HO := Lib.hid ho
      clear hl2 hx hy hl hr ho
      by_cases hrr : r < 0
      · have hdd : decide (r < 0) = true := decide_eq_true hrr
        have hst : scanUp (fun x => lf cf x d1[a]!) d1 (b - 1) (iu + 1) = scanUp (fun x => lf cf x d1[a]!) d1 (b - 1) (a + 1) := by rw [← HSCu.out]; exact (up_go hle (by have hl := HL.out; rw [hdd] at hl; simp only [hl])).symm
        have HST := Lib.hid hst
        clear hst HL hrr
        go_wp2_with (fail)
        go_region_held3 (fun W => W.cell? ⟨g, iu * 2, none⟩ = some (.int .u64 x.1) ∧ W.cell? ⟨g, iu * 2 + 1, none⟩ = some (.int .i64 x.2) ∧ W.cell? ⟨g, a * 2, none⟩ = some (.int .u64 y.1) ∧ W.cell? ⟨g, a * 2 + 1, none⟩ = some (.int .i64 y.2)) ((refine HS.out _ ?_; repeat' (first | (with_reducible exact Below.refl _ _) | (with_reducible assumption) | (with_reducible refine Below.drew ?_) | (with_reducible refine below_drewN' ?_ _))))
          (first
            | (go_at_call 150; (with_reducible refine (HCC.out _ (by repeat' (first | (with_reducible exact Below.refl _ _) | (with_reducible assumption) | (with_reducible refine Below.drew ?_) | (with_reducible refine below_drewN' ?_ _)))).mono ?_); rintro e w2 ⟨rfl, hb2⟩))
        have HRu := Lib.hid (HR.out.below hb2 (Nat.le_refl _))
        have HOu := Lib.hid (HO.out.on hb2)
        clear HR HO HS HCC q0 q1 q2 q3 hb2 hdd
        go_wp2_with (fail)
        go_roundg ((b - 1) + 1 - (iu + 1))
        case measure => omega
        case rel => exact ⟨iu + 1, rfl, rfl, by omega, by omega, HST.out, HRu.out, HOu.out⟩
      · have hdd : decide (r < 0) = false := decide_eq_false hrr
        have hst : scanUp (fun x => lf cf x d1[a]!) d1 (b - 1) (a + 1) = iu := by rw [← HSCu.out]; exact up_no (by have hl := HL.out; rw [hdd] at hl; simp only [hl])
        have HST := Lib.hid hst
        clear hst HL hrr
        go_wp2_with (fail)
        go_region_held3 (fun W => W.cell? ⟨g, iu * 2, none⟩ = some (.int .u64 x.1) ∧ W.cell? ⟨g, iu * 2 + 1, none⟩ = some (.int .i64 x.2) ∧ W.cell? ⟨g, a * 2, none⟩ = some (.int .u64 y.1) ∧ W.cell? ⟨g, a * 2 + 1, none⟩ = some (.int .i64 y.2)) ((refine HS.out _ ?_; repeat' (first | (with_reducible exact Below.refl _ _) | (with_reducible assumption) | (with_reducible refine Below.drew ?_) | (with_reducible refine below_drewN' ?_ _))))
          (first
            | (go_at_call 150; (with_reducible refine (HCC.out _ (by repeat' (first | (with_reducible exact Below.refl _ _) | (with_reducible assumption) | (with_reducible refine Below.drew ?_) | (with_reducible refine below_drewN' ?_ _)))).mono ?_); rintro e w2 ⟨rfl, hb2⟩))
        have HRu := Lib.hid (HR.out.below hb2 (Nat.le_refl _))
        have HOu := Lib.hid (HO.out.on hb2)
        clear HR HO HS HCC q0 q1 q2 q3 hb2 hdd
        have HUu := HST
        clear HST k1 k2 k3
        go_wp2_with (fail)
        go_loopg [13] (b - 1) (fun gk s wr => ∃ jv : Nat, jv = gk ∧ s = .int .i64 jv ∧ jv ≤ (b - 1) ∧ iu ≤ jv + 1 ∧ scanDown (fun x => !lf cf x d1[a]!) d1 iu jv = scanDown (fun x => !lf cf x d1[a]!) d1 iu (b - 1) ∧ HRow wr base g c d1 ∧ Only (· = g) w wr)
        case atStart => exact ⟨(b - 1), rfl, rfl, Nat.le_refl _, by omega, rfl, HRu.out, HOu.out⟩
        case round =>
          clear HRu HOu
          obtain ⟨jv, rfl, rfl, hjv1, hjv2, hsc, hr, ho⟩ := hrel
          have HSCv := Lib.hid hsc
          clear hsc
          by_cases hle : iu ≤ jv
          · have k1 : (iu : Int) ≤ (jv : Int) := by omega
            have k2 : (jv : Int) < (d.size : Int) := by omega
            have k3 : IntKind.i64.wrap ((jv : Int) - 1) = ((jv - 1 : Nat) : Int) := w64 (by omega) (by omega) (by omega)
            obtain ⟨x, y, r, hx, hy, hl, HS, HCC, q0, q1, q2, q3⟩ := cmp_step (HC.out.only ho hne) hr jv a (by omega) (by omega)
            have hl2 : lf cf d1[jv]! d1[a]! = decide (r < 0) := by rw [hx, hy]; exact hl
            have HL := Lib.hid hl2
            have HR := Lib.hid hr
            have HO := Lib.hid ho
            have HXJ := Lib.hid hx
            have HXA := Lib.hid hy
            clear hl2 hx hy hl hr ho
            by_cases hrr : r < 0
            · have hdd : decide (r < 0) = true := decide_eq_true hrr
              have hst : scanDown (fun x => !lf cf x d1[a]!) d1 iu (b - 1) = jv := by rw [← HSCv.out]; exact down_no (by have hl := HL.out; rw [hdd] at hl; simp only [hl]; rfl)
              have HST := Lib.hid hst
              clear hst HL hrr
              go_wp2_with (fail)
              go_region_held3 (fun W => W.cell? ⟨g, jv * 2, none⟩ = some (.int .u64 x.1) ∧ W.cell? ⟨g, jv * 2 + 1, none⟩ = some (.int .i64 x.2) ∧ W.cell? ⟨g, a * 2, none⟩ = some (.int .u64 y.1) ∧ W.cell? ⟨g, a * 2 + 1, none⟩ = some (.int .i64 y.2)) ((refine HS.out _ ?_; repeat' (first | (with_reducible exact Below.refl _ _) | (with_reducible assumption) | (with_reducible refine Below.drew ?_) | (with_reducible refine below_drewN' ?_ _))))
                (first
                  | (go_at_call 150; (with_reducible refine (HCC.out _ (by repeat' (first | (with_reducible exact Below.refl _ _) | (with_reducible assumption) | (with_reducible refine Below.drew ?_) | (with_reducible refine below_drewN' ?_ _)))).mono ?_); rintro e w2 ⟨rfl, hb2⟩))
              have HRv := Lib.hid (HR.out.below hb2 (Nat.le_refl _))
              have HOv := Lib.hid (HO.out.on hb2)
              clear HR HO HS HCC q0 q1 q2 q3 hb2 hdd
              have HDv := HST
              clear HST k1 k2 k3
              have hap := fun h => apart (p := (fun x => lf cf x d1[a]!)) (q := (fun x => !lf cf x d1[a]!)) (fun x => rfl) (by omega) hij HUu.out (by have := HDv.out; exact this) h
              have hst : (if iu > jv then (jv, d1) else partLoop (lf cf) a (iu + 1) (jv - 1) (swp d1 iu jv)) = partLoop (lf cf) a (a + 1) (b - 1) (swp d a pivot) := by
                have h1 := partLoop_eq (lf cf) a (a + 1) (b - 1) d1
                rw [HUu.out, HDv.out] at h1
                exact h1.symm.trans HE.out
              have HST := Lib.hid hst
              have HAP := Lib.hid hap
              clear hst hap
              by_cases hgt : iu > jv
              · exact absurd hgt (by omega)
              · have k1 : ¬ (jv : Int) < (iu : Int) := by omega
                have hst := HST.out
                rw [if_neg hgt] at hst
                have HST2 := Lib.hid hst
                have hlt := HAP.out hgt
                clear hst
                have k2 : (iu : Int) < (d.size : Int) := by omega
                have k3 : (jv : Int) < (d.size : Int) := by omega
                have k4 : IntKind.i64.wrap ((iu : Int) + 1) = ((iu + 1 : Nat) : Int) := w64 (by omega) (by omega) (by omega)
                have k5 : IntKind.i64.wrap ((jv : Int) - 1) = ((jv - 1 : Nat) : Int) := w64 (by omega) (by omega) (by omega)
                obtain ⟨q0, q1, q2, q3, ⟨fz0, fz1, fz2, fz3⟩, ⟨u, uu, q4, q5, q6⟩, HRS, HOS⟩ := swap_step HRv.out iu jv (by omega) (by omega) HOv.out rfl HXJ.out
                generalize d1[iu]! = x' at q0 q1 q2 q3 q4 q5 q6 HRS HOS
                go_wp2_with (fail)
                go_region
                go_wp2_with (fail)
                have hsz1 : (swp d1 iu jv).size = d.size := by rw [size_swp]; exact hds1
                go_loopg [12, 13] (jv - 1 + 1 - (iu + 1)) (fun gk s12 s13 wr => ∃ (i j : Nat) (d' : Array Hit), gk = j + 1 - i ∧ s12 = .int .i64 i ∧ s13 = .int .i64 j ∧ a < i ∧ i ≤ j + 1 ∧ j < b ∧ d'.size = d.size ∧ partLoop (lf cf) a i j d' = partLoop (lf cf) a (a + 1) (b - 1) (swp d a pivot) ∧ HRow wr base g c d' ∧ Only (· = g) w wr)
                case atStart => exact ⟨iu + 1, jv - 1, swp d1 iu jv, rfl, rfl, rfl, by omega, by omega, by omega, hsz1, HST2.out, HRS.out, HOS.out⟩
                case round =>
                  clear HRS HOS HST2 HST HAP q0 q1 q2 q3 fz0 fz1 fz2 fz3 q4 q5 q6 k1 k2 k3 k4 k5 HXJ HXA HE hij
                  clear HUu HDv HRv HOv HSCv HSCu
                  obtain ⟨i, j, d', rfl, rfl, rfl, hai, hij, hjb, hds, heq, hr, ho⟩ := hrel
                  obtain ⟨w0, hw0⟩ : ∃ w0, w0 = wr := ⟨_, rfl⟩
                  subst hw0
                  have HRm := Lib.hid hr
                  have HOm := Lib.hid ho
                  have HE := Lib.hid heq
                  clear hr ho heq
                  go_wp2_with (fail)
                  go_loopg [12] (j + 1 - i) (fun gk s wr => ∃ im : Nat, gk = j + 1 - im ∧ s = .int .i64 im ∧ i ≤ im ∧ im ≤ j + 1 ∧ scanUp (fun x => lf cf x d'[a]!) d' j im = scanUp (fun x => lf cf x d'[a]!) d' j i ∧ HRow wr base g c d' ∧ Only (· = g) w wr)
                  case atStart => exact ⟨i, rfl, rfl, Nat.le_refl _, hij, rfl, HRm.out, HOm.out⟩
                  case round =>
                    clear HRm HOm
                    obtain ⟨im, rfl, rfl, him1, him2, hsc, hr, ho⟩ := hrel
                    have HSCm := Lib.hid hsc
                    clear hsc
                    by_cases hle : im ≤ j
                    · have k1 : (im : Int) ≤ (j : Int) := by omega
                      have k2 : (im : Int) < (d.size : Int) := by omega
                      have k3 : IntKind.i64.wrap ((im : Int) + 1) = ((im + 1 : Nat) : Int) := w64 (by omega) (by omega) (by omega)
                      obtain ⟨x, y, r, hx, hy, hl, HS, HCC, q0, q1, q2, q3⟩ := cmp_step (HC.out.only ho hne) hr im a (by omega) (by omega)
                      have hl2 : lf cf d'[im]! d'[a]! = decide (r < 0) := by rw [hx, hy]; exact hl
                      have HL := Lib.hid hl2
                      have HR := Lib.hid hr
                      have HO := Lib.hid ho
                      clear hl2 hx hy hl hr ho
                      by_cases hrr : r < 0
                      · have hdd : decide (r < 0) = true := decide_eq_true hrr
                        have hst : scanUp (fun x => lf cf x d'[a]!) d' j (im + 1) = scanUp (fun x => lf cf x d'[a]!) d' j i := by rw [← HSCm.out]; exact (up_go hle (by have hl := HL.out; rw [hdd] at hl; simp only [hl])).symm
                        have HST := Lib.hid hst
                        clear hst HL hrr
                        go_wp2_with (fail)
                        go_region_held3 (fun W => W.cell? ⟨g, im * 2, none⟩ = some (.int .u64 x.1) ∧ W.cell? ⟨g, im * 2 + 1, none⟩ = some (.int .i64 x.2) ∧ W.cell? ⟨g, a * 2, none⟩ = some (.int .u64 y.1) ∧ W.cell? ⟨g, a * 2 + 1, none⟩ = some (.int .i64 y.2)) ((refine HS.out _ ?_; repeat' (first | (with_reducible exact Below.refl _ _) | (with_reducible assumption) | (with_reducible refine Below.drew ?_) | (with_reducible refine below_drewN' ?_ _))))
                          (first
                            | (go_at_call 150; (with_reducible refine (HCC.out _ (by repeat' (first | (with_reducible exact Below.refl _ _) | (with_reducible assumption) | (with_reducible refine Below.drew ?_) | (with_reducible refine below_drewN' ?_ _)))).mono ?_); rintro e w2 ⟨rfl, hb2⟩))
                        have HRm := Lib.hid (HR.out.below hb2 (Nat.le_refl _))
                        have HOm := Lib.hid (HO.out.on hb2)
                        clear HR HO HS HCC q0 q1 q2 q3 hb2 hdd
                        go_wp2_with (fail)
                        go_roundg (j + 1 - (im + 1))
                        case measure => omega
                        case rel => exact ⟨im + 1, rfl, rfl, by omega, by omega, HST.out, HRm.out, HOm.out⟩
                      · have hdd : decide (r < 0) = false := decide_eq_false hrr
                        have hst : scanUp (fun x => lf cf x d'[a]!) d' j i = im := by rw [← HSCm.out]; exact up_no (by have hl := HL.out; rw [hdd] at hl; simp only [hl])
                        have HST := Lib.hid hst
                        clear hst HL hrr
                        go_wp2_with (fail)
                        go_region_held3 (fun W => W.cell? ⟨g, im * 2, none⟩ = some (.int .u64 x.1) ∧ W.cell? ⟨g, im * 2 + 1, none⟩ = some (.int .i64 x.2) ∧ W.cell? ⟨g, a * 2, none⟩ = some (.int .u64 y.1) ∧ W.cell? ⟨g, a * 2 + 1, none⟩ = some (.int .i64 y.2)) ((refine HS.out _ ?_; repeat' (first | (with_reducible exact Below.refl _ _) | (with_reducible assumption) | (with_reducible refine Below.drew ?_) | (with_reducible refine below_drewN' ?_ _))))
                          (first
                            | (go_at_call 150; (with_reducible refine (HCC.out _ (by repeat' (first | (with_reducible exact Below.refl _ _) | (with_reducible assumption) | (with_reducible refine Below.drew ?_) | (with_reducible refine below_drewN' ?_ _)))).mono ?_); rintro e w2 ⟨rfl, hb2⟩))
                        have HRm := Lib.hid (HR.out.below hb2 (Nat.le_refl _))
                        have HOm := Lib.hid (HO.out.on hb2)
                        clear HR HO HS HCC q0 q1 q2 q3 hb2 hdd
                        have HUm := HST
                        clear HST k1 k2 k3
                        go_wp2_with (fail)
                        go_loopg [13] j (fun gk s wr => ∃ jn : Nat, jn = gk ∧ s = .int .i64 jn ∧ jn ≤ j ∧ im ≤ jn + 1 ∧ scanDown (fun x => !lf cf x d'[a]!) d' im jn = scanDown (fun x => !lf cf x d'[a]!) d' im j ∧ HRow wr base g c d' ∧ Only (· = g) w wr)
                        case atStart => exact ⟨j, rfl, rfl, Nat.le_refl _, by omega, rfl, HRm.out, HOm.out⟩
                        case round =>
                          clear HRm HOm
                          obtain ⟨jn, rfl, rfl, hjn1, hjn2, hsc, hr, ho⟩ := hrel
                          have HSCn := Lib.hid hsc
                          clear hsc
                          by_cases hle : im ≤ jn
                          · have k1 : (im : Int) ≤ (jn : Int) := by omega
                            have k2 : (jn : Int) < (d.size : Int) := by omega
                            have k3 : IntKind.i64.wrap ((jn : Int) - 1) = ((jn - 1 : Nat) : Int) := w64 (by omega) (by omega) (by omega)
                            obtain ⟨x, y, r, hx, hy, hl, HS, HCC, q0, q1, q2, q3⟩ := cmp_step (HC.out.only ho hne) hr jn a (by omega) (by omega)
                            have hl2 : lf cf d'[jn]! d'[a]! = decide (r < 0) := by rw [hx, hy]; exact hl
                            have HL := Lib.hid hl2
                            have HR := Lib.hid hr
                            have HO := Lib.hid ho
                            have HXJ := Lib.hid hx
                            have HXA := Lib.hid hy
                            clear hl2 hx hy hl hr ho
                            by_cases hrr : r < 0
                            · have hdd : decide (r < 0) = true := decide_eq_true hrr
                              have hst : scanDown (fun x => !lf cf x d'[a]!) d' im j = jn := by rw [← HSCn.out]; exact down_no (by have hl := HL.out; rw [hdd] at hl; simp only [hl]; rfl)
                              have HST := Lib.hid hst
                              clear hst HL hrr
                              go_wp2_with (fail)
                              go_region_held3 (fun W => W.cell? ⟨g, jn * 2, none⟩ = some (.int .u64 x.1) ∧ W.cell? ⟨g, jn * 2 + 1, none⟩ = some (.int .i64 x.2) ∧ W.cell? ⟨g, a * 2, none⟩ = some (.int .u64 y.1) ∧ W.cell? ⟨g, a * 2 + 1, none⟩ = some (.int .i64 y.2)) ((refine HS.out _ ?_; repeat' (first | (with_reducible exact Below.refl _ _) | (with_reducible assumption) | (with_reducible refine Below.drew ?_) | (with_reducible refine below_drewN' ?_ _))))
                                (first
                                  | (go_at_call 150; (with_reducible refine (HCC.out _ (by repeat' (first | (with_reducible exact Below.refl _ _) | (with_reducible assumption) | (with_reducible refine Below.drew ?_) | (with_reducible refine below_drewN' ?_ _)))).mono ?_); rintro e w2 ⟨rfl, hb2⟩))
                              have HRn := Lib.hid (HR.out.below hb2 (Nat.le_refl _))
                              have HOn := Lib.hid (HO.out.on hb2)
                              clear HR HO HS HCC q0 q1 q2 q3 hb2 hdd
                              have HDn := HST
                              clear HST k1 k2 k3
                              have hap := fun h => apart (p := (fun x => lf cf x d'[a]!)) (q := (fun x => !lf cf x d'[a]!)) (fun x => rfl) (by omega) hij HUm.out (by have := HDn.out; exact this) h
                              have hst : (if im > jn then (jn, d') else partLoop (lf cf) a (im + 1) (jn - 1) (swp d' im jn)) = partLoop (lf cf) a (a + 1) (b - 1) (swp d a pivot) := by
                                have h1 := partLoop_eq (lf cf) a i j d'
                                rw [HUm.out, HDn.out] at h1
                                exact h1.symm.trans HE.out
                              have HST := Lib.hid hst
                              have HAP := Lib.hid hap
                              clear hst hap
                              by_cases hgt : im > jn
                              · exact absurd hgt (by omega)
                              · have k1 : ¬ (jn : Int) < (im : Int) := by omega
                                have hst := HST.out
                                rw [if_neg hgt] at hst
                                have HST2 := Lib.hid hst
                                have hlt := HAP.out hgt
                                clear hst
                                have k2 : (im : Int) < (d.size : Int) := by omega
                                have k3 : (jn : Int) < (d.size : Int) := by omega
                                have k4 : IntKind.i64.wrap ((im : Int) + 1) = ((im + 1 : Nat) : Int) := w64 (by omega) (by omega) (by omega)
                                have k5 : IntKind.i64.wrap ((jn : Int) - 1) = ((jn - 1 : Nat) : Int) := w64 (by omega) (by omega) (by omega)
                                obtain ⟨q0, q1, q2, q3, ⟨fz0, fz1, fz2, fz3⟩, ⟨u, uu, q4, q5, q6⟩, HRS, HOS⟩ := swap_step HRn.out im jn (by omega) (by omega) HOn.out rfl HXJ.out
                                generalize d'[im]! = x' at q0 q1 q2 q3 q4 q5 q6 HRS HOS
                                go_wp2_with (fail)
                                go_region
                                go_wp2_with (fail)
                                go_roundg (jn - 1 + 1 - (im + 1))
                                case measure => omega
                                case rel => exact ⟨im + 1, jn - 1, swp d' im jn, rfl, rfl, rfl, by omega, by omega, by omega, by rw [size_swp]; exact hds, HST2.out, HRS.out, HOS.out⟩
                            · have hdd : decide (r < 0) = false := decide_eq_false hrr
                              have hst : scanDown (fun x => !lf cf x d'[a]!) d' im (jn - 1) = scanDown (fun x => !lf cf x d'[a]!) d' im j := by rw [← HSCn.out]; exact (down_go (by omega) hle (by have hl := HL.out; rw [hdd] at hl; simp only [hl]; rfl)).symm
                              have HST := Lib.hid hst
                              clear hst HL hrr
                              go_wp2_with (fail)
                              go_region_held3 (fun W => W.cell? ⟨g, jn * 2, none⟩ = some (.int .u64 x.1) ∧ W.cell? ⟨g, jn * 2 + 1, none⟩ = some (.int .i64 x.2) ∧ W.cell? ⟨g, a * 2, none⟩ = some (.int .u64 y.1) ∧ W.cell? ⟨g, a * 2 + 1, none⟩ = some (.int .i64 y.2)) ((refine HS.out _ ?_; repeat' (first | (with_reducible exact Below.refl _ _) | (with_reducible assumption) | (with_reducible refine Below.drew ?_) | (with_reducible refine below_drewN' ?_ _))))
                                (first
                                  | (go_at_call 150; (with_reducible refine (HCC.out _ (by repeat' (first | (with_reducible exact Below.refl _ _) | (with_reducible assumption) | (with_reducible refine Below.drew ?_) | (with_reducible refine below_drewN' ?_ _)))).mono ?_); rintro e w2 ⟨rfl, hb2⟩))
                              have HRn := Lib.hid (HR.out.below hb2 (Nat.le_refl _))
                              have HOn := Lib.hid (HO.out.on hb2)
                              clear HR HO HS HCC q0 q1 q2 q3 hb2 hdd
                              go_wp2_with (fail)
                              go_roundg (jn - 1)
                              case measure => omega
                              case rel => exact ⟨jn - 1, rfl, rfl, by omega, by omega, HST.out, HRn.out, HOn.out⟩
                          · have k1 : ¬ (im : Int) ≤ (jn : Int) := by omega
                            have hst : scanDown (fun x => !lf cf x d'[a]!) d' im j = jn := by rw [← HSCn.out]; exact down_end hle
                            have HDn := Lib.hid hst
                            obtain ⟨z, hz⟩ : ∃ z, d'[jn]! = z := ⟨_, rfl⟩
                            obtain ⟨z2, hz2⟩ : ∃ z2, d'[a]! = z2 := ⟨_, rfl⟩
                            have HXJ := Lib.hid hz
                            have HXA := Lib.hid hz2
                            clear hz hz2
                            have HRn : Hid (HRow wr.drew base g c d') := Lib.hid hr.drew_
                            have HOn : Hid (Only (· = g) w wr.drew) := Lib.hid ho.drew
                            clear hst hr ho
                            go_wp2_with (fail)
                            go_region
                            clear k1
                            have hap := fun h => apart (p := (fun x => lf cf x d'[a]!)) (q := (fun x => !lf cf x d'[a]!)) (fun x => rfl) (by omega) hij HUm.out (by have := HDn.out; exact this) h
                            have hst : (if im > jn then (jn, d') else partLoop (lf cf) a (im + 1) (jn - 1) (swp d' im jn)) = partLoop (lf cf) a (a + 1) (b - 1) (swp d a pivot) := by
                              have h1 := partLoop_eq (lf cf) a i j d'
                              rw [HUm.out, HDn.out] at h1
                              exact h1.symm.trans HE.out
                            have HST := Lib.hid hst
                            have HAP := Lib.hid hap
                            clear hst hap
                            by_cases hgt : im > jn
                            · have k1 : (jn : Int) < (im : Int) := by omega
                              have hst := HST.out
                              rw [if_pos hgt] at hst
                              have HST2 := Lib.hid hst
                              clear hst
                              have k2 : (a : Int) < (d.size : Int) := by omega
                              have k3 : (jn : Int) < (d.size : Int) := by omega
                              obtain ⟨q0, q1, q2, q3, ⟨fz0, fz1, fz2, fz3⟩, ⟨u, uu, q4, q5, q6⟩, HRS, HOS⟩ := swap_step (W := wr) HRn.out jn a (by omega) (by omega) HOn.out.undrew HXJ.out HXA.out
                              go_wp2_with (fail)
                              go_region
                              go_wp2_with (fail)
                              refine bodyPost_ret (v := .tuple #[.int .i64 jn, .bool false]) (by simp [results, Tryz.results198, go_sem]) rfl ?_
                              exact ⟨⟨false, by rw [partition_fst, ← HST2.out]⟩, HOS.out.drew, by rw [partition_arr, ← HST2.out]; exact HRS.out.drew_⟩
                            · exact absurd hgt (by omega)
                    · have k1 : ¬ (im : Int) ≤ (j : Int) := by omega
                      have hst : scanUp (fun x => lf cf x d'[a]!) d' j i = im := by rw [← HSCm.out]; exact up_end hle
                      have HUm := Lib.hid hst
                      have HRm : Hid (HRow wr.drew base g c d') := Lib.hid hr.drew_
                      have HOm : Hid (Only (· = g) w wr.drew) := Lib.hid ho.drew
                      clear hst hr ho
                      go_wp2_with (fail)
                      go_region
                      clear k1
                      go_wp2_with (fail)
                      go_loopg [13] j (fun gk s wr => ∃ jn : Nat, jn = gk ∧ s = .int .i64 jn ∧ jn ≤ j ∧ im ≤ jn + 1 ∧ scanDown (fun x => !lf cf x d'[a]!) d' im jn = scanDown (fun x => !lf cf x d'[a]!) d' im j ∧ HRow wr base g c d' ∧ Only (· = g) w wr)
                      case atStart => exact ⟨j, rfl, rfl, Nat.le_refl _, by omega, rfl, HRm.out, HOm.out⟩
                      case round =>
                        clear HRm HOm
                        obtain ⟨jn, rfl, rfl, hjn1, hjn2, hsc, hr, ho⟩ := hrel
                        have HSCn := Lib.hid hsc
                        clear hsc
                        by_cases hle : im ≤ jn
                        · exact absurd hle (by omega)
                        · have k1 : ¬ (im : Int) ≤ (jn : Int) := by omega
                          have hst : scanDown (fun x => !lf cf x d'[a]!) d' im j = jn := by rw [← HSCn.out]; exact down_end hle
                          have HDn := Lib.hid hst
                          obtain ⟨z, hz⟩ : ∃ z, d'[jn]! = z := ⟨_, rfl⟩
                          obtain ⟨z2, hz2⟩ : ∃ z2, d'[a]! = z2 := ⟨_, rfl⟩
                          have HXJ := Lib.hid hz
                          have HXA := Lib.hid hz2
                          clear hz hz2
                          have HRn : Hid (HRow wr.drew base g c d') := Lib.hid hr.drew_
                          have HOn : Hid (Only (· = g) w wr.drew) := Lib.hid ho.drew
                          clear hst hr ho
                          go_wp2_with (fail)
                          go_region
                          clear k1
                          have hap := fun h => apart (p := (fun x => lf cf x d'[a]!)) (q := (fun x => !lf cf x d'[a]!)) (fun x => rfl) (by omega) hij HUm.out (by have := HDn.out; exact this) h
                          have hst : (if im > jn then (jn, d') else partLoop (lf cf) a (im + 1) (jn - 1) (swp d' im jn)) = partLoop (lf cf) a (a + 1) (b - 1) (swp d a pivot) := by
                            have h1 := partLoop_eq (lf cf) a i j d'
                            rw [HUm.out, HDn.out] at h1
                            exact h1.symm.trans HE.out
                          have HST := Lib.hid hst
                          have HAP := Lib.hid hap
                          clear hst hap
                          by_cases hgt : im > jn
                          · have k1 : (jn : Int) < (im : Int) := by omega
                            have hst := HST.out
                            rw [if_pos hgt] at hst
                            have HST2 := Lib.hid hst
                            clear hst
                            have k2 : (a : Int) < (d.size : Int) := by omega
                            have k3 : (jn : Int) < (d.size : Int) := by omega
                            obtain ⟨q0, q1, q2, q3, ⟨fz0, fz1, fz2, fz3⟩, ⟨u, uu, q4, q5, q6⟩, HRS, HOS⟩ := swap_step (W := wr) HRn.out jn a (by omega) (by omega) HOn.out.undrew HXJ.out HXA.out
                            go_wp2_with (fail)
                            go_region
                            go_wp2_with (fail)
                            refine bodyPost_ret (v := .tuple #[.int .i64 jn, .bool false]) (by simp [results, Tryz.results198, go_sem]) rfl ?_
                            exact ⟨⟨false, by rw [partition_fst, ← HST2.out]⟩, HOS.out.drew, by rw [partition_arr, ← HST2.out]; exact HRS.out.drew_⟩
                          · exact absurd hgt (by omega)
            · have hdd : decide (r < 0) = false := decide_eq_false hrr
              have hst : scanDown (fun x => !lf cf x d1[a]!) d1 iu (jv - 1) = scanDown (fun x => !lf cf x d1[a]!) d1 iu (b - 1) := by rw [← HSCv.out]; exact (down_go (by omega) hle (by have hl := HL.out; rw [hdd] at hl; simp only [hl]; rfl)).symm
              have HST := Lib.hid hst
              clear hst HL hrr
              go_wp2_with (fail)
              go_region_held3 (fun W => W.cell? ⟨g, jv * 2, none⟩ = some (.int .u64 x.1) ∧ W.cell? ⟨g, jv * 2 + 1, none⟩ = some (.int .i64 x.2) ∧ W.cell? ⟨g, a * 2, none⟩ = some (.int .u64 y.1) ∧ W.cell? ⟨g, a * 2 + 1, none⟩ = some (.int .i64 y.2)) ((refine HS.out _ ?_; repeat' (first | (with_reducible exact Below.refl _ _) | (with_reducible assumption) | (with_reducible refine Below.drew ?_) | (with_reducible refine below_drewN' ?_ _))))
                (first
                  | (go_at_call 150; (with_reducible refine (HCC.out _ (by repeat' (first | (with_reducible exact Below.refl _ _) | (with_reducible assumption) | (with_reducible refine Below.drew ?_) | (with_reducible refine below_drewN' ?_ _)))).mono ?_); rintro e w2 ⟨rfl, hb2⟩))
              have HRv := Lib.hid (HR.out.below hb2 (Nat.le_refl _))
              have HOv := Lib.hid (HO.out.on hb2)
              clear HR HO HS HCC q0 q1 q2 q3 hb2 hdd
              go_wp2_with (fail)
              go_roundg (jv - 1)
              case measure => omega
              case rel => exact ⟨jv - 1, rfl, rfl, by omega, by omega, HST.out, HRv.out, HOv.out⟩
          · have k1 : ¬ (iu : Int) ≤ (jv : Int) := by omega
            have hst : scanDown (fun x => !lf cf x d1[a]!) d1 iu (b - 1) = jv := by rw [← HSCv.out]; exact down_end hle
            have HDv := Lib.hid hst
            obtain ⟨z, hz⟩ : ∃ z, d1[jv]! = z := ⟨_, rfl⟩
            obtain ⟨z2, hz2⟩ : ∃ z2, d1[a]! = z2 := ⟨_, rfl⟩
            have HXJ := Lib.hid hz
            have HXA := Lib.hid hz2
            clear hz hz2
            have HRv : Hid (HRow wr.drew base g c d1) := Lib.hid hr.drew_
            have HOv : Hid (Only (· = g) w wr.drew) := Lib.hid ho.drew
            clear hst hr ho
            go_wp2_with (fail)
            go_region
            clear k1
            have hap := fun h => apart (p := (fun x => lf cf x d1[a]!)) (q := (fun x => !lf cf x d1[a]!)) (fun x => rfl) (by omega) hij HUu.out (by have := HDv.out; exact this) h
            have hst : (if iu > jv then (jv, d1) else partLoop (lf cf) a (iu + 1) (jv - 1) (swp d1 iu jv)) = partLoop (lf cf) a (a + 1) (b - 1) (swp d a pivot) := by
              have h1 := partLoop_eq (lf cf) a (a + 1) (b - 1) d1
              rw [HUu.out, HDv.out] at h1
              exact h1.symm.trans HE.out
            have HST := Lib.hid hst
            have HAP := Lib.hid hap
            clear hst hap
            by_cases hgt : iu > jv
            · have k1 : (jv : Int) < (iu : Int) := by omega
              have hst := HST.out
              rw [if_pos hgt] at hst
              have HST2 := Lib.hid hst
              clear hst
              have k2 : (a : Int) < (d.size : Int) := by omega
              have k3 : (jv : Int) < (d.size : Int) := by omega
              obtain ⟨q0, q1, q2, q3, ⟨fz0, fz1, fz2, fz3⟩, ⟨u, uu, q4, q5, q6⟩, HRS, HOS⟩ := swap_step (W := wr) HRv.out jv a (by omega) (by omega) HOv.out.undrew HXJ.out HXA.out
              go_wp2_with (fail)
              go_region
              go_wp2_with (fail)
              refine bodyPost_ret (v := .tuple #[.int .i64 jv, .bool true]) (by simp [results, Tryz.results198, go_sem]) rfl ?_
              exact ⟨⟨true, by rw [partition_fst, ← HST2.out]⟩, HOS.out.drew, by rw [partition_arr, ← HST2.out]; exact HRS.out.drew_⟩
            · exact absurd hgt (by omega)
    · have k1 : ¬ (iu : Int) ≤ ((b - 1) : Int) := by omega
      have hst : scanUp (fun x => lf cf x d1[a]!) d1 (b - 1) (a + 1) = iu := by rw [← HSCu.out]; exact up_end hle
      have HUu := Lib.hid hst
      have HRu : Hid (HRow wr.drew base g c d1) := Lib.hid hr.drew_
      have HOu : Hid (Only (· = g) w wr.drew) := Lib.hid ho.drew
      clear hst hr ho
      go_wp2_with (fail)
      go_region
      clear k1
      go_wp2_with (fail)
      go_loopg [13] (b - 1) (fun gk s wr => ∃ jv : Nat, jv = gk ∧ s = .int .i64 jv ∧ jv ≤ (b - 1) ∧ iu ≤ jv + 1 ∧ scanDown (fun x => !lf cf x d1[a]!) d1 iu jv = scanDown (fun x => !lf cf x d1[a]!) d1 iu (b - 1) ∧ HRow wr base g c d1 ∧ Only (· = g) w wr)
      case atStart => exact ⟨(b - 1), rfl, rfl, Nat.le_refl _, by omega, rfl, HRu.out, HOu.out⟩
      case round =>
        clear HRu HOu
        obtain ⟨jv, rfl, rfl, hjv1, hjv2, hsc, hr, ho⟩ := hrel
        have HSCv := Lib.hid hsc
        clear hsc
        by_cases hle : iu ≤ jv
        · exact absurd hle (by omega)
        · have k1 : ¬ (iu : Int) ≤ (jv : Int) := by omega
          have hst : scanDown (fun x => !lf cf x d1[a]!) d1 iu (b - 1) = jv := by rw [← HSCv.out]; exact down_end hle
          have HDv := Lib.hid hst
          obtain ⟨z, hz⟩ : ∃ z, d1[jv]! = z := ⟨_, rfl⟩
          obtain ⟨z2, hz2⟩ : ∃ z2, d1[a]! = z2 := ⟨_, rfl⟩
          have HXJ := Lib.hid hz
          have HXA := Lib.hid hz2
          clear hz hz2
          have HRv : Hid (HRow wr.drew base g c d1) := Lib.hid hr.drew_
          have HOv : Hid (Only (· = g) w wr.drew) := Lib.hid ho.drew
          clear hst hr ho
          go_wp2_with (fail)
          go_region
          clear k1
          have hap := fun h => apart (p := (fun x => lf cf x d1[a]!)) (q := (fun x => !lf cf x d1[a]!)) (fun x => rfl) (by omega) hij HUu.out (by have := HDv.out; exact this) h
          have hst : (if iu > jv then (jv, d1) else partLoop (lf cf) a (iu + 1) (jv - 1) (swp d1 iu jv)) = partLoop (lf cf) a (a + 1) (b - 1) (swp d a pivot) := by
            have h1 := partLoop_eq (lf cf) a (a + 1) (b - 1) d1
            rw [HUu.out, HDv.out] at h1
            exact h1.symm.trans HE.out
          have HST := Lib.hid hst
          have HAP := Lib.hid hap
          clear hst hap
          by_cases hgt : iu > jv
          · have k1 : (jv : Int) < (iu : Int) := by omega
            have hst := HST.out
            rw [if_pos hgt] at hst
            have HST2 := Lib.hid hst
            clear hst
            have k2 : (a : Int) < (d.size : Int) := by omega
            have k3 : (jv : Int) < (d.size : Int) := by omega
            obtain ⟨q0, q1, q2, q3, ⟨fz0, fz1, fz2, fz3⟩, ⟨u, uu, q4, q5, q6⟩, HRS, HOS⟩ := swap_step (W := wr) HRv.out jv a (by omega) (by omega) HOv.out.undrew HXJ.out HXA.out
            go_wp2_with (fail)
            go_region
            go_wp2_with (fail)
            refine bodyPost_ret (v := .tuple #[.int .i64 jv, .bool true]) (by simp [results, Tryz.results198, go_sem]) rfl ?_
            exact ⟨⟨true, by rw [partition_fst, ← HST2.out]⟩, HOS.out.drew, by rw [partition_arr, ← HST2.out]; exact HRS.out.drew_⟩
          · exact absurd hgt (by omega)
end Go.Proofs.YtgbjpobgjmkjgaaGreat.hso
/-
  The contracts of order2CmpFunc, medianCmpFunc, medianAdjacentCmpFunc, choosePivotCmpFunc: which place comes out, not how.
-/
namespace Go.Proofs.YtgbjpobgjmkjgaaGreat.hso
open Go.RowKit law bytes only flat hit heapM best Go.Sort Go.Shelf
set_option linter.unusedVariables false

/-- the sort's memory, and a counter of exchanges at block s -/
structure Sw (hb K : Nat) (v : Value) (cf : Hit → Hit → Int) (base g c : Nat) (d : Array Hit) (s : Nat) (w : World) : Prop where
  cm : Cm hb K v cf w
  row : HRow w base g c d
  sg : s ≠ g
  sh : s ≠ hb
  blk : ∃ n : Int, Blk w s 3 #[.int .i64 n]
section
variable {hb K : Nat} {v : Value} {cf : Hit → Hit → Int} {w W : World} {base g c s : Nat} {d : Array Hit}
theorem Sw.only (h : Sw hb K v cf base g c d s w) (o : Only (· = s) w W) {n : Int} (hn : Blk W s 3 #[.int .i64 n]) : Sw hb K v cf base g c d s W :=
  ⟨h.cm.only o (fun e => h.sh e.symm), h.row.only o (fun e => h.sg e.symm), h.sg, h.sh, n, hn⟩
end
/-- which of two comes first -/
def Two (i j i2 j2 : Nat) : Prop := (i2 = i ∧ j2 = j) ∨ (i2 = j ∧ j2 = i)
set_option maxRecDepth 100000 in
set_option maxHeartbeats 1600000 in
theorem order2_any {hb K : Nat} {v : Value} {cf : Hit → Hit → Int} {base g c s : Nat} {d : Array Hit} {w : World} (h : Sw hb K v cf base g c d s w) (i j : Nat) (hi : i < d.size) (hj : j < d.size) (hsz : d.size < 2305843009213693952) :
    Calls Tryz.prog 208 #[.slice (some ⟨g, 0, none⟩) d.size c, .int .i64 i, .int .i64 j, .pointer (some ⟨s, 0, none⟩), FV hb] w fun e w' =>
      ∃ i2 j2 : Nat, e = .returned (.tuple #[.int .i64 i2, .int .i64 j2]) ∧ Two i j i2 j2 ∧ Only (· = s) w w' ∧ Sw hb K v cf base g c d s w' := by
  unfold FV
  obtain ⟨x, y, r, hx, hy, hl, HS, HCC, q0, q1, q2, q3⟩ := cmp_step h.cm h.row j i hj hi
  clear hx hy hl
  have i1 : (j : Int) < (d.size : Int) := by omega
  have i2 : (i : Int) < (d.size : Int) := by omega
  obtain ⟨n, hn⟩ := h.blk
  obtain ⟨n1, i3⟩ : ∃ n1, IntKind.i64.wrap (n + 1) = n1 := ⟨_, rfl⟩
  have HW := Lib.hid h
  have HB := Lib.hid hn
  clear h hn
  obtain ⟨o, hd⟩ : ∃ o, decide (r < 0) = o := ⟨_, rfl⟩
  go_enter Tryz.func208, Tryz.ntmps208
  go_wp2_with (fail)
  go_region_held3 (fun W => W.cell? ⟨g, j * 2, none⟩ = some (.int .u64 x.1) ∧ W.cell? ⟨g, j * 2 + 1, none⟩ = some (.int .i64 x.2) ∧ W.cell? ⟨g, i * 2, none⟩ = some (.int .u64 y.1) ∧ W.cell? ⟨g, i * 2 + 1, none⟩ = some (.int .i64 y.2)) ((refine HS.out _ ?_; repeat' (first | (with_reducible exact Below.refl _ _) | (with_reducible assumption) | (with_reducible refine Below.drew ?_) | (with_reducible refine below_drewN' ?_ _))))
    (first
      | (go_at_call 150; (with_reducible refine (HCC.out _ (by repeat' (first | (with_reducible exact Below.refl _ _) | (with_reducible assumption) | (with_reducible refine Below.drew ?_) | (with_reducible refine below_drewN' ?_ _)))).mono ?_); rintro e w2 ⟨rfl, hb2⟩))
  have HB2 : Blk w2 s 3 #[.int .i64 n] := HB.out.below hb2 HB.out.lt
  have HO2 : Only (· = s) w w2 := Only.of_below hb2 (Nat.le_refl _) _
  have c0 : w2.cell? ⟨s, 0, none⟩ = some (.int .i64 n) := HB2.cell 0
  have f0 : w2.frozen? ⟨s, 0, none⟩ = false := HB2.frozen 0
  have HB3 := Lib.hid HB2
  have HO3 := Lib.hid HO2
  clear HB2 HO2 hb2 HCC HS q0 q1 q2 q3
  cases o with
  | true =>
    go_wp2_with (fail)
    refine bodyPost_ret (v := .tuple #[.int .i64 j, .int .i64 i]) (by simp [results, Tryz.results208, go_sem]) rfl ?_
    have ho := HO3.out.setCell (p := ⟨s, 0, none⟩) (.inl rfl) (.int .i64 n1)
    exact ⟨j, i, rfl, .inr ⟨rfl, rfl⟩, ho, HW.out.only ho (HB3.out.set_ 0 _)⟩
  | false =>
    go_wp2_with (fail)
    refine bodyPost_ret (v := .tuple #[.int .i64 i, .int .i64 j]) (by simp [results, Tryz.results208, go_sem]) rfl ?_
    exact ⟨i, j, rfl, .inl ⟨rfl, rfl⟩, HO3.out, HW.out.only HO3.out HB3.out⟩

set_option maxRecDepth 100000 in
set_option maxHeartbeats 1600000 in
theorem median_any {hb K : Nat} {v : Value} {cf : Hit → Hit → Int} {base g c s : Nat} {d : Array Hit} {w : World} (h : Sw hb K v cf base g c d s w) (i j k : Nat) (hi : i < d.size) (hj : j < d.size) (hk : k < d.size) (hsz : d.size < 2305843009213693952) :
    Calls Tryz.prog 204 #[.slice (some ⟨g, 0, none⟩) d.size c, .int .i64 i, .int .i64 j, .int .i64 k, .pointer (some ⟨s, 0, none⟩), FV hb] w fun e w' =>
      ∃ p : Nat, e = .returned (.int .i64 p) ∧ (p = i ∨ p = j ∨ p = k) ∧ Only (· = s) w w' ∧ Sw hb K v cf base g c d s w' := by
  obtain ⟨fv, hfv⟩ : ∃ fv, fv = FV hb := ⟨_, rfl⟩
  have HQ : Hid (∀ (W : World) (x y : Nat), Sw hb K v cf base g c d s W → x < d.size → y < d.size → Calls Tryz.prog 208 #[.slice (some ⟨g, 0, none⟩) d.size c, .int .i64 x, .int .i64 y, .pointer (some ⟨s, 0, none⟩), fv] W fun e w' =>
      ∃ i2 j2 : Nat, e = .returned (.tuple #[.int .i64 i2, .int .i64 j2]) ∧ Two x y i2 j2 ∧ Only (· = s) W w' ∧ Sw hb K v cf base g c d s w') := Lib.hid fun W x y h hx hy => by
    rw [hfv]; exact order2_any h x y hx hy hsz
  rw [← hfv]
  have H0 := Lib.hid h
  clear h hfv
  go_enter Tryz.func204, Tryz.ntmps204
  go_wp2_with (fail)
  refine (HQ.out _ i j H0.out hi hj).mono ?_
  rintro e w1 ⟨i2, j2, rfl, ht1, ho1, h1⟩
  have b1 : i2 < d.size ∧ j2 < d.size := by rcases ht1 with ⟨rfl, rfl⟩ | ⟨rfl, rfl⟩ <;> exact ⟨by omega, by omega⟩
  have H1 := Lib.hid h1
  have T1 := Lib.hid ht1
  have O1 := Lib.hid ho1
  have B1 := Lib.hid b1
  clear H0 h1 ht1 ho1 b1
  go_wp2_with (fail)
  refine (HQ.out _ j2 k H1.out B1.out.2 hk).mono ?_
  rintro e w2 ⟨j3, k3, rfl, ht2, ho2, h2⟩
  have b2 : j3 < d.size := by have := B1.out; rcases ht2 with ⟨rfl, rfl⟩ | ⟨rfl, rfl⟩ <;> omega
  have H2 := Lib.hid h2
  have B2 := Lib.hid b2
  have T2 := Lib.hid ht2
  have O2 := Lib.hid ho2
  clear H1 h2 ht2 ho2 b2
  go_wp2_with (fail)
  refine (HQ.out _ i2 j3 H2.out B1.out.1 B2.out).mono ?_
  rintro e w3 ⟨i4, j4, rfl, ht3, ho3, h3⟩
  have T3 := Lib.hid ht3
  have O3 := Lib.hid ho3
  have S3 := Lib.hid h3
  clear H2 h3 ht3 ho3
  go_wp2_with (fail)
  refine bodyPost_ret (v := .int .i64 j4) (by simp [results, Tryz.results204, go_sem]) rfl ?_
  refine ⟨j4, rfl, ?_, (O1.out.trans O2.out fun _ e => .inl e).trans O3.out fun _ e => .inl e, S3.out⟩
  rcases T1.out with ⟨rfl, rfl⟩ | ⟨rfl, rfl⟩ <;> rcases T2.out with ⟨rfl, rfl⟩ | ⟨rfl, rfl⟩ <;> rcases T3.out with ⟨rfl, rfl⟩ | ⟨rfl, rfl⟩ <;> simp

set_option maxRecDepth 100000 in
set_option maxHeartbeats 1600000 in
theorem adjacent_any {hb K : Nat} {v : Value} {cf : Hit → Hit → Int} {base g c s : Nat} {d : Array Hit} {w : World} (h : Sw hb K v cf base g c d s w) (i : Nat) (h0 : 0 < i) (hi : i + 1 < d.size) (hsz : d.size < 2305843009213693952) :
    Calls Tryz.prog 203 #[.slice (some ⟨g, 0, none⟩) d.size c, .int .i64 i, .pointer (some ⟨s, 0, none⟩), FV hb] w fun e w' =>
      ∃ p : Nat, e = .returned (.int .i64 p) ∧ (p = i - 1 ∨ p = i ∨ p = i + 1) ∧ Only (· = s) w w' ∧ Sw hb K v cf base g c d s w' := by
  have H1 := Lib.hid (median_any h (i - 1) i (i + 1) (by omega) (by omega) hi hsz)
  clear h
  obtain ⟨fv, hfv⟩ : ∃ fv, fv = FV hb := ⟨_, rfl⟩
  rw [← hfv] at H1 ⊢
  obtain ⟨i1, hi1⟩ : ∃ i1, i1 = i - 1 := ⟨_, rfl⟩
  obtain ⟨i2, hi2⟩ : ∃ i2, i2 = i + 1 := ⟨_, rfl⟩
  rw [← hi1, ← hi2] at H1
  have q1 : IntKind.i64.wrap ((i : Int) - 1) = (i1 : Int) := w64 (by omega) (by omega) (by omega)
  have q2 : IntKind.i64.wrap ((i : Int) + 1) = (i2 : Int) := w64 (by omega) (by omega) (by omega)
  rw [← hi1, ← hi2]
  clear hi1 hi2 hfv
  go_enter Tryz.func203, Tryz.ntmps203
  go_wp2_with (fail)
  refine H1.out.mono ?_
  rintro e w1 ⟨p, rfl, hp, ho, h1⟩
  have HP := Lib.hid hp
  have HO := Lib.hid ho
  have H := Lib.hid h1
  clear H1 hp ho h1
  go_wp2_with (fail)
  refine bodyPost_ret (v := .int .i64 p) (by simp [results, Tryz.results203, go_sem]) rfl ?_
  exact ⟨p, rfl, HP.out, HO.out, H.out⟩
end Go.Proofs.YtgbjpobgjmkjgaaGreat.hso
/-
  The contract of choosePivotCmpFunc: a place of the part.
-/
namespace Go.Proofs.YtgbjpobgjmkjgaaGreat.hso
open Go.RowKit law bytes only flat hit heapM best Go.Sort Go.Shelf
set_option linter.unusedVariables false

/-- a sum, a product, a quotient that fit -/
theorem q4 (n q : Nat) (h : q = n / 4) : ((n : Int) / 4) = (q : Int) := by omega
set_option maxRecDepth 100000 in
set_option maxHeartbeats 3200000 in
theorem pivot_any {hb K : Nat} {v : Value} {cf : Hit → Hit → Int} {base g c : Nat} {d : Array Hit} {w : World} (hc : Cm hb K v cf w) (hr : HRow w base g c d) (a b : Nat) (hab : a + 12 < b) (hb2 : b ≤ d.size) (hsz : d.size < 2305843009213693952) :
    Calls Tryz.prog 194 #[.slice (some ⟨g, 0, none⟩) d.size c, .int .i64 a, .int .i64 b, FV hb] w fun e w' =>
      ∃ (p : Nat) (k : Int), e = .returned (.tuple #[.int .i64 p, .int .i64 k]) ∧ a ≤ p ∧ p < b ∧ Below w.heap.size w w' := by
  obtain ⟨s, hs⟩ : ∃ s, s = w.heap.size := ⟨_, rfl⟩
  have hsg : s ≠ g := by have := hr.lt; omega
  have hsh : s ≠ hb := by have := hc.blk.lt; omega
  have hall : Below w.heap.size w (w.alloc (.cells #[.int .i64 0] 3)) := (Below.refl _ _).alloc (Nat.le_refl _) _
  have hsw : Sw hb K v cf base g c d s (w.alloc (.cells #[.int .i64 0] 3)) := ⟨hc.below hall (Nat.le_refl _), hr.below hall (Nat.le_refl _), hsg, hsh, 0, hs ▸ Blk.new w _ _⟩
  have HW := Lib.hid hsw
  have HA := Lib.hid hall
  clear hc hr hsg hsh hsw hall
  obtain ⟨fv, hfv⟩ : ∃ fv, fv = FV hb := ⟨_, rfl⟩
  have HM : Hid (∀ (W : World) (x y z : Nat), Sw hb K v cf base g c d s W → x < d.size → y < d.size → z < d.size → Calls Tryz.prog 204 #[.slice (some ⟨g, 0, none⟩) d.size c, .int .i64 x, .int .i64 y, .int .i64 z, .pointer (some ⟨s, 0, none⟩), fv] W fun e w' =>
      ∃ p : Nat, e = .returned (.int .i64 p) ∧ (p = x ∨ p = y ∨ p = z) ∧ Only (· = s) W w' ∧ Sw hb K v cf base g c d s w') := Lib.hid fun W x y z h hx hy hz => by
    rw [hfv]; exact median_any h x y z hx hy hz hsz
  have HN : Hid (∀ (W : World) (x : Nat), Sw hb K v cf base g c d s W → 0 < x → x + 1 < d.size → Calls Tryz.prog 203 #[.slice (some ⟨g, 0, none⟩) d.size c, .int .i64 x, .pointer (some ⟨s, 0, none⟩), fv] W fun e w' =>
      ∃ p : Nat, e = .returned (.int .i64 p) ∧ (p = x - 1 ∨ p = x ∨ p = x + 1) ∧ Only (· = s) W w' ∧ Sw hb K v cf base g c d s w') := Lib.hid fun W x h hx hy => by
    rw [hfv]; exact adjacent_any h x hx hy hsz
  rw [← hfv]
  clear hfv
  obtain ⟨l, hl⟩ : ∃ l, l = b - a := ⟨_, rfl⟩
  obtain ⟨q, hq⟩ : ∃ q, q = l / 4 := ⟨_, rfl⟩
  obtain ⟨qq, hqq⟩ : ∃ qq, qq = q * 2 := ⟨_, rfl⟩
  obtain ⟨qqq, hqqq⟩ : ∃ qqq, qqq = q * 3 := ⟨_, rfl⟩
  obtain ⟨i, hi⟩ : ∃ i, i = a + q := ⟨_, rfl⟩
  obtain ⟨j, hj⟩ : ∃ j, j = a + qq := ⟨_, rfl⟩
  obtain ⟨k, hk⟩ : ∃ k, k = a + qqq := ⟨_, rfl⟩
  have i1 : IntKind.i64.wrap ((b : Int) - (a : Int)) = (l : Int) := w64 (by omega) (by omega) (by omega)
  have i2 : ((l : Int) / 4) = (q : Int) := by omega
  have i3 : IntKind.i64.wrap ((q : Int) * 1) = (q : Int) := w64 (by omega) (by omega) (by omega)
  have i3b : IntKind.i64.wrap (q : Int) = (q : Int) := w64 (by omega) (by omega) (by omega)
  have i4 : IntKind.i64.wrap ((q : Int) * 2) = (qq : Int) := w64 (by omega) (by omega) (by omega)
  have i5 : IntKind.i64.wrap ((q : Int) * 3) = (qqq : Int) := w64 (by omega) (by omega) (by omega)
  have i6 : IntKind.i64.wrap ((a : Int) + (q : Int)) = (i : Int) := w64 (by omega) (by omega) (by omega)
  have i7 : IntKind.i64.wrap ((a : Int) + (qq : Int)) = (j : Int) := w64 (by omega) (by omega) (by omega)
  have i8 : IntKind.i64.wrap ((a : Int) + (qqq : Int)) = (k : Int) := w64 (by omega) (by omega) (by omega)
  have i9 : (8 : Int) ≤ (l : Int) := by omega
  have HI : Hid (a + 2 ≤ i ∧ i + 2 < b ∧ a + 2 ≤ j ∧ j + 2 < b ∧ a + 2 ≤ k ∧ k + 2 < b) := Lib.hid ⟨by omega, by omega, by omega, by omega, by omega, by omega⟩
  clear hl hq hqq hqqq hi hj hk
  have HS := Lib.hid hs
  rw [hs] at HM HN
  clear hs
  go_enter Tryz.func194, Tryz.ntmps194
  rw [← HS.out] at HM HN
  by_cases h50 : (50 : Int) ≤ (l : Int)
  · go_wp2_with (fail)
    rw [← HS.out]
    refine (HN.out _ i HW.out (by have := HI.out; omega) (by have := HI.out; omega)).mono ?_
    rintro e w2 ⟨p1, rfl, hp1, ho2, h2⟩
    have P1 := Lib.hid hp1
    have O2 := Lib.hid ho2
    have S2 := Lib.hid h2
    clear hp1 ho2 h2
    go_wp2_with (fail)
    refine (HN.out _ j S2.out (by have := HI.out; omega) (by have := HI.out; omega)).mono ?_
    rintro e w3 ⟨p2, rfl, hp2, ho3, h3⟩
    have P2 := Lib.hid hp2
    have O3 := Lib.hid ho3
    have S3 := Lib.hid h3
    clear hp2 ho3 h3 S2
    go_wp2_with (fail)
    refine (HN.out _ k S3.out (by have := HI.out; omega) (by have := HI.out; omega)).mono ?_
    rintro e w4 ⟨p3, rfl, hp3, ho4, h4⟩
    have HP : Hid (a ≤ p1 ∧ p1 < b ∧ a ≤ p2 ∧ p2 < b ∧ a ≤ p3 ∧ p3 < b) := Lib.hid (by have := HI.out; have := P1.out; have := P2.out; omega)
    have HO : Hid (Only (· = s) (w.alloc (.cells #[.int .i64 0] 3)) w4) := Lib.hid ((O2.out.trans O3.out fun _ e => .inl e).trans ho4 fun _ e => .inl e)
    have SW := Lib.hid h4
    clear hp3 ho4 h4 S3 P1 P2 O2 O3 HI
    go_wp2_with (fail)
    refine (HM.out _ p1 p2 p3 SW.out (by have := HP.out; omega) (by have := HP.out; omega) (by have := HP.out; omega)).mono ?_
    rintro e w5 ⟨p, rfl, hp, ho5, h5⟩
    obtain ⟨n, hn⟩ := h5.blk
    have c0 := hn.cell 0
    change w5.cell? _ = some (.int .i64 n) at c0
    have HPP : Hid (a ≤ p ∧ p < b) := Lib.hid (by have := HP.out; omega)
    have HOO : Hid (Below w.heap.size w w5) := Lib.hid (HA.out.trans ((HO.out.trans ho5 fun _ e => .inl e).below (Below.size HA.out) fun i e => by have h1 := HS.out; have h2 : i = s := e; omega))
    clear hp ho5 h5 hn SW HO HP HM HN HW
    by_cases hn0 : n = 0
    · subst hn0
      go_wp2_with (fail)
      refine bodyPost_ret (v := .tuple #[.int .i64 p, .int .i64 1]) (by simp [results, Tryz.results194, go_sem]) rfl ?_
      exact ⟨p, 1, rfl, HPP.out.1, HPP.out.2, HOO.out⟩
    · by_cases hn12 : n = 12
      · subst hn12
        go_wp2_with (fail)
        refine bodyPost_ret (v := .tuple #[.int .i64 p, .int .i64 2]) (by simp [results, Tryz.results194, go_sem]) rfl ?_
        exact ⟨p, 2, rfl, HPP.out.1, HPP.out.2, HOO.out⟩
      · go_wp2_with (fail)
        refine bodyPost_ret (v := .tuple #[.int .i64 p, .int .i64 0]) (by simp [results, Tryz.results194, go_sem]) rfl ?_
        exact ⟨p, 0, rfl, HPP.out.1, HPP.out.2, HOO.out⟩
  · obtain ⟨p1, hp1⟩ : ∃ p1, p1 = i := ⟨_, rfl⟩
    obtain ⟨p2, hp2⟩ : ∃ p2, p2 = j := ⟨_, rfl⟩
    obtain ⟨p3, hp3⟩ : ∃ p3, p3 = k := ⟨_, rfl⟩
    have HP : Hid (a ≤ p1 ∧ p1 < b ∧ a ≤ p2 ∧ p2 < b ∧ a ≤ p3 ∧ p3 < b) := Lib.hid (by have := HI.out; omega)
    rw [← hp1] at i6
    rw [← hp2] at i7
    rw [← hp3] at i8
    have HO : Hid (Only (· = s) (w.alloc (.cells #[.int .i64 0] 3)) (w.alloc (.cells #[.int .i64 0] 3))) := Lib.hid (Only.refl _ _)
    have SW := HW
    clear hp1 hp2 hp3 HI
    go_wp2_with (fail)
    rw [← HS.out]
    refine (HM.out _ p1 p2 p3 SW.out (by have := HP.out; omega) (by have := HP.out; omega) (by have := HP.out; omega)).mono ?_
    rintro e w5 ⟨p, rfl, hp, ho5, h5⟩
    obtain ⟨n, hn⟩ := h5.blk
    have c0 := hn.cell 0
    change w5.cell? _ = some (.int .i64 n) at c0
    have HPP : Hid (a ≤ p ∧ p < b) := Lib.hid (by have := HP.out; omega)
    have HOO : Hid (Below w.heap.size w w5) := Lib.hid (HA.out.trans ((HO.out.trans ho5 fun _ e => .inl e).below (Below.size HA.out) fun i e => by have h1 := HS.out; have h2 : i = s := e; omega))
    clear hp ho5 h5 hn SW HO HP HM HN HW
    by_cases hn0 : n = 0
    · subst hn0
      go_wp2_with (fail)
      refine bodyPost_ret (v := .tuple #[.int .i64 p, .int .i64 1]) (by simp [results, Tryz.results194, go_sem]) rfl ?_
      exact ⟨p, 1, rfl, HPP.out.1, HPP.out.2, HOO.out⟩
    · by_cases hn12 : n = 12
      · subst hn12
        go_wp2_with (fail)
        refine bodyPost_ret (v := .tuple #[.int .i64 p, .int .i64 2]) (by simp [results, Tryz.results194, go_sem]) rfl ?_
        exact ⟨p, 2, rfl, HPP.out.1, HPP.out.2, HOO.out⟩
      · go_wp2_with (fail)
        refine bodyPost_ret (v := .tuple #[.int .i64 p, .int .i64 0]) (by simp [results, Tryz.results194, go_sem]) rfl ?_
        exact ⟨p, 0, rfl, HPP.out.1, HPP.out.2, HOO.out⟩
end Go.Proofs.YtgbjpobgjmkjgaaGreat.hso
/-
  The contract of breakPatternsCmpFunc: places exchanged within the part.
-/
namespace Go.Proofs.YtgbjpobgjmkjgaaGreat.hso
open Go.RowKit law bytes only flat hit heapM best Go.Sort Go.Shelf
set_option linter.unusedVariables false

/-- the generator's number at block s -/
def Xs (w : World) (s : Nat) (x : Nat) : Prop := Blk w s 230 #[.int .u64 x]
theorem u64_nat (n : Nat) (h : n < 18446744073709551616) : IntKind.u64.wrap (n : Int) = (n : Int) := by rw [IntKind.wrap_u64]; omega
set_option maxRecDepth 100000 in
set_option maxHeartbeats 1600000 in
theorem next_any {s : Nat} {x : Nat} {w : World} (hx : Xs w s x) (h1 : x < 18446744073709551616) :
    Calls Tryz.prog 185 #[.pointer (some ⟨s, 0, none⟩)] w fun e w' =>
      ∃ y : Nat, y < 18446744073709551616 ∧ e = .returned (.int .u64 y) ∧ Only (· = s) w w' ∧ Xs w' s y := by
  obtain ⟨A, hA⟩ : ∃ A : Nat, A = x ^^^ (x * 8192 % 18446744073709551616) := ⟨_, rfl⟩
  obtain ⟨B, hB⟩ : ∃ B : Nat, B = A ^^^ (A / 128) := ⟨_, rfl⟩
  obtain ⟨C, hC⟩ : ∃ C : Nat, C = B ^^^ (B * 131072 % 18446744073709551616) := ⟨_, rfl⟩
  have lA : A < 18446744073709551616 := by rw [hA]; exact Nat.xor_lt_two_pow (n := 64) (by omega) (by omega)
  have lB : B < 18446744073709551616 := by rw [hB]; exact Nat.xor_lt_two_pow (n := 64) (by omega) (by omega)
  have lC : C < 18446744073709551616 := by rw [hC]; exact Nat.xor_lt_two_pow (n := 64) (by omega) (by omega)
  have e1 : bits .xor .u64 (x : Int) (IntKind.u64.wrap ((x : Int) * 8192)) = (A : Int) := by
    rw [IntKind.wrap_u64, show ((x : Int) * 8192 % 18446744073709551616) = ((x * 8192 % 18446744073709551616 : Nat) : Int) by omega, bits_xor_u64_nat _ _ h1 (by omega), hA]
  have e2 : bits .xor .u64 (A : Int) ((A : Int) / 128) = (B : Int) := by
    rw [show ((A : Int) / 128) = ((A / 128 : Nat) : Int) by omega, bits_xor_u64_nat _ _ lA (by omega), hB]
  have e3 : bits .xor .u64 (B : Int) (IntKind.u64.wrap ((B : Int) * 131072)) = (C : Int) := by
    rw [IntKind.wrap_u64, show ((B : Int) * 131072 % 18446744073709551616) = ((B * 131072 % 18446744073709551616 : Nat) : Int) by omega, bits_xor_u64_nat _ _ lB (by omega), hC]
  have LC := Lib.hid lC
  clear hA hB hC lA lB lC h1
  have c0 : w.cell? ⟨s, 0, none⟩ = some (.int .u64 x) := hx.cell 0
  have f0 : w.frozen? ⟨s, 0, none⟩ = false := hx.frozen 0
  have HX0 := Lib.hid hx
  clear hx
  go_enter Tryz.func185, Tryz.ntmps185
  go_wp2_with (fail)
  go_region
  have HX1 : Hid (Xs (w.setCell ⟨s, 0, none⟩ (.int .u64 A)).drew s A) := Lib.hid (HX0.out.set_ 0 _)
  have HO1 : Hid (Only (· = s) w (w.setCell ⟨s, 0, none⟩ (.int .u64 A)).drew) := Lib.hid (((Only.refl (· = s) w).setCell (p := ⟨s, 0, none⟩) (.inl rfl) _).drew)
  clear c0 f0 HX0
  generalize (w.setCell ⟨s, 0, none⟩ (.int .u64 A)).drew = w1 at HX1 HO1 ⊢
  have c0 : w1.cell? ⟨s, 0, none⟩ = some (.int .u64 A) := HX1.out.cell 0
  have f0 : w1.frozen? ⟨s, 0, none⟩ = false := HX1.out.frozen 0
  go_wp2_with (fail)
  go_region
  have HX2 : Hid (Xs (w1.setCell ⟨s, 0, none⟩ (.int .u64 B)).drew s B) := Lib.hid (HX1.out.set_ 0 _)
  have HO2 : Hid (Only (· = s) w (w1.setCell ⟨s, 0, none⟩ (.int .u64 B)).drew) := Lib.hid ((HO1.out.setCell (p := ⟨s, 0, none⟩) (.inl rfl) _).drew)
  clear c0 f0 HX1 HO1
  generalize (w1.setCell ⟨s, 0, none⟩ (.int .u64 B)).drew = w2 at HX2 HO2 ⊢
  have c0 : w2.cell? ⟨s, 0, none⟩ = some (.int .u64 B) := HX2.out.cell 0
  have f0 : w2.frozen? ⟨s, 0, none⟩ = false := HX2.out.frozen 0
  go_wp2_with (fail)
  go_region
  have HX3 : Hid (Xs (w2.setCell ⟨s, 0, none⟩ (.int .u64 C)).drew s C) := Lib.hid (HX2.out.set_ 0 _)
  have HO3 : Hid (Only (· = s) w (w2.setCell ⟨s, 0, none⟩ (.int .u64 C)).drew) := Lib.hid ((HO2.out.setCell (p := ⟨s, 0, none⟩) (.inl rfl) _).drew)
  clear c0 f0 HX2 HO2
  generalize (w2.setCell ⟨s, 0, none⟩ (.int .u64 C)).drew = w3 at HX3 HO3 ⊢
  have c0 : w3.cell? ⟨s, 0, none⟩ = some (.int .u64 C) := HX3.out.cell 0
  go_wp2_with (fail)
  refine bodyPost_ret (v := .int .u64 C) (by simp [results, Tryz.results185, go_sem]) rfl ?_
  exact ⟨C, LC.out, rfl, HO3.out, HX3.out⟩

set_option maxHeartbeats 1600000 in
theorem power_any (n : Nat) (hn : n < 4611686018427387904) (w : World) :
    Calls Tryz.prog 184 #[.int .i64 n] w fun e w' => e = .returned (.int .u64 ((1 <<< bitsLen n : Nat) : Int)) ∧ w = w' := by
  have HL : Hid (∀ w, Calls Tryz.prog 137 #[.int .u64 (n : Int)] w fun e w' => e = .returned (.int .i64 (bitsLen n : Nat)) ∧ w' = w) := Lib.hid fun w => by
    have h := Tryz.bits_Len (n : Int) w (by omega) (by omega)
    rwa [Int.toNat_natCast, bitLen_eq _ (by omega)] at h
  have hk : bitsLen n ≤ 62 := (bitsLen_le_iff n 62).2 (by omega)
  have hp := wrap_two_pow (bitsLen n) hk
  have wr : IntKind.u64.wrap (n : Int) = n := u64_nat n (by omega)
  go_enter Tryz.func184, Tryz.ntmps184
  go_wp2_with (fail)
  refine (HL.out _).mono ?_
  rintro e w' ⟨rfl, rfl⟩
  go_wp2_with (fail)
  refine bodyPost_ret (v := .int .u64 ((1 <<< bitsLen n : Nat) : Int)) (by simp [results, Tryz.results184, go_sem]) rfl ?_
  exact ⟨rfl, rfl⟩

set_option maxRecDepth 100000 in
set_option maxHeartbeats 6400000 in
theorem break_any {hb K : Nat} {v : Value} {cf : Hit → Hit → Int} {base g c : Nat} {d : Array Hit} {w : World} (hr : HRow w base g c d) (fv : Value) (a b : Nat) (hab : a + 12 < b) (hb2 : b ≤ d.size) (hsz : d.size < 2305843009213693952) :
    Calls Tryz.prog 193 #[.slice (some ⟨g, 0, none⟩) d.size c, .int .i64 a, .int .i64 b, fv] w fun e w' =>
      e = .returned (.tuple #[]) ∧ Only (· = g) w w' ∧ ∃ d', PermIn a b d d' ∧ HRow w' base g c d' := by
  obtain ⟨l, hl⟩ : ∃ l, l = b - a := ⟨_, rfl⟩
  obtain ⟨M, hM⟩ : ∃ M : Nat, M = 1 <<< bitsLen l := ⟨_, rfl⟩
  have hM1 : 1 ≤ M := by rw [hM, Nat.one_shiftLeft]; exact Nat.two_pow_pos _
  have hM2 : M ≤ 2 * l := by rw [hM, Nat.one_shiftLeft]; exact two_pow_bitsLen_le (by omega)
  have HNP : Hid (∀ w, Calls Tryz.prog 184 #[.int .i64 (l : Int)] w fun e w' => e = .returned (.int .u64 (M : Int)) ∧ w = w') := Lib.hid (by rw [hM]; exact fun w => power_any l (by omega) w)
  clear hM
  obtain ⟨s, hs⟩ : ∃ s, s = w.heap.size := ⟨_, rfl⟩
  have hsg : s ≠ g := by have := hr.lt; omega
  obtain ⟨q, hq⟩ : ∃ q, q = l / 4 := ⟨_, rfl⟩
  obtain ⟨qq, hqq⟩ : ∃ qq, qq = q * 2 := ⟨_, rfl⟩
  obtain ⟨aq, haq⟩ : ∃ aq, aq = a + qq := ⟨_, rfl⟩
  obtain ⟨ap, hap⟩ : ∃ ap, ap = aq + 1 := ⟨_, rfl⟩
  obtain ⟨am, ham⟩ : ∃ am, am = aq - 1 := ⟨_, rfl⟩
  obtain ⟨M1, hM1e⟩ : ∃ M1, M1 = M - 1 := ⟨_, rfl⟩
  have i1 : IntKind.i64.wrap ((b : Int) - (a : Int)) = (l : Int) := w64 (by omega) (by omega) (by omega)
  have i2 : ((l : Int) / 4) = (q : Int) := by omega
  have i4 : IntKind.i64.wrap ((q : Int) * 2) = (qq : Int) := w64 (by omega) (by omega) (by omega)
  have i5 : IntKind.i64.wrap ((a : Int) + (qq : Int)) = (aq : Int) := w64 (by omega) (by omega) (by omega)
  have i6 : IntKind.i64.wrap ((aq : Int) + 1) = (ap : Int) := w64 (by omega) (by omega) (by omega)
  have i7 : IntKind.i64.wrap ((aq : Int) - 1) = (am : Int) := w64 (by omega) (by omega) (by omega)
  have i8 : (8 : Int) ≤ (l : Int) := by omega
  have i9 : IntKind.u64.wrap (l : Int) = (l : Int) := u64_nat l (by omega)
  have i10 : IntKind.u64.wrap ((M : Int) - 1) = (M1 : Int) := by rw [IntKind.wrap_u64]; omega
  have HF : Hid (a + l = b ∧ a ≤ am ∧ am + 2 = ap ∧ ap < b ∧ M1 < 2 * l ∧ l < 2305843009213693952 ∧ b ≤ d.size ∧ s = w.heap.size ∧ s ≠ g) := Lib.hid ⟨by omega, by omega, by omega, by omega, by omega, by omega, by omega, hs, hsg⟩
  have HX0 : Hid (Xs (w.alloc (.cells #[.int .u64 (l : Int)] 230)) s l) := Lib.hid (hs ▸ Blk.new w _ _)
  have HR0 : Hid (HRow (w.alloc (.cells #[.int .u64 (l : Int)] 230)) base g c d) := Lib.hid (hr.below ((Below.refl _ _).alloc (Nat.le_refl _) _) (Nat.le_refl _))
  have HO0 : Hid (Only (· = g) w (w.alloc (.cells #[.int .u64 (l : Int)] 230))) := Lib.hid ((Only.refl _ w).alloc _)
  have hl64 : l < 18446744073709551616 := by omega
  clear hl hq hqq haq hap ham hM1e hM1 hM2 hr hab hb2 hsg
  go_enter Tryz.func193, Tryz.ntmps193
  go_wp2_with (fail)
  rw [← hs]
  generalize w.alloc (.cells #[.int .u64 (l : Int)] 230) = w1 at HX0 HR0 HO0 ⊢
  clear hs
  refine (HNP.out _).mono ?_
  rintro e w' ⟨rfl, rfl⟩
  go_wp2_with (fail)
  go_loopg [11, 12] 3 (fun gk s11 s12 wr => ∃ (t m z : Nat) (d' : Array Hit), t ≤ 3 ∧ gk = 3 - t ∧ s11 = .int .i64 m ∧ m = am + t ∧ z < 18446744073709551616 ∧ d'.size = d.size ∧ PermIn a b d d' ∧ HRow wr base g c d' ∧ Only (· = g) w wr ∧ Xs wr s z)
  case atStart => exact ⟨0, am, l, d, by omega, rfl, rfl, rfl, hl64, rfl, permIn_refl _ _ _, HR0.out, HO0.out, HX0.out⟩
  case round =>
    clear HX0 HR0 HO0
    obtain ⟨t, m, z0, d', ht, rfl, rfl, hm, hz0, hds, hp, hr, ho, hx⟩ := hrel
    have HP := Lib.hid hp
    have HR := Lib.hid hr
    have HO := Lib.hid ho
    have HM := Lib.hid hm
    by_cases ht3 : t < 3
    · have i11 : (m : Int) ≤ (ap : Int) := by have := HF.out; omega
      have HN := Lib.hid (next_any hx hz0)
      clear hp hr ho hx hz0 hm
      go_wp2_with (fail)
      refine HN.out.mono ?_
      rintro e w2 ⟨z, hz, rfl, ho2, hx2⟩
      have HR2 := Lib.hid (HR.out.only ho2 fun e => HF.out.2.2.2.2.2.2.2.2 e.symm)
      have HO2 : Hid (Only (· = g) w w2) := Lib.hid (HO.out.trans ho2 fun i e => .inr (by have h1 : i = s := e; rw [h1, HF.out.2.2.2.2.2.2.2.1]; exact Nat.le_refl _))
      have HX2 := Lib.hid hx2
      have HZ := Lib.hid hz
      obtain ⟨O, hO⟩ : ∃ O : Nat, O = z &&& M1 := ⟨_, rfl⟩
      have hO2 : O ≤ M1 := by rw [hO]; exact Nat.and_le_right
      have e1 : bits .and .u64 (z : Int) (M1 : Int) = (O : Int) := by
        rw [bits_and_u64_nat _ _ hz (by have := HF.out; omega), hO]
      have i12 : IntKind.i64.wrap (O : Int) = (O : Int) := w64 rfl (by omega) (by have := HF.out; omega)
      obtain ⟨m1, hm1⟩ : ∃ m1, m1 = m + 1 := ⟨_, rfl⟩
      have i16 : IntKind.i64.wrap ((m : Int) + 1) = (m1 : Int) := w64 (by omega) (by have := HF.out; omega) (by have := HF.out; have := HM.out; omega)
      have HM1 := Lib.hid hm1
      clear HN ho2 hx2 HR HO hO hz hm1
      by_cases hlo : (l : Int) ≤ (O : Int)
      · obtain ⟨OO, hOO⟩ : ∃ OO, OO = O - l := ⟨_, rfl⟩
        have i17 : IntKind.i64.wrap ((O : Int) - (l : Int)) = (OO : Int) := w64 (by omega) (by omega) (by have := HF.out; omega)
        have hm := HM.out
        obtain ⟨aj, haj⟩ : ∃ aj, aj = a + OO := ⟨_, rfl⟩
        have i13 : IntKind.i64.wrap ((a : Int) + (OO : Int)) = (aj : Int) := w64 (by omega) (by have := HF.out; omega) (by have := HF.out; omega)
        have i14 : (aj : Int) < (d.size : Int) := by have := HF.out; omega
        have i15 : (m : Int) < (d.size : Int) := by have := HF.out; omega
        obtain ⟨q0, q1, q2, q3, ⟨fz0, fz1, fz2, fz3⟩, ⟨u, uu, q4, q5, q6⟩, HRS, HOS⟩ := swap_step HR2.out m aj (by have := HF.out; omega) (by have := HF.out; omega) HO2.out rfl rfl
        generalize d'[m]! = x at q0 q1 q2 q3 q4 q5 q6 HRS HOS
        generalize d'[aj]! = y at q0 q1 q2 q3 q4 q5 q6 HRS HOS
        have HPS : Hid (PermIn a b d (swp d' m aj)) := Lib.hid (permIn_trans _ _ _ a b HP.out (swp_permIn d' a b m aj (by have := HF.out; omega) (by have := HF.out; omega) (by have := HF.out; omega) (by have := HF.out; omega) (by have := HF.out; omega)))
        have HXS : Hid (Xs ((((w2.setCell ⟨g, m * 2, none⟩ (.int .u64 y.1)).setCell ⟨g, m * 2 + 1, none⟩ (.int .i64 y.2)).setCell ⟨g, aj * 2, none⟩ (.int .u64 x.1)).setCell ⟨g, aj * 2 + 1, none⟩ (.int .i64 x.2)).drew s z) := Lib.hid (Blk.drewN (Blk.far (Blk.far (Blk.far (Blk.far HX2.out HF.out.2.2.2.2.2.2.2.2 _) HF.out.2.2.2.2.2.2.2.2 _) HF.out.2.2.2.2.2.2.2.2 _) HF.out.2.2.2.2.2.2.2.2 _) 1)
        clear HR2 HO2 HX2 HP hm haj hOO
        go_wp2_with (fail)
        go_region
        go_wp2_with (fail)
        go_roundg (2 - t)
        case measure => omega
        case rel => exact ⟨t + 1, m1, z, swp d' m aj, by omega, by omega, rfl, by have h1 := HM1.out; have h2 := HM.out; omega, HZ.out, by rw [size_swp]; exact hds, HPS.out, HRS.out, HOS.out, HXS.out⟩
      · obtain ⟨OO, hOO⟩ : ∃ OO, OO = O := ⟨_, rfl⟩
        have hm := HM.out
        rw [← hOO] at i12 e1 hlo hO2
        obtain ⟨aj, haj⟩ : ∃ aj, aj = a + OO := ⟨_, rfl⟩
        have i13 : IntKind.i64.wrap ((a : Int) + (OO : Int)) = (aj : Int) := w64 (by omega) (by have := HF.out; omega) (by have := HF.out; omega)
        have i14 : (aj : Int) < (d.size : Int) := by have := HF.out; omega
        have i15 : (m : Int) < (d.size : Int) := by have := HF.out; omega
        obtain ⟨q0, q1, q2, q3, ⟨fz0, fz1, fz2, fz3⟩, ⟨u, uu, q4, q5, q6⟩, HRS, HOS⟩ := swap_step HR2.out m aj (by have := HF.out; omega) (by have := HF.out; omega) HO2.out rfl rfl
        generalize d'[m]! = x at q0 q1 q2 q3 q4 q5 q6 HRS HOS
        generalize d'[aj]! = y at q0 q1 q2 q3 q4 q5 q6 HRS HOS
        have HPS : Hid (PermIn a b d (swp d' m aj)) := Lib.hid (permIn_trans _ _ _ a b HP.out (swp_permIn d' a b m aj (by have := HF.out; omega) (by have := HF.out; omega) (by have := HF.out; omega) (by have := HF.out; omega) (by have := HF.out; omega)))
        have HXS : Hid (Xs ((((w2.setCell ⟨g, m * 2, none⟩ (.int .u64 y.1)).setCell ⟨g, m * 2 + 1, none⟩ (.int .i64 y.2)).setCell ⟨g, aj * 2, none⟩ (.int .u64 x.1)).setCell ⟨g, aj * 2 + 1, none⟩ (.int .i64 x.2)).drew s z) := Lib.hid (Blk.drewN (Blk.far (Blk.far (Blk.far (Blk.far HX2.out HF.out.2.2.2.2.2.2.2.2 _) HF.out.2.2.2.2.2.2.2.2 _) HF.out.2.2.2.2.2.2.2.2 _) HF.out.2.2.2.2.2.2.2.2 _) 1)
        clear HR2 HO2 HX2 HP hm haj hOO
        go_wp2_with (fail)
        go_region
        go_wp2_with (fail)
        go_roundg (2 - t)
        case measure => omega
        case rel => exact ⟨t + 1, m1, z, swp d' m aj, by omega, by omega, rfl, by have h1 := HM1.out; have h2 := HM.out; omega, HZ.out, by rw [size_swp]; exact hds, HPS.out, HRS.out, HOS.out, HXS.out⟩
    · have i11 : ¬ (m : Int) ≤ (ap : Int) := by have := HF.out; omega
      clear hp hr ho hx hz0 hm
      go_wp2_with (fail)
      go_end0
      exact ⟨rfl, HO.out, d', HP.out, HR.out⟩
end Go.Proofs.YtgbjpobgjmkjgaaGreat.hso
