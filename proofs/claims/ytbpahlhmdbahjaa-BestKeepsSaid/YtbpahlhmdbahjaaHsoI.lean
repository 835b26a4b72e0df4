/-
  The contract of partialInsertionSortCmpFunc.
-/
import Derived.Test.YtbpahlhmdbahjaaHsoH
namespace Go.Proofs.Ytbpahlhmdbahjaa.hso
open Go.RowKit law bytes only flat hit heapM best Go.Sort Go.Shelf
set_option linter.unusedVariables false

section
variable {lt : Hit → Hit → Bool} {a b i j : Nat} {d : Array Hit}
theorem scan_go (h : i < b) (hl : lt d[i]! d[i - 1]! = false) : scanSorted lt d b i = scanSorted lt d b (i + 1) := by rw [scanSorted, if_pos (by simp [h, hl])]
theorem scan_no (hl : lt d[i]! d[i - 1]! = true) : scanSorted lt d b i = i := by rw [scanSorted, if_neg (by simp [hl])]
theorem scan_end (h : ¬ i < b) : scanSorted lt d b i = i := by rw [scanSorted, if_neg (by simp [h])]
theorem sup_go (h : j < b) (hl : lt d[j]! d[j - 1]! = true) : shiftUp lt b j d = shiftUp lt b (j + 1) (swp d j (j - 1)) := by rw [shiftUp, if_pos h, if_neg (by simp [hl])]
theorem sup_no (hl : lt d[j]! d[j - 1]! = false) : shiftUp lt b j d = d := by
  rw [shiftUp]
  split
  · rw [if_pos (by simp [hl])]
  · rfl
theorem sup_end (h : ¬ j < b) : shiftUp lt b j d = d := by rw [shiftUp, if_neg h]
theorem sdn_go (hj : 0 < j) (hl : lt d[j]! d[j - 1]! = true) : shiftDown lt j d = shiftDown lt (j - 1) (swp d j (j - 1)) := by
  obtain ⟨m, rfl⟩ : ∃ m, j = m + 1 := ⟨j - 1, by omega⟩
  rw [shiftDown, if_neg (by simp only [Nat.add_sub_cancel] at hl; simp [hl])]; rfl
theorem sdn_no (hl : lt d[j]! d[j - 1]! = false) : shiftDown lt j d = d := by
  cases j with
  | zero => rfl
  | succ m => rw [shiftDown, if_pos (by simp only [Nat.add_sub_cancel] at hl; simp [hl])]
theorem sdn_end (h : ¬ 0 < j) : shiftDown lt j d = d := by
  cases j with
  | zero => rfl
  | succ m => omega
end
set_option maxRecDepth 100000 in
set_option maxHeartbeats 12800000 in
theorem partial_any {hb K : Nat} {v : Value} {cf : Hit → Hit → Int} {base g c : Nat} {d : Array Hit} {w : World} (hc : Cm hb K v cf w) (hr : HRow w base g c d) (hne : hb ≠ g) (a b : Nat) (hab : a < b) (hb2 : b ≤ d.size) (hsz : d.size < 2305843009213693952) :
    Calls Try.prog 48 #[.slice (some ⟨g, 0, none⟩) d.size c, .int .i64 a, .int .i64 b, FV hb] w fun e w' =>
      e = .returned (.bool (partialInsertionSort (lf cf) d a b).2) ∧ Only (· = g) w w' ∧ HRow w' base g c (partialInsertionSort (lf cf) d a b).1 := by
  have HC := Lib.hid hc
  clear hc
  unfold FV
  obtain ⟨a1, ha1⟩ : ∃ a1, a1 = a + 1 := ⟨_, rfl⟩
  obtain ⟨l, hl⟩ : ∃ l, l = b - a := ⟨_, rfl⟩
  have i0 : IntKind.i64.wrap ((a : Int) + 1) = (a1 : Int) := w64 (by omega) (by omega) (by omega)
  have i1 : IntKind.i64.wrap ((b : Int) - (a : Int)) = (l : Int) := w64 (by omega) (by omega) (by omega)
  have HA1 := Lib.hid (And.intro ha1 hl)
  clear ha1 hl
  go_enter Try.func48, Try.ntmps48
  go_wp2_with (fail)
  go_loopg [9, 10, 11, 12] 5 (fun gk s9 s10 s11 s12 wr => ∃ (t i : Nat) (d' : Array Hit), gk = 5 - t ∧ s9 = .int .i64 i ∧ s10 = .int .i64 t ∧ t ≤ 5 ∧ a < i ∧ i ≤ b ∧ d'.size = d.size ∧ partialIns (lf cf) a b (5 - t) i d' = partialInsertionSort (lf cf) d a b ∧ HRow wr base g c d' ∧ Only (· = g) w wr)
  case atStart => exact ⟨0, a + 1, d, rfl, by rw [HA1.out.1], rfl, by omega, by omega, by omega, rfl, rfl, hr, Only.refl _ _⟩
  case round =>
    clear hr
    obtain ⟨t, i, d', rfl, rfl, rfl, ht, hi1, hi2, hds, heq, hr, ho⟩ := hrel
    by_cases ht5 : (t : Int) < 5
    · obtain ⟨w0, hw0⟩ : ∃ w0, w0 = wr := ⟨_, rfl⟩
      subst hw0
      have heq2 : (if scanSorted (lf cf) d' b i = b then (d', true) else if b - a < 50 then (d', false) else
          partialIns (lf cf) a b (5 - (t + 1)) (scanSorted (lf cf) d' b i) (fixUp (lf cf) b (scanSorted (lf cf) d' b i) (fixDown (lf cf) a (scanSorted (lf cf) d' b i) (swp d' (scanSorted (lf cf) d' b i) (scanSorted (lf cf) d' b i - 1))))) = partialInsertionSort (lf cf) d a b := by
        rw [← partialIns_succ, show 5 - (t + 1) + 1 = 5 - t by omega]; exact heq
      have HE := Lib.hid heq2
      clear heq heq2
      obtain ⟨t1, ht1⟩ : ∃ t1, t1 = t + 1 := ⟨_, rfl⟩
      have i9 : IntKind.i64.wrap ((t : Int) + 1) = ((t + 1 : Nat) : Int) := w64 (by omega) (by omega) (by omega)
      clear ht1
      go_wp2_with (fail)
      go_loopg [9] (b - i) (fun gk s wr => ∃ iu : Nat, gk = b - iu ∧ s = .int .i64 iu ∧ i ≤ iu ∧ iu ≤ b ∧ scanSorted (lf cf) d' b iu = scanSorted (lf cf) d' b i ∧ HRow wr base g c d' ∧ Only (· = g) w wr)
      case atStart => exact ⟨i, rfl, rfl, Nat.le_refl _, hi2, rfl, hr, ho⟩
      case round =>
        clear hr ho
        obtain ⟨iu, rfl, rfl, hiu1, hiu2, hsc, hr, ho⟩ := hrel
        have HSC := Lib.hid hsc
        clear hsc
        by_cases hib : (iu : Int) < (b : Int)
        · obtain ⟨im, him⟩ : ∃ im, im = iu - 1 := ⟨_, rfl⟩
          obtain ⟨ip, hip⟩ : ∃ ip, ip = iu + 1 := ⟨_, rfl⟩
          have k1 : IntKind.i64.wrap ((iu : Int) - 1) = (im : Int) := w64 (by omega) (by omega) (by omega)
          have k2 : IntKind.i64.wrap ((iu : Int) + 1) = (ip : Int) := w64 (by omega) (by omega) (by omega)
          have k3 : (iu : Int) < (d.size : Int) := by omega
          have k4 : (im : Int) < (d.size : Int) := by omega
          have HIM := Lib.hid him
          have HIP : Hid (ip = iu + 1) := Lib.hid hip
          have him2 : im < d'.size := by omega
          have hiu3 : iu < d'.size := by omega
          clear him hip
          obtain ⟨x, y, r, hx, hy, hl, HS, HCC, q0, q1, q2, q3⟩ := cmp_step (HC.out.only ho hne) hr iu im (by omega) (by omega)
          have HR := Lib.hid hr
          have HO := Lib.hid ho
          have HX := Lib.hid hx
          have HY := Lib.hid hy
          have HL := Lib.hid hl
          clear hr ho hx hy hl
          obtain ⟨o, hd⟩ : ∃ o, decide (r < 0) = o := ⟨_, rfl⟩
          rw [hd] at HL
          go_wp2_with (fail)
          go_region_held3 (fun W => W.cell? ⟨g, iu * 2, none⟩ = some (.int .u64 x.1) ∧ W.cell? ⟨g, iu * 2 + 1, none⟩ = some (.int .i64 x.2) ∧ W.cell? ⟨g, im * 2, none⟩ = some (.int .u64 y.1) ∧ W.cell? ⟨g, im * 2 + 1, none⟩ = some (.int .i64 y.2)) ((refine HS.out _ ?_; repeat' (first | (with_reducible exact Below.refl _ _) | (with_reducible assumption) | (with_reducible refine Below.drew ?_) | (with_reducible refine below_drewN' ?_ _))))
            (first
              | (go_at_call 36; (with_reducible refine (HCC.out _ (by repeat' (first | (with_reducible exact Below.refl _ _) | (with_reducible assumption) | (with_reducible refine Below.drew ?_) | (with_reducible refine below_drewN' ?_ _)))).mono ?_); rintro e w2 ⟨rfl, hb2⟩))
          have HR2 := Lib.hid (HR.out.below hb2 (Nat.le_refl _))
          have HO2 := Lib.hid (HO.out.on hb2)
          have HL2 : Hid (lf cf d'[iu]! d'[im]! = o) := Lib.hid (by rw [HX.out, HY.out]; exact HL.out)
          clear hb2 HCC HS HR HO q0 q1 q2 q3 HL
          cases o with
          | false =>
            have HST : Hid (scanSorted (lf cf) d' b ip = scanSorted (lf cf) d' b i) := Lib.hid (by rw [← HSC.out, HIP.out]; exact (scan_go (by omega) (by rw [← HIM.out]; exact HL2.out)).symm)
            clear HX HY hd HL2
            go_wp2_with (fail)
            go_roundg (b - ip)
            case measure => have := HIP.out; omega
            case rel => exact ⟨ip, rfl, rfl, by have := HIP.out; omega, by have := HIP.out; omega, HST.out, HR2.out, HO2.out⟩
          | true =>
            have hst : scanSorted (lf cf) d' b i = iu := by rw [← HSC.out]; exact scan_no (by rw [← HIM.out]; exact HL2.out)
            have HE2 := HE.out
            rw [hst, if_neg (by omega)] at HE2
            have hnib : ¬ (iu : Int) = (b : Int) := by omega
            by_cases h50 : (l : Int) < 50
            · rw [if_pos (by have := HA1.out; omega)] at HE2
              have HST := Lib.hid HE2
              clear hst HE2 HX HY hd HL2
              go_wp2_with (fail)
              refine bodyPost_ret (v := .bool false) (by simp [results, Try.results48, go_sem]) rfl ?_
              exact ⟨by rw [← HST.out], HO2.out, by rw [← HST.out]; exact HR2.out⟩
            · rw [if_neg (by have := HA1.out; omega)] at HE2
              obtain ⟨ia, hia⟩ : ∃ ia, ia = iu - a := ⟨_, rfl⟩
              obtain ⟨bi, hbie⟩ : ∃ bi, bi = b - iu := ⟨_, rfl⟩
              have k5 : IntKind.i64.wrap ((iu : Int) - (a : Int)) = (ia : Int) := w64 (by omega) (by omega) (by omega)
              have k6 : IntKind.i64.wrap ((b : Int) - (iu : Int)) = (bi : Int) := w64 (by omega) (by omega) (by omega)
              have HN := Lib.hid (And.intro hia hbie)
              rw [← HIM.out] at HE2
              have HF := Lib.hid HE2
              clear hst HE2 HL2 HE HSC hia hbie
              obtain ⟨q0, q1, q2, q3, ⟨fz0, fz1, fz2, fz3⟩, ⟨u, uu, q4, q5, q6⟩, HRS, HOS⟩ := swap_step HR2.out iu im (by omega) (by omega) HO2.out HX.out HY.out
              clear HR2 HO2 HX HY hd
              go_wp2_with (fail)
              go_region
              have hds1 : (swp d' iu im).size = d.size := by rw [size_swp]; exact hds
              generalize swp d' iu im = d1 at hds1 HRS HF
              generalize ((_ : World).setCell ⟨g, im * 2 + 1, none⟩ _).drew = w1 at HRS HOS ⊢
              clear q0 q1 q2 q3 fz0 fz1 fz2 fz3 q4 q5 q6
              by_cases hia2 : (2 : Int) ≤ (ia : Int)
              · go_wp2_with (fail)
                go_loopg [11] im (fun gk s wr => ∃ (jv : Nat) (d2 : Array Hit), jv = gk ∧ s = .int .i64 jv ∧ jv ≤ im ∧ d2.size = d.size ∧ shiftDown (lf cf) jv d2 = fixDown (lf cf) a iu d1 ∧ HRow wr base g c d2 ∧ Only (· = g) w wr)
                case atStart => exact ⟨im, d1, rfl, rfl, Nat.le_refl _, hds1, by have := HN.out; unfold fixDown; rw [if_pos (by omega), HIM.out], HRS.out, HOS.out⟩
                case round =>
                  clear HRS HOS
                  obtain ⟨jv, d2, rfl, rfl, hjv1, hds2, hsd, hr, ho⟩ := hrel
                  by_cases hj1 : (1 : Int) ≤ (jv : Int)
                  · obtain ⟨jm, hjm⟩ : ∃ jm, jm = jv - 1 := ⟨_, rfl⟩
                    have k7 : IntKind.i64.wrap ((jv : Int) - 1) = (jm : Int) := w64 (by omega) (by omega) (by omega)
                    have k8 : (jv : Int) < (d.size : Int) := by omega
                    have k9 : (jm : Int) < (d.size : Int) := by omega
                    have HJ := Lib.hid hjm
                    have hjm2 : jm < d2.size := by omega
                    have hjv3 : jv < d2.size := by omega
                    have HSD := Lib.hid hsd
                    clear hjm hsd
                    obtain ⟨x, y, r, hx, hy, hl, HS, HCC, q0, q1, q2, q3⟩ := cmp_step (HC.out.only ho hne) hr jv jm (by omega) (by omega)
                    have HR := Lib.hid hr
                    have HO := Lib.hid ho
                    have HX := Lib.hid hx
                    have HY := Lib.hid hy
                    have HL := Lib.hid hl
                    clear hr ho hx hy hl
                    obtain ⟨o, hd⟩ : ∃ o, decide (r < 0) = o := ⟨_, rfl⟩
                    rw [hd] at HL
                    go_wp2_with (fail)
                    go_region_held3 (fun W => W.cell? ⟨g, jv * 2, none⟩ = some (.int .u64 x.1) ∧ W.cell? ⟨g, jv * 2 + 1, none⟩ = some (.int .i64 x.2) ∧ W.cell? ⟨g, jm * 2, none⟩ = some (.int .u64 y.1) ∧ W.cell? ⟨g, jm * 2 + 1, none⟩ = some (.int .i64 y.2)) ((refine HS.out _ ?_; repeat' (first | (with_reducible exact Below.refl _ _) | (with_reducible assumption) | (with_reducible refine Below.drew ?_) | (with_reducible refine below_drewN' ?_ _))))
                      (first
                        | (go_at_call 36; (with_reducible refine (HCC.out _ (by repeat' (first | (with_reducible exact Below.refl _ _) | (with_reducible assumption) | (with_reducible refine Below.drew ?_) | (with_reducible refine below_drewN' ?_ _)))).mono ?_); rintro e w2 ⟨rfl, hb2⟩))
                    have HR2 := Lib.hid (HR.out.below hb2 (Nat.le_refl _))
                    have HO2 := Lib.hid (HO.out.on hb2)
                    have HL2 : Hid (lf cf d2[jv]! d2[jm]! = o) := Lib.hid (by rw [HX.out, HY.out]; exact HL.out)
                    clear hb2 HCC HS HR HO q0 q1 q2 q3 HL
                    cases o with
                    | true =>
                      obtain ⟨q0, q1, q2, q3, ⟨fz0, fz1, fz2, fz3⟩, ⟨u, uu, q4, q5, q6⟩, HRS, HOS⟩ := swap_step HR2.out jv jm (by omega) (by omega) HO2.out HX.out HY.out
                      clear HR2 HO2 HX HY hd
                      go_wp2_with (fail)
                      go_region
                      go_wp2_with (fail)
                      go_roundg jm
                      case measure => have := HJ.out; omega
                      case rel => exact ⟨jm, swp d2 jv jm, rfl, rfl, by have := HJ.out; omega, by rw [size_swp]; exact hds2, by rw [← HSD.out, HJ.out]; exact (sdn_go (by omega) (by rw [← HJ.out]; exact HL2.out)).symm, HRS.out, HOS.out⟩
                    | false =>
                      have HF2 : Hid (partialIns (lf cf) a b (5 - (t + 1)) iu (fixUp (lf cf) b iu d2) = partialInsertionSort (lf cf) d a b) := Lib.hid (by rw [← HF.out, ← HSD.out, sdn_no (by rw [← HJ.out]; exact HL2.out)])
                      have HB := HR2
                      have HOB := HO2
                      clear HX HY hd HL2 HR2 HO2 HF HSD hjm2 hjv3 k7 k8 k9
                      by_cases hbi : (2 : Int) ≤ (bi : Int)
                      · go_wp2_with (fail)
                        go_loopg [12] (b - (iu + 1)) (fun gk s wr => ∃ (jv : Nat) (d3 : Array Hit), gk = b - jv ∧ s = .int .i64 jv ∧ iu + 1 ≤ jv ∧ jv ≤ b ∧ d3.size = d.size ∧ shiftUp (lf cf) b jv d3 = fixUp (lf cf) b iu d2 ∧ HRow wr base g c d3 ∧ Only (· = g) w wr)
                        case atStart => exact ⟨iu + 1, d2, rfl, by rw [HIP.out], Nat.le_refl _, by omega, hds2, by have := HN.out; unfold fixUp; rw [if_pos (by omega)], HB.out, HOB.out⟩
                        case round =>
                          clear HB HOB
                          obtain ⟨jv, d3, rfl, rfl, hjv1, hjv2, hds3, hsu, hr, ho⟩ := hrel
                          by_cases hjb : (jv : Int) < (b : Int)
                          · obtain ⟨jm, hjm⟩ : ∃ jm, jm = jv - 1 := ⟨_, rfl⟩
                            obtain ⟨jp, hjp⟩ : ∃ jp, jp = jv + 1 := ⟨_, rfl⟩
                            have k1 : IntKind.i64.wrap ((jv : Int) - 1) = (jm : Int) := w64 (by omega) (by omega) (by omega)
                            have k2 : IntKind.i64.wrap ((jv : Int) + 1) = (jp : Int) := w64 (by omega) (by omega) (by omega)
                            have k3 : (jv : Int) < (d.size : Int) := by omega
                            have k4 : (jm : Int) < (d.size : Int) := by omega
                            have HJ := Lib.hid (And.intro hjm hjp)
                            have hjm2 : jm < d3.size := by omega
                            have hjv3 : jv < d3.size := by omega
                            have HSU := Lib.hid hsu
                            clear hjm hjp hsu
                            obtain ⟨x, y, r, hx, hy, hl, HS, HCC, q0, q1, q2, q3⟩ := cmp_step (HC.out.only ho hne) hr jv jm (by omega) (by omega)
                            have HR := Lib.hid hr
                            have HO := Lib.hid ho
                            have HX := Lib.hid hx
                            have HY := Lib.hid hy
                            have HL := Lib.hid hl
                            clear hr ho hx hy hl
                            obtain ⟨o, hd⟩ : ∃ o, decide (r < 0) = o := ⟨_, rfl⟩
                            rw [hd] at HL
                            go_wp2_with (fail)
                            go_region_held3 (fun W => W.cell? ⟨g, jv * 2, none⟩ = some (.int .u64 x.1) ∧ W.cell? ⟨g, jv * 2 + 1, none⟩ = some (.int .i64 x.2) ∧ W.cell? ⟨g, jm * 2, none⟩ = some (.int .u64 y.1) ∧ W.cell? ⟨g, jm * 2 + 1, none⟩ = some (.int .i64 y.2)) ((refine HS.out _ ?_; repeat' (first | (with_reducible exact Below.refl _ _) | (with_reducible assumption) | (with_reducible refine Below.drew ?_) | (with_reducible refine below_drewN' ?_ _))))
                              (first
                                | (go_at_call 36; (with_reducible refine (HCC.out _ (by repeat' (first | (with_reducible exact Below.refl _ _) | (with_reducible assumption) | (with_reducible refine Below.drew ?_) | (with_reducible refine below_drewN' ?_ _)))).mono ?_); rintro e w2 ⟨rfl, hb2⟩))
                            have HR2 := Lib.hid (HR.out.below hb2 (Nat.le_refl _))
                            have HO2 := Lib.hid (HO.out.on hb2)
                            have HL2 : Hid (lf cf d3[jv]! d3[jm]! = o) := Lib.hid (by rw [HX.out, HY.out]; exact HL.out)
                            clear hb2 HCC HS HR HO q0 q1 q2 q3 HL
                            cases o with
                            | true =>
                              obtain ⟨q0, q1, q2, q3, ⟨fz0, fz1, fz2, fz3⟩, ⟨u, uu, q4, q5, q6⟩, HRS, HOS⟩ := swap_step HR2.out jv jm (by omega) (by omega) HO2.out HX.out HY.out
                              clear HR2 HO2 HX HY hd
                              go_wp2_with (fail)
                              go_region
                              go_wp2_with (fail)
                              go_roundg (b - jp)
                              case measure => have := HJ.out; omega
                              case rel => exact ⟨jp, swp d3 jv jm, rfl, rfl, by have := HJ.out; omega, by have := HJ.out; omega, by rw [size_swp]; exact hds3, by rw [← HSU.out, HJ.out.1, HJ.out.2]; exact (sup_go (by omega) (by rw [← HJ.out.1]; exact HL2.out)).symm, HRS.out, HOS.out⟩
                            | false =>
                              have HFX : Hid (partialIns (lf cf) a b (5 - (t + 1)) iu d3 = partialInsertionSort (lf cf) d a b) := Lib.hid (by rw [← HF2.out, ← HSU.out, sup_no (by rw [← HJ.out.1]; exact HL2.out)])
                              clear HX HY hd HL2
                              go_wp2_with (fail)
                              go_roundg (5 - (t + 1))
                              case measure => omega
                              case rel => exact ⟨t + 1, iu, d3, rfl, rfl, rfl, by omega, by omega, by omega, hds3, HFX.out, HR2.out, HO2.out⟩
                          · have HFX : Hid (partialIns (lf cf) a b (5 - (t + 1)) iu d3 = partialInsertionSort (lf cf) d a b) := Lib.hid (by rw [← HF2.out, ← hsu, sup_end (by omega)])
                            have HR2 := Lib.hid hr
                            have HO2 := Lib.hid ho
                            clear hr ho hsu
                            go_wp2_with (fail)
                            go_roundg (5 - (t + 1))
                            case measure => omega
                            case rel => exact ⟨t + 1, iu, d3, rfl, rfl, rfl, by omega, by omega, by omega, hds3, HFX.out, HR2.out, HO2.out⟩
                      · have HFX : Hid (partialIns (lf cf) a b (5 - (t + 1)) iu d2 = partialInsertionSort (lf cf) d a b) := Lib.hid (by have := HN.out; rw [← HF2.out]; unfold fixUp; rw [if_neg (by omega)])
                        go_wp2_with (fail)
                        go_roundg (5 - (t + 1))
                        case measure => omega
                        case rel => exact ⟨t + 1, iu, d2, rfl, rfl, rfl, by omega, by omega, by omega, hds2, HFX.out, HB.out, HOB.out⟩
                  · have HF2 : Hid (partialIns (lf cf) a b (5 - (t + 1)) iu (fixUp (lf cf) b iu d2) = partialInsertionSort (lf cf) d a b) := Lib.hid (by rw [← HF.out, ← hsd, sdn_end (by omega)])
                    have HB := Lib.hid hr
                    have HOB := Lib.hid ho
                    clear hr ho HF hsd
                    by_cases hbi : (2 : Int) ≤ (bi : Int)
                    · go_wp2_with (fail)
                      go_loopg [12] (b - (iu + 1)) (fun gk s wr => ∃ (jv : Nat) (d3 : Array Hit), gk = b - jv ∧ s = .int .i64 jv ∧ iu + 1 ≤ jv ∧ jv ≤ b ∧ d3.size = d.size ∧ shiftUp (lf cf) b jv d3 = fixUp (lf cf) b iu d2 ∧ HRow wr base g c d3 ∧ Only (· = g) w wr)
                      case atStart => exact ⟨iu + 1, d2, rfl, by rw [HIP.out], Nat.le_refl _, by omega, hds2, by have := HN.out; unfold fixUp; rw [if_pos (by omega)], HB.out, HOB.out⟩
                      case round =>
                        clear HB HOB
                        obtain ⟨jv, d3, rfl, rfl, hjv1, hjv2, hds3, hsu, hr, ho⟩ := hrel
                        by_cases hjb : (jv : Int) < (b : Int)
                        · obtain ⟨jm, hjm⟩ : ∃ jm, jm = jv - 1 := ⟨_, rfl⟩
                          obtain ⟨jp, hjp⟩ : ∃ jp, jp = jv + 1 := ⟨_, rfl⟩
                          have k1 : IntKind.i64.wrap ((jv : Int) - 1) = (jm : Int) := w64 (by omega) (by omega) (by omega)
                          have k2 : IntKind.i64.wrap ((jv : Int) + 1) = (jp : Int) := w64 (by omega) (by omega) (by omega)
                          have k3 : (jv : Int) < (d.size : Int) := by omega
                          have k4 : (jm : Int) < (d.size : Int) := by omega
                          have HJ := Lib.hid (And.intro hjm hjp)
                          have hjm2 : jm < d3.size := by omega
                          have hjv3 : jv < d3.size := by omega
                          have HSU := Lib.hid hsu
                          clear hjm hjp hsu
                          obtain ⟨x, y, r, hx, hy, hl, HS, HCC, q0, q1, q2, q3⟩ := cmp_step (HC.out.only ho hne) hr jv jm (by omega) (by omega)
                          have HR := Lib.hid hr
                          have HO := Lib.hid ho
                          have HX := Lib.hid hx
                          have HY := Lib.hid hy
                          have HL := Lib.hid hl
                          clear hr ho hx hy hl
                          obtain ⟨o, hd⟩ : ∃ o, decide (r < 0) = o := ⟨_, rfl⟩
                          rw [hd] at HL
                          go_wp2_with (fail)
                          go_region_held3 (fun W => W.cell? ⟨g, jv * 2, none⟩ = some (.int .u64 x.1) ∧ W.cell? ⟨g, jv * 2 + 1, none⟩ = some (.int .i64 x.2) ∧ W.cell? ⟨g, jm * 2, none⟩ = some (.int .u64 y.1) ∧ W.cell? ⟨g, jm * 2 + 1, none⟩ = some (.int .i64 y.2)) ((refine HS.out _ ?_; repeat' (first | (with_reducible exact Below.refl _ _) | (with_reducible assumption) | (with_reducible refine Below.drew ?_) | (with_reducible refine below_drewN' ?_ _))))
                            (first
                              | (go_at_call 36; (with_reducible refine (HCC.out _ (by repeat' (first | (with_reducible exact Below.refl _ _) | (with_reducible assumption) | (with_reducible refine Below.drew ?_) | (with_reducible refine below_drewN' ?_ _)))).mono ?_); rintro e w2 ⟨rfl, hb2⟩))
                          have HR2 := Lib.hid (HR.out.below hb2 (Nat.le_refl _))
                          have HO2 := Lib.hid (HO.out.on hb2)
                          have HL2 : Hid (lf cf d3[jv]! d3[jm]! = o) := Lib.hid (by rw [HX.out, HY.out]; exact HL.out)
                          clear hb2 HCC HS HR HO q0 q1 q2 q3 HL
                          cases o with
                          | true =>
                            obtain ⟨q0, q1, q2, q3, ⟨fz0, fz1, fz2, fz3⟩, ⟨u, uu, q4, q5, q6⟩, HRS, HOS⟩ := swap_step HR2.out jv jm (by omega) (by omega) HO2.out HX.out HY.out
                            clear HR2 HO2 HX HY hd
                            go_wp2_with (fail)
                            go_region
                            go_wp2_with (fail)
                            go_roundg (b - jp)
                            case measure => have := HJ.out; omega
                            case rel => exact ⟨jp, swp d3 jv jm, rfl, rfl, by have := HJ.out; omega, by have := HJ.out; omega, by rw [size_swp]; exact hds3, by rw [← HSU.out, HJ.out.1, HJ.out.2]; exact (sup_go (by omega) (by rw [← HJ.out.1]; exact HL2.out)).symm, HRS.out, HOS.out⟩
                          | false =>
                            have HFX : Hid (partialIns (lf cf) a b (5 - (t + 1)) iu d3 = partialInsertionSort (lf cf) d a b) := Lib.hid (by rw [← HF2.out, ← HSU.out, sup_no (by rw [← HJ.out.1]; exact HL2.out)])
                            clear HX HY hd HL2
                            go_wp2_with (fail)
                            go_roundg (5 - (t + 1))
                            case measure => omega
                            case rel => exact ⟨t + 1, iu, d3, rfl, rfl, rfl, by omega, by omega, by omega, hds3, HFX.out, HR2.out, HO2.out⟩
                        · have HFX : Hid (partialIns (lf cf) a b (5 - (t + 1)) iu d3 = partialInsertionSort (lf cf) d a b) := Lib.hid (by rw [← HF2.out, ← hsu, sup_end (by omega)])
                          have HR2 := Lib.hid hr
                          have HO2 := Lib.hid ho
                          clear hr ho hsu
                          go_wp2_with (fail)
                          go_roundg (5 - (t + 1))
                          case measure => omega
                          case rel => exact ⟨t + 1, iu, d3, rfl, rfl, rfl, by omega, by omega, by omega, hds3, HFX.out, HR2.out, HO2.out⟩
                    · have HFX : Hid (partialIns (lf cf) a b (5 - (t + 1)) iu d2 = partialInsertionSort (lf cf) d a b) := Lib.hid (by have := HN.out; rw [← HF2.out]; unfold fixUp; rw [if_neg (by omega)])
                      go_wp2_with (fail)
                      go_roundg (5 - (t + 1))
                      case measure => omega
                      case rel => exact ⟨t + 1, iu, d2, rfl, rfl, rfl, by omega, by omega, by omega, hds2, HFX.out, HB.out, HOB.out⟩
              · have HF2 : Hid (partialIns (lf cf) a b (5 - (t + 1)) iu (fixUp (lf cf) b iu d1) = partialInsertionSort (lf cf) d a b) := Lib.hid (by have := HN.out; rw [← HF.out]; unfold fixDown; rw [if_neg (by omega)])
                have HB := HRS
                have HOB := HOS
                have hds2 := hds1
                obtain ⟨d2, hd2⟩ : ∃ d2, d2 = d1 := ⟨_, rfl⟩
                rw [← hd2] at HB hds2 HF2
                clear HRS HOS HF hd2 hds1
                by_cases hbi : (2 : Int) ≤ (bi : Int)
                · go_wp2_with (fail)
                  go_loopg [12] (b - (iu + 1)) (fun gk s wr => ∃ (jv : Nat) (d3 : Array Hit), gk = b - jv ∧ s = .int .i64 jv ∧ iu + 1 ≤ jv ∧ jv ≤ b ∧ d3.size = d.size ∧ shiftUp (lf cf) b jv d3 = fixUp (lf cf) b iu d2 ∧ HRow wr base g c d3 ∧ Only (· = g) w wr)
                  case atStart => exact ⟨iu + 1, d2, rfl, by rw [HIP.out], Nat.le_refl _, by omega, hds2, by have := HN.out; unfold fixUp; rw [if_pos (by omega)], HB.out, HOB.out⟩
                  case round =>
                    clear HB HOB
                    obtain ⟨jv, d3, rfl, rfl, hjv1, hjv2, hds3, hsu, hr, ho⟩ := hrel
                    by_cases hjb : (jv : Int) < (b : Int)
                    · obtain ⟨jm, hjm⟩ : ∃ jm, jm = jv - 1 := ⟨_, rfl⟩
                      obtain ⟨jp, hjp⟩ : ∃ jp, jp = jv + 1 := ⟨_, rfl⟩
                      have k1 : IntKind.i64.wrap ((jv : Int) - 1) = (jm : Int) := w64 (by omega) (by omega) (by omega)
                      have k2 : IntKind.i64.wrap ((jv : Int) + 1) = (jp : Int) := w64 (by omega) (by omega) (by omega)
                      have k3 : (jv : Int) < (d.size : Int) := by omega
                      have k4 : (jm : Int) < (d.size : Int) := by omega
                      have HJ := Lib.hid (And.intro hjm hjp)
                      have hjm2 : jm < d3.size := by omega
                      have hjv3 : jv < d3.size := by omega
                      have HSU := Lib.hid hsu
                      clear hjm hjp hsu
                      obtain ⟨x, y, r, hx, hy, hl, HS, HCC, q0, q1, q2, q3⟩ := cmp_step (HC.out.only ho hne) hr jv jm (by omega) (by omega)
                      have HR := Lib.hid hr
                      have HO := Lib.hid ho
                      have HX := Lib.hid hx
                      have HY := Lib.hid hy
                      have HL := Lib.hid hl
                      clear hr ho hx hy hl
                      obtain ⟨o, hd⟩ : ∃ o, decide (r < 0) = o := ⟨_, rfl⟩
                      rw [hd] at HL
                      go_wp2_with (fail)
                      go_region_held3 (fun W => W.cell? ⟨g, jv * 2, none⟩ = some (.int .u64 x.1) ∧ W.cell? ⟨g, jv * 2 + 1, none⟩ = some (.int .i64 x.2) ∧ W.cell? ⟨g, jm * 2, none⟩ = some (.int .u64 y.1) ∧ W.cell? ⟨g, jm * 2 + 1, none⟩ = some (.int .i64 y.2)) ((refine HS.out _ ?_; repeat' (first | (with_reducible exact Below.refl _ _) | (with_reducible assumption) | (with_reducible refine Below.drew ?_) | (with_reducible refine below_drewN' ?_ _))))
                        (first
                          | (go_at_call 36; (with_reducible refine (HCC.out _ (by repeat' (first | (with_reducible exact Below.refl _ _) | (with_reducible assumption) | (with_reducible refine Below.drew ?_) | (with_reducible refine below_drewN' ?_ _)))).mono ?_); rintro e w2 ⟨rfl, hb2⟩))
                      have HR2 := Lib.hid (HR.out.below hb2 (Nat.le_refl _))
                      have HO2 := Lib.hid (HO.out.on hb2)
                      have HL2 : Hid (lf cf d3[jv]! d3[jm]! = o) := Lib.hid (by rw [HX.out, HY.out]; exact HL.out)
                      clear hb2 HCC HS HR HO q0 q1 q2 q3 HL
                      cases o with
                      | true =>
                        obtain ⟨q0, q1, q2, q3, ⟨fz0, fz1, fz2, fz3⟩, ⟨u, uu, q4, q5, q6⟩, HRS, HOS⟩ := swap_step HR2.out jv jm (by omega) (by omega) HO2.out HX.out HY.out
                        clear HR2 HO2 HX HY hd
                        go_wp2_with (fail)
                        go_region
                        go_wp2_with (fail)
                        go_roundg (b - jp)
                        case measure => have := HJ.out; omega
                        case rel => exact ⟨jp, swp d3 jv jm, rfl, rfl, by have := HJ.out; omega, by have := HJ.out; omega, by rw [size_swp]; exact hds3, by rw [← HSU.out, HJ.out.1, HJ.out.2]; exact (sup_go (by omega) (by rw [← HJ.out.1]; exact HL2.out)).symm, HRS.out, HOS.out⟩
                      | false =>
                        have HFX : Hid (partialIns (lf cf) a b (5 - (t + 1)) iu d3 = partialInsertionSort (lf cf) d a b) := Lib.hid (by rw [← HF2.out, ← HSU.out, sup_no (by rw [← HJ.out.1]; exact HL2.out)])
                        clear HX HY hd HL2
                        go_wp2_with (fail)
                        go_roundg (5 - (t + 1))
                        case measure => omega
                        case rel => exact ⟨t + 1, iu, d3, rfl, rfl, rfl, by omega, by omega, by omega, hds3, HFX.out, HR2.out, HO2.out⟩
                    · have HFX : Hid (partialIns (lf cf) a b (5 - (t + 1)) iu d3 = partialInsertionSort (lf cf) d a b) := Lib.hid (by rw [← HF2.out, ← hsu, sup_end (by omega)])
                      have HR2 := Lib.hid hr
                      have HO2 := Lib.hid ho
                      clear hr ho hsu
                      go_wp2_with (fail)
                      go_roundg (5 - (t + 1))
                      case measure => omega
                      case rel => exact ⟨t + 1, iu, d3, rfl, rfl, rfl, by omega, by omega, by omega, hds3, HFX.out, HR2.out, HO2.out⟩
                · have HFX : Hid (partialIns (lf cf) a b (5 - (t + 1)) iu d2 = partialInsertionSort (lf cf) d a b) := Lib.hid (by have := HN.out; rw [← HF2.out]; unfold fixUp; rw [if_neg (by omega)])
                  go_wp2_with (fail)
                  go_roundg (5 - (t + 1))
                  case measure => omega
                  case rel => exact ⟨t + 1, iu, d2, rfl, rfl, rfl, by omega, by omega, by omega, hds2, HFX.out, HB.out, HOB.out⟩
        · have hst : scanSorted (lf cf) d' b i = b := by rw [← HSC.out, scan_end (by omega)]; omega
          have HE2 := HE.out
          rw [if_pos hst] at HE2
          have HST := Lib.hid HE2
          have HR2 : Hid (HRow wr base g c d') := Lib.hid hr
          have HO2 : Hid (Only (· = g) w wr) := Lib.hid ho
          have hnib : (iu : Int) = (b : Int) := by omega
          clear hst HE2 HE HSC hr ho
          go_wp2_with (fail)
          go_region
          go_wp2_with (fail)
          refine bodyPost_ret (v := .bool true) (by simp [results, Try.results48, go_sem]) rfl ?_
          exact ⟨by rw [← HST.out], HO2.out.drew, by rw [← HST.out]; exact HR2.out.drew_⟩
    · have hst : (d', false) = partialInsertionSort (lf cf) d a b := by rw [← heq, show 5 - t = 0 by omega]; rfl
      have HST := Lib.hid hst
      have HR2 := Lib.hid hr
      have HO2 := Lib.hid ho
      clear hst heq hr ho
      go_wp2_with (fail)
      refine bodyPost_ret (v := .bool false) (by simp [results, Try.results48, go_sem]) rfl ?_
      exact ⟨by rw [← HST.out], HO2.out, by rw [← HST.out]; exact HR2.out⟩
end Go.Proofs.Ytbpahlhmdbahjaa.hso
