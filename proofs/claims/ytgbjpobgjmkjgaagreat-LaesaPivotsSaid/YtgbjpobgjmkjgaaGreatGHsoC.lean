/-
  Several texts in one.
-/
import Derived.Test.YtgbjpobgjmkjgaaGreatGHsoA
import Derived.Test.YtgbjpobgjmkjgaaGreatGHsoB
import Derived.Deep.Cut
import Derived.Deep.CutRange
set_option maxRecDepth 100000
/-
  The contract of partialInsertionSortCmpFunc.
-/
namespace Go.Proofs.YtgbjpobgjmkjgaaGreat.hso
open Go.RowKit law bytes only flat hit heapM best Go.Sort Go.Shelf
set_option linter.unusedVariables false

section
variable {lt : Hit → Hit → Bool} {a b i j : Nat} {d : Array Hit}
theorem scan_go (h : i < b) (hl : lt d[i]! d[i - 1]! = false) : scanSorted lt d b i = scanSorted lt d b (i + 1) := by rw [scanSorted, if_pos (by simp [h, hl])]
theorem scan_no (hl : lt d[i]! d[i - 1]! = true) : scanSorted lt d b i = i := by rw [scanSorted, if_neg (by simp [hl])]
theorem scan_end (h : ¬ i < b) : scanSorted lt d b i = i := by rw [scanSorted, if_neg (by simp [h])]
theorem sup_go (h : j < b) (hl : lt d[j]! d[j - 1]! = true) : shiftUp lt b j d = shiftUp lt b (j + 1) (swp d j (j - 1)) := by rw [shiftUp, if_pos h, if_neg (by simp [hl])]
theorem sup_no (hl : lt d[j]! d[j - 1]! = false) : shiftUp lt b j d = d := by
  rw [shiftUp]
  split
  · rw [if_pos (by simp [hl])]
  · rfl
theorem sup_end (h : ¬ j < b) : shiftUp lt b j d = d := by rw [shiftUp, if_neg h]
theorem sdn_go (hj : 0 < j) (hl : lt d[j]! d[j - 1]! = true) : shiftDown lt j d = shiftDown lt (j - 1) (swp d j (j - 1)) := by
  obtain ⟨m, rfl⟩ : ∃ m, j = m + 1 := ⟨j - 1, by omega⟩
  rw [shiftDown, if_neg (by simp only [Nat.add_sub_cancel] at hl; simp [hl])]; rfl
theorem sdn_no (hl : lt d[j]! d[j - 1]! = false) : shiftDown lt j d = d := by
  cases j with
  | zero => rfl
  | succ m => rw [shiftDown, if_pos (by simp only [Nat.add_sub_cancel] at hl; simp [hl])]
theorem sdn_end (h : ¬ 0 < j) : shiftDown lt j d = d := by
  cases j with
  | zero => rfl
  | succ m => omega
end
set_option maxRecDepth 100000 in
set_option maxHeartbeats 12800000 in
theorem partial_any {hb K : Nat} {v : Value} {cf : Hit → Hit → Int} {base g c : Nat} {d : Array Hit} {w : World} (hc : Cm hb K v cf w) (hr : HRow w base g c d) (hne : hb ≠ g) (a b : Nat) (hab : a < b) (hb2 : b ≤ d.size) (hsz : d.size < 2305843009213693952) :
    Calls Tryz.prog 196 #[.slice (some ⟨g, 0, none⟩) d.size c, .int .i64 a, .int .i64 b, FV hb] w fun e w' =>
      e = .returned (.bool (partialInsertionSort (lf cf) d a b).2) ∧ Only (· = g) w w' ∧ HRow w' base g c (partialInsertionSort (lf cf) d a b).1 := by
  have HC := Lib.hid hc
  clear hc
  unfold FV
  obtain ⟨a1, ha1⟩ : ∃ a1, a1 = a + 1 := ⟨_, rfl⟩
  obtain ⟨l, hl⟩ : ∃ l, l = b - a := ⟨_, rfl⟩
  have i0 : IntKind.i64.wrap ((a : Int) + 1) = (a1 : Int) := w64 (by omega) (by omega) (by omega)
  have i1 : IntKind.i64.wrap ((b : Int) - (a : Int)) = (l : Int) := w64 (by omega) (by omega) (by omega)
  have HA1 := Lib.hid (And.intro ha1 hl)
  clear ha1 hl
  go_enter Tryz.func196, Tryz.ntmps196
  go_wp2_with (fail)
  go_loopg [9, 10, 11, 12] 5 (fun gk s9 s10 s11 s12 wr => ∃ (t i : Nat) (d' : Array Hit), gk = 5 - t ∧ s9 = .int .i64 i ∧ s10 = .int .i64 t ∧ t ≤ 5 ∧ a < i ∧ i ≤ b ∧ d'.size = d.size ∧ partialIns (lf cf) a b (5 - t) i d' = partialInsertionSort (lf cf) d a b ∧ HRow wr base g c d' ∧ Only (· = g) w wr)
  case atStart => exact ⟨0, a + 1, d, rfl, by rw [HA1.out.1], rfl, by omega, by omega, by omega, rfl, rfl, hr, Only.refl _ _⟩
  case round =>
    clear hr
    obtain ⟨t, i, d', rfl, rfl, rfl, ht, hi1, hi2, hds, heq, hr, ho⟩ := hrel
    by_cases ht5 : (t : Int) < 5
    · obtain ⟨w0, hw0⟩ : ∃ w0, w0 = wr := ⟨_, rfl⟩
      subst hw0
      have heq2 : (if scanSorted (lf cf) d' b i = b then (d', true) else if b - a < 50 then (d', false) else
          partialIns (lf cf) a b (5 - (t + 1)) (scanSorted (lf cf) d' b i) (fixUp (lf cf) b (scanSorted (lf cf) d' b i) (fixDown (lf cf) a (scanSorted (lf cf) d' b i) (swp d' (scanSorted (lf cf) d' b i) (scanSorted (lf cf) d' b i - 1))))) = partialInsertionSort (lf cf) d a b := by
        rw [← partialIns_succ, show 5 - (t + 1) + 1 = 5 - t by omega]; exact heq
      have HE := Lib.hid heq2
      clear heq heq2
      obtain ⟨t1, ht1⟩ : ∃ t1, t1 = t + 1 := ⟨_, rfl⟩
      have i9 : IntKind.i64.wrap ((t : Int) + 1) = ((t + 1 : Nat) : Int) := w64 (by omega) (by omega) (by omega)
      clear ht1
      go_wp2_with (fail)
      go_loopg [9] (b - i) (fun gk s wr => ∃ iu : Nat, gk = b - iu ∧ s = .int .i64 iu ∧ i ≤ iu ∧ iu ≤ b ∧ scanSorted (lf cf) d' b iu = scanSorted (lf cf) d' b i ∧ HRow wr base g c d' ∧ Only (· = g) w wr)
      case atStart => exact ⟨i, rfl, rfl, Nat.le_refl _, hi2, rfl, hr, ho⟩
      case round =>
        clear hr ho
        obtain ⟨iu, rfl, rfl, hiu1, hiu2, hsc, hr, ho⟩ := hrel
        have HSC := Lib.hid hsc
        clear hsc
        by_cases hib : (iu : Int) < (b : Int)
        · obtain ⟨im, him⟩ : ∃ im, im = iu - 1 := ⟨_, rfl⟩
          obtain ⟨ip, hip⟩ : ∃ ip, ip = iu + 1 := ⟨_, rfl⟩
          have k1 : IntKind.i64.wrap ((iu : Int) - 1) = (im : Int) := w64 (by omega) (by omega) (by omega)
          have k2 : IntKind.i64.wrap ((iu : Int) + 1) = (ip : Int) := w64 (by omega) (by omega) (by omega)
          have k3 : (iu : Int) < (d.size : Int) := by omega
          have k4 : (im : Int) < (d.size : Int) := by omega
          have HIM := Lib.hid him
          have HIP : Hid (ip = iu + 1) := Lib.hid hip
          have him2 : im < d'.size := by omega
          have hiu3 : iu < d'.size := by omega
          clear him hip
          obtain ⟨x, y, r, hx, hy, hl, HS, HCC, q0, q1, q2, q3⟩ := cmp_step (HC.out.only ho hne) hr iu im (by omega) (by omega)
          have HR := Lib.hid hr
          have HO := Lib.hid ho
          have HX := Lib.hid hx
          have HY := Lib.hid hy
          have HL := Lib.hid hl
          clear hr ho hx hy hl
          obtain ⟨o, hd⟩ : ∃ o, decide (r < 0) = o := ⟨_, rfl⟩
          rw [hd] at HL
          go_wp2_with (fail)
          go_region_held3 (fun W => W.cell? ⟨g, iu * 2, none⟩ = some (.int .u64 x.1) ∧ W.cell? ⟨g, iu * 2 + 1, none⟩ = some (.int .i64 x.2) ∧ W.cell? ⟨g, im * 2, none⟩ = some (.int .u64 y.1) ∧ W.cell? ⟨g, im * 2 + 1, none⟩ = some (.int .i64 y.2)) ((refine HS.out _ ?_; repeat' (first | (with_reducible exact Below.refl _ _) | (with_reducible assumption) | (with_reducible refine Below.drew ?_) | (with_reducible refine below_drewN' ?_ _))))
            (first
              | (go_at_call 150; (with_reducible refine (HCC.out _ (by repeat' (first | (with_reducible exact Below.refl _ _) | (with_reducible assumption) | (with_reducible refine Below.drew ?_) | (with_reducible refine below_drewN' ?_ _)))).mono ?_); rintro e w2 ⟨rfl, hb2⟩))
          have HR2 := Lib.hid (HR.out.below hb2 (Nat.le_refl _))
          have HO2 := Lib.hid (HO.out.on hb2)
          have HL2 : Hid (lf cf d'[iu]! d'[im]! = o) := Lib.hid (by rw [HX.out, HY.out]; exact HL.out)
          clear hb2 HCC HS HR HO q0 q1 q2 q3 HL
          cases o with
          | false =>
            have HST : Hid (scanSorted (lf cf) d' b ip = scanSorted (lf cf) d' b i) := Lib.hid (by rw [← HSC.out, HIP.out]; exact (scan_go (by omega) (by rw [← HIM.out]; exact HL2.out)).symm)
            clear HX HY hd HL2
            go_wp2_with (fail)
            go_roundg (b - ip)
            case measure => have := HIP.out; omega
            case rel => exact ⟨ip, rfl, rfl, by have := HIP.out; omega, by have := HIP.out; omega, HST.out, HR2.out, HO2.out⟩
          | true =>
            have hst : scanSorted (lf cf) d' b i = iu := by rw [← HSC.out]; exact scan_no (by rw [← HIM.out]; exact HL2.out)
            have HE2 := HE.out
            rw [hst, if_neg (by omega)] at HE2
            have hnib : ¬ (iu : Int) = (b : Int) := by omega
            by_cases h50 : (l : Int) < 50
            · rw [if_pos (by have := HA1.out; omega)] at HE2
              have HST := Lib.hid HE2
              clear hst HE2 HX HY hd HL2
              go_wp2_with (fail)
              refine bodyPost_ret (v := .bool false) (by simp [results, Tryz.results196, go_sem]) rfl ?_
              exact ⟨by rw [← HST.out], HO2.out, by rw [← HST.out]; exact HR2.out⟩
            · rw [if_neg (by have := HA1.out; omega)] at HE2
              obtain ⟨ia, hia⟩ : ∃ ia, ia = iu - a := ⟨_, rfl⟩
              obtain ⟨bi, hbie⟩ : ∃ bi, bi = b - iu := ⟨_, rfl⟩
              have k5 : IntKind.i64.wrap ((iu : Int) - (a : Int)) = (ia : Int) := w64 (by omega) (by omega) (by omega)
              have k6 : IntKind.i64.wrap ((b : Int) - (iu : Int)) = (bi : Int) := w64 (by omega) (by omega) (by omega)
              have HN := Lib.hid (And.intro hia hbie)
              rw [← HIM.out] at HE2
              have HF := Lib.hid HE2
              clear hst HE2 HL2 HE HSC hia hbie
              obtain ⟨q0, q1, q2, q3, ⟨fz0, fz1, fz2, fz3⟩, ⟨u, uu, q4, q5, q6⟩, HRS, HOS⟩ := swap_step HR2.out iu im (by omega) (by omega) HO2.out HX.out HY.out
              clear HR2 HO2 HX HY hd
              go_wp2_with (fail)
              go_region
              have hds1 : (swp d' iu im).size = d.size := by rw [size_swp]; exact hds
              generalize swp d' iu im = d1 at hds1 HRS HF
              generalize ((_ : World).setCell ⟨g, im * 2 + 1, none⟩ _).drew = w1 at HRS HOS ⊢
              clear q0 q1 q2 q3 fz0 fz1 fz2 fz3 q4 q5 q6
              by_cases hia2 : (2 : Int) ≤ (ia : Int)
              · go_wp2_with (fail)
                go_loopg [11] im (fun gk s wr => ∃ (jv : Nat) (d2 : Array Hit), jv = gk ∧ s = .int .i64 jv ∧ jv ≤ im ∧ d2.size = d.size ∧ shiftDown (lf cf) jv d2 = fixDown (lf cf) a iu d1 ∧ HRow wr base g c d2 ∧ Only (· = g) w wr)
                case atStart => exact ⟨im, d1, rfl, rfl, Nat.le_refl _, hds1, by have := HN.out; unfold fixDown; rw [if_pos (by omega), HIM.out], HRS.out, HOS.out⟩
                case round =>
                  clear HRS HOS
                  obtain ⟨jv, d2, rfl, rfl, hjv1, hds2, hsd, hr, ho⟩ := hrel
                  by_cases hj1 : (1 : Int) ≤ (jv : Int)
                  · obtain ⟨jm, hjm⟩ : ∃ jm, jm = jv - 1 := ⟨_, rfl⟩
                    have k7 : IntKind.i64.wrap ((jv : Int) - 1) = (jm : Int) := w64 (by omega) (by omega) (by omega)
                    have k8 : (jv : Int) < (d.size : Int) := by omega
                    have k9 : (jm : Int) < (d.size : Int) := by omega
                    have HJ := Lib.hid hjm
                    have hjm2 : jm < d2.size := by omega
                    have hjv3 : jv < d2.size := by omega
                    have HSD := Lib.hid hsd
                    clear hjm hsd
                    obtain ⟨x, y, r, hx, hy, hl, HS, HCC, q0, q1, q2, q3⟩ := cmp_step (HC.out.only ho hne) hr jv jm (by omega) (by omega)
                    have HR := Lib.hid hr
                    have HO := Lib.hid ho
                    have HX := Lib.hid hx
                    have HY := Lib.hid hy
                    have HL := Lib.hid hl
                    clear hr ho hx hy hl
                    obtain ⟨o, hd⟩ : ∃ o, decide (r < 0) = o := ⟨_, rfl⟩
                    rw [hd] at HL
                    go_wp2_with (fail)
                    go_region_held3 (fun W => W.cell? ⟨g, jv * 2, none⟩ = some (.int .u64 x.1) ∧ W.cell? ⟨g, jv * 2 + 1, none⟩ = some (.int .i64 x.2) ∧ W.cell? ⟨g, jm * 2, none⟩ = some (.int .u64 y.1) ∧ W.cell? ⟨g, jm * 2 + 1, none⟩ = some (.int .i64 y.2)) ((refine HS.out _ ?_; repeat' (first | (with_reducible exact Below.refl _ _) | (with_reducible assumption) | (with_reducible refine Below.drew ?_) | (with_reducible refine below_drewN' ?_ _))))
                      (first
                        | (go_at_call 150; (with_reducible refine (HCC.out _ (by repeat' (first | (with_reducible exact Below.refl _ _) | (with_reducible assumption) | (with_reducible refine Below.drew ?_) | (with_reducible refine below_drewN' ?_ _)))).mono ?_); rintro e w2 ⟨rfl, hb2⟩))
                    have HR2 := Lib.hid (HR.out.below hb2 (Nat.le_refl _))
                    have HO2 := Lib.hid (HO.out.on hb2)
                    have HL2 : Hid (lf cf d2[jv]! d2[jm]! = o) := Lib.hid (by rw [HX.out, HY.out]; exact HL.out)
                    clear hb2 HCC HS HR HO q0 q1 q2 q3 HL
                    cases o with
                    | true =>
                      obtain ⟨q0, q1, q2, q3, ⟨fz0, fz1, fz2, fz3⟩, ⟨u, uu, q4, q5, q6⟩, HRS, HOS⟩ := swap_step HR2.out jv jm (by omega) (by omega) HO2.out HX.out HY.out
                      clear HR2 HO2 HX HY hd
                      go_wp2_with (fail)
                      go_region
                      go_wp2_with (fail)
                      go_roundg jm
                      case measure => have := HJ.out; omega
                      case rel => exact ⟨jm, swp d2 jv jm, rfl, rfl, by have := HJ.out; omega, by rw [size_swp]; exact hds2, by rw [← HSD.out, HJ.out]; exact (sdn_go (by omega) (by rw [← HJ.out]; exact HL2.out)).symm, HRS.out, HOS.out⟩
                    | false =>
                      have HF2 : Hid (partialIns (lf cf) a b (5 - (t + 1)) iu (fixUp (lf cf) b iu d2) = partialInsertionSort (lf cf) d a b) := Lib.hid (by rw [← HF.out, ← HSD.out, sdn_no (by rw [← HJ.out]; exact HL2.out)])
                      have HB := HR2
                      have HOB := HO2
                      clear HX HY hd HL2 HR2 HO2 HF HSD hjm2 hjv3 k7 k8 k9
                      by_cases hbi : (2 : Int) ≤ (bi : Int)
                      · go_wp2_with (fail)
                        go_loopg [12] (b - (iu + 1)) (fun gk s wr => ∃ (jv : Nat) (d3 : Array Hit), gk = b - jv ∧ s = .int .i64 jv ∧ iu + 1 ≤ jv ∧ jv ≤ b ∧ d3.size = d.size ∧ shiftUp (lf cf) b jv d3 = fixUp (lf cf) b iu d2 ∧ HRow wr base g c d3 ∧ Only (· = g) w wr)
                        case atStart => exact ⟨iu + 1, d2, rfl, by rw [HIP.out], Nat.le_refl _, by omega, hds2, by have := HN.out; unfold fixUp; rw [if_pos (by omega)], HB.out, HOB.out⟩
                        case round =>
                          clear HB HOB
                          obtain ⟨jv, d3, rfl, rfl, hjv1, hjv2, hds3, hsu, hr, ho⟩ := hrel
                          by_cases hjb : (jv : Int) < (b : Int)
                          · obtain ⟨jm, hjm⟩ : ∃ jm, jm = jv - 1 := ⟨_, rfl⟩
                            obtain ⟨jp, hjp⟩ : ∃ jp, jp = jv + 1 := ⟨_, rfl⟩
                            have k1 : IntKind.i64.wrap ((jv : Int) - 1) = (jm : Int) := w64 (by omega) (by omega) (by omega)
                            have k2 : IntKind.i64.wrap ((jv : Int) + 1) = (jp : Int) := w64 (by omega) (by omega) (by omega)
                            have k3 : (jv : Int) < (d.size : Int) := by omega
                            have k4 : (jm : Int) < (d.size : Int) := by omega
                            have HJ := Lib.hid (And.intro hjm hjp)
                            have hjm2 : jm < d3.size := by omega
                            have hjv3 : jv < d3.size := by omega
                            have HSU := Lib.hid hsu
                            clear hjm hjp hsu
                            obtain ⟨x, y, r, hx, hy, hl, HS, HCC, q0, q1, q2, q3⟩ := cmp_step (HC.out.only ho hne) hr jv jm (by omega) (by omega)
                            have HR := Lib.hid hr
                            have HO := Lib.hid ho
                            have HX := Lib.hid hx
                            have HY := Lib.hid hy
                            have HL := Lib.hid hl
                            clear hr ho hx hy hl
                            obtain ⟨o, hd⟩ : ∃ o, decide (r < 0) = o := ⟨_, rfl⟩
                            rw [hd] at HL
                            go_wp2_with (fail)
                            go_region_held3 (fun W => W.cell? ⟨g, jv * 2, none⟩ = some (.int .u64 x.1) ∧ W.cell? ⟨g, jv * 2 + 1, none⟩ = some (.int .i64 x.2) ∧ W.cell? ⟨g, jm * 2, none⟩ = some (.int .u64 y.1) ∧ W.cell? ⟨g, jm * 2 + 1, none⟩ = some (.int .i64 y.2)) ((refine HS.out _ ?_; repeat' (first | (with_reducible exact Below.refl _ _) | (with_reducible assumption) | (with_reducible refine Below.drew ?_) | (with_reducible refine below_drewN' ?_ _))))
                              (first
                                | (go_at_call 150; (with_reducible refine (HCC.out _ (by repeat' (first | (with_reducible exact Below.refl _ _) | (with_reducible assumption) | (with_reducible refine Below.drew ?_) | (with_reducible refine below_drewN' ?_ _)))).mono ?_); rintro e w2 ⟨rfl, hb2⟩))
                            have HR2 := Lib.hid (HR.out.below hb2 (Nat.le_refl _))
                            have HO2 := Lib.hid (HO.out.on hb2)
                            have HL2 : Hid (lf cf d3[jv]! d3[jm]! = o) := Lib.hid (by rw [HX.out, HY.out]; exact HL.out)
                            clear hb2 HCC HS HR HO q0 q1 q2 q3 HL
                            cases o with
                            | true =>
                              obtain ⟨q0, q1, q2, q3, ⟨fz0, fz1, fz2, fz3⟩, ⟨u, uu, q4, q5, q6⟩, HRS, HOS⟩ := swap_step HR2.out jv jm (by omega) (by omega) HO2.out HX.out HY.out
                              clear HR2 HO2 HX HY hd
                              go_wp2_with (fail)
                              go_region
                              go_wp2_with (fail)
                              go_roundg (b - jp)
                              case measure => have := HJ.out; omega
                              case rel => exact ⟨jp, swp d3 jv jm, rfl, rfl, by have := HJ.out; omega, by have := HJ.out; omega, by rw [size_swp]; exact hds3, by rw [← HSU.out, HJ.out.1, HJ.out.2]; exact (sup_go (by omega) (by rw [← HJ.out.1]; exact HL2.out)).symm, HRS.out, HOS.out⟩
                            | false =>
                              have HFX : Hid (partialIns (lf cf) a b (5 - (t + 1)) iu d3 = partialInsertionSort (lf cf) d a b) := Lib.hid (by rw [← HF2.out, ← HSU.out, sup_no (by rw [← HJ.out.1]; exact HL2.out)])
                              clear HX HY hd HL2
                              go_wp2_with (fail)
                              go_roundg (5 - (t + 1))
                              case measure => omega
                              case rel => exact ⟨t + 1, iu, d3, rfl, rfl, rfl, by omega, by omega, by omega, hds3, HFX.out, HR2.out, HO2.out⟩
                          · have HFX : Hid (partialIns (lf cf) a b (5 - (t + 1)) iu d3 = partialInsertionSort (lf cf) d a b) := Lib.hid (by rw [← HF2.out, ← hsu, sup_end (by omega)])
                            have HR2 := Lib.hid hr
                            have HO2 := Lib.hid ho
                            clear hr ho hsu
                            go_wp2_with (fail)
                            go_roundg (5 - (t + 1))
                            case measure => omega
                            case rel => exact ⟨t + 1, iu, d3, rfl, rfl, rfl, by omega, by omega, by omega, hds3, HFX.out, HR2.out, HO2.out⟩
                      · have HFX : Hid (partialIns (lf cf) a b (5 - (t + 1)) iu d2 = partialInsertionSort (lf cf) d a b) := Lib.hid (by have := HN.out; rw [← HF2.out]; unfold fixUp; rw [if_neg (by omega)])
                        go_wp2_with (fail)
                        go_roundg (5 - (t + 1))
                        case measure => omega
                        case rel => exact ⟨t + 1, iu, d2, rfl, rfl, rfl, by omega, by omega, by omega, hds2, HFX.out, HB.out, HOB.out⟩
                  · have HF2 : Hid (partialIns (lf cf) a b (5 - (t + 1)) iu (fixUp (lf cf) b iu d2) = partialInsertionSort (lf cf) d a b) := Lib.hid (by rw [← HF.out, ← hsd, sdn_end (by omega)])
                    have HB := Lib.hid hr
                    have HOB := Lib.hid ho
                    clear hr ho HF hsd
                    by_cases hbi : (2 : Int) ≤ (bi : Int)
                    · go_wp2_with (fail)
                      go_loopg [12] (b - (iu + 1)) (fun gk s wr => ∃ (jv : Nat) (d3 : Array Hit), gk = b - jv ∧ s = .int .i64 jv ∧ iu + 1 ≤ jv ∧ jv ≤ b ∧ d3.size = d.size ∧ shiftUp (lf cf) b jv d3 = fixUp (lf cf) b iu d2 ∧ HRow wr base g c d3 ∧ Only (· = g) w wr)
                      case atStart => exact ⟨iu + 1, d2, rfl, by rw [HIP.out], Nat.le_refl _, by omega, hds2, by have := HN.out; unfold fixUp; rw [if_pos (by omega)], HB.out, HOB.out⟩
                      case round =>
                        clear HB HOB
                        obtain ⟨jv, d3, rfl, rfl, hjv1, hjv2, hds3, hsu, hr, ho⟩ := hrel
                        by_cases hjb : (jv : Int) < (b : Int)
                        · obtain ⟨jm, hjm⟩ : ∃ jm, jm = jv - 1 := ⟨_, rfl⟩
                          obtain ⟨jp, hjp⟩ : ∃ jp, jp = jv + 1 := ⟨_, rfl⟩
                          have k1 : IntKind.i64.wrap ((jv : Int) - 1) = (jm : Int) := w64 (by omega) (by omega) (by omega)
                          have k2 : IntKind.i64.wrap ((jv : Int) + 1) = (jp : Int) := w64 (by omega) (by omega) (by omega)
                          have k3 : (jv : Int) < (d.size : Int) := by omega
                          have k4 : (jm : Int) < (d.size : Int) := by omega
                          have HJ := Lib.hid (And.intro hjm hjp)
                          have hjm2 : jm < d3.size := by omega
                          have hjv3 : jv < d3.size := by omega
                          have HSU := Lib.hid hsu
                          clear hjm hjp hsu
                          obtain ⟨x, y, r, hx, hy, hl, HS, HCC, q0, q1, q2, q3⟩ := cmp_step (HC.out.only ho hne) hr jv jm (by omega) (by omega)
                          have HR := Lib.hid hr
                          have HO := Lib.hid ho
                          have HX := Lib.hid hx
                          have HY := Lib.hid hy
                          have HL := Lib.hid hl
                          clear hr ho hx hy hl
                          obtain ⟨o, hd⟩ : ∃ o, decide (r < 0) = o := ⟨_, rfl⟩
                          rw [hd] at HL
                          go_wp2_with (fail)
                          go_region_held3 (fun W => W.cell? ⟨g, jv * 2, none⟩ = some (.int .u64 x.1) ∧ W.cell? ⟨g, jv * 2 + 1, none⟩ = some (.int .i64 x.2) ∧ W.cell? ⟨g, jm * 2, none⟩ = some (.int .u64 y.1) ∧ W.cell? ⟨g, jm * 2 + 1, none⟩ = some (.int .i64 y.2)) ((refine HS.out _ ?_; repeat' (first | (with_reducible exact Below.refl _ _) | (with_reducible assumption) | (with_reducible refine Below.drew ?_) | (with_reducible refine below_drewN' ?_ _))))
                            (first
                              | (go_at_call 150; (with_reducible refine (HCC.out _ (by repeat' (first | (with_reducible exact Below.refl _ _) | (with_reducible assumption) | (with_reducible refine Below.drew ?_) | (with_reducible refine below_drewN' ?_ _)))).mono ?_); rintro e w2 ⟨rfl, hb2⟩))
                          have HR2 := Lib.hid (HR.out.below hb2 (Nat.le_refl _))
                          have HO2 := Lib.hid (HO.out.on hb2)
                          have HL2 : Hid (lf cf d3[jv]! d3[jm]! = o) := Lib.hid (by rw [HX.out, HY.out]; exact HL.out)
                          clear hb2 HCC HS HR HO q0 q1 q2 q3 HL
                          cases o with
                          | true =>
                            obtain ⟨q0, q1, q2, q3, ⟨fz0, fz1, fz2, fz3⟩, ⟨u, uu, q4, q5, q6⟩, HRS, HOS⟩ := swap_step HR2.out jv jm (by omega) (by omega) HO2.out HX.out HY.out
                            clear HR2 HO2 HX HY hd
                            go_wp2_with (fail)
                            go_region
                            go_wp2_with (fail)
                            go_roundg (b - jp)
                            case measure => have := HJ.out; omega
                            case rel => exact ⟨jp, swp d3 jv jm, rfl, rfl, by have := HJ.out; omega, by have := HJ.out; omega, by rw [size_swp]; exact hds3, by rw [← HSU.out, HJ.out.1, HJ.out.2]; exact (sup_go (by omega) (by rw [← HJ.out.1]; exact HL2.out)).symm, HRS.out, HOS.out⟩
                          | false =>
                            have HFX : Hid (partialIns (lf cf) a b (5 - (t + 1)) iu d3 = partialInsertionSort (lf cf) d a b) := Lib.hid (by rw [← HF2.out, ← HSU.out, sup_no (by rw [← HJ.out.1]; exact HL2.out)])
                            clear HX HY hd HL2
                            go_wp2_with (fail)
                            go_roundg (5 - (t + 1))
                            case measure => omega
                            case rel => exact ⟨t + 1, iu, d3, rfl, rfl, rfl, by omega, by omega, by omega, hds3, HFX.out, HR2.out, HO2.out⟩
                        · have HFX : Hid (partialIns (lf cf) a b (5 - (t + 1)) iu d3 = partialInsertionSort (lf cf) d a b) := Lib.hid (by rw [← HF2.out, ← hsu, sup_end (by omega)])
                          have HR2 := Lib.hid hr
                          have HO2 := Lib.hid ho
                          clear hr ho hsu
                          go_wp2_with (fail)
                          go_roundg (5 - (t + 1))
                          case measure => omega
                          case rel => exact ⟨t + 1, iu, d3, rfl, rfl, rfl, by omega, by omega, by omega, hds3, HFX.out, HR2.out, HO2.out⟩
                    · have HFX : Hid (partialIns (lf cf) a b (5 - (t + 1)) iu d2 = partialInsertionSort (lf cf) d a b) := Lib.hid (by have := HN.out; rw [← HF2.out]; unfold fixUp; rw [if_neg (by omega)])
                      go_wp2_with (fail)
                      go_roundg (5 - (t + 1))
                      case measure => omega
                      case rel => exact ⟨t + 1, iu, d2, rfl, rfl, rfl, by omega, by omega, by omega, hds2, HFX.out, HB.out, HOB.out⟩
              · have HF2 : Hid (partialIns (lf cf) a b (5 - (t + 1)) iu (fixUp (lf cf) b iu d1) = partialInsertionSort (lf cf) d a b) := Lib.hid (by have := HN.out; rw [← HF.out]; unfold fixDown; rw [if_neg (by omega)])
                have HB := HRS
                have HOB := HOS
                have hds2 := hds1
                obtain ⟨d2, hd2⟩ : ∃ d2, d2 = d1 := ⟨_, rfl⟩
                rw [← hd2] at HB hds2 HF2
                clear HRS HOS HF hd2 hds1
                by_cases hbi : (2 : Int) ≤ (bi : Int)
                · go_wp2_with (fail)
                  go_loopg [12] (b - (iu + 1)) (fun gk s wr => ∃ (jv : Nat) (d3 : Array Hit), gk = b - jv ∧ s = .int .i64 jv ∧ iu + 1 ≤ jv ∧ jv ≤ b ∧ d3.size = d.size ∧ shiftUp (lf cf) b jv d3 = fixUp (lf cf) b iu d2 ∧ HRow wr base g c d3 ∧ Only (· = g) w wr)
                  case atStart => exact ⟨iu + 1, d2, rfl, by rw [HIP.out], Nat.le_refl _, by omega, hds2, by have := HN.out; unfold fixUp; rw [if_pos (by omega)], HB.out, HOB.out⟩
                  case round =>
                    clear HB HOB
                    obtain ⟨jv, d3, rfl, rfl, hjv1, hjv2, hds3, hsu, hr, ho⟩ := hrel
                    by_cases hjb : (jv : Int) < (b : Int)
                    · obtain ⟨jm, hjm⟩ : ∃ jm, jm = jv - 1 := ⟨_, rfl⟩
                      obtain ⟨jp, hjp⟩ : ∃ jp, jp = jv + 1 := ⟨_, rfl⟩
                      have k1 : IntKind.i64.wrap ((jv : Int) - 1) = (jm : Int) := w64 (by omega) (by omega) (by omega)
                      have k2 : IntKind.i64.wrap ((jv : Int) + 1) = (jp : Int) := w64 (by omega) (by omega) (by omega)
                      have k3 : (jv : Int) < (d.size : Int) := by omega
                      have k4 : (jm : Int) < (d.size : Int) := by omega
                      have HJ := Lib.hid (And.intro hjm hjp)
                      have hjm2 : jm < d3.size := by omega
                      have hjv3 : jv < d3.size := by omega
                      have HSU := Lib.hid hsu
                      clear hjm hjp hsu
                      obtain ⟨x, y, r, hx, hy, hl, HS, HCC, q0, q1, q2, q3⟩ := cmp_step (HC.out.only ho hne) hr jv jm (by omega) (by omega)
                      have HR := Lib.hid hr
                      have HO := Lib.hid ho
                      have HX := Lib.hid hx
                      have HY := Lib.hid hy
                      have HL := Lib.hid hl
                      clear hr ho hx hy hl
                      obtain ⟨o, hd⟩ : ∃ o, decide (r < 0) = o := ⟨_, rfl⟩
                      rw [hd] at HL
                      go_wp2_with (fail)
                      go_region_held3 (fun W => W.cell? ⟨g, jv * 2, none⟩ = some (.int .u64 x.1) ∧ W.cell? ⟨g, jv * 2 + 1, none⟩ = some (.int .i64 x.2) ∧ W.cell? ⟨g, jm * 2, none⟩ = some (.int .u64 y.1) ∧ W.cell? ⟨g, jm * 2 + 1, none⟩ = some (.int .i64 y.2)) ((refine HS.out _ ?_; repeat' (first | (with_reducible exact Below.refl _ _) | (with_reducible assumption) | (with_reducible refine Below.drew ?_) | (with_reducible refine below_drewN' ?_ _))))
                        (first
                          | (go_at_call 150; (with_reducible refine (HCC.out _ (by repeat' (first | (with_reducible exact Below.refl _ _) | (with_reducible assumption) | (with_reducible refine Below.drew ?_) | (with_reducible refine below_drewN' ?_ _)))).mono ?_); rintro e w2 ⟨rfl, hb2⟩))
                      have HR2 := Lib.hid (HR.out.below hb2 (Nat.le_refl _))
                      have HO2 := Lib.hid (HO.out.on hb2)
                      have HL2 : Hid (lf cf d3[jv]! d3[jm]! = o) := Lib.hid (by rw [HX.out, HY.out]; exact HL.out)
                      clear hb2 HCC HS HR HO q0 q1 q2 q3 HL
                      cases o with
                      | true =>
                        obtain ⟨q0, q1, q2, q3, ⟨fz0, fz1, fz2, fz3⟩, ⟨u, uu, q4, q5, q6⟩, HRS, HOS⟩ := swap_step HR2.out jv jm (by omega) (by omega) HO2.out HX.out HY.out
                        clear HR2 HO2 HX HY hd
                        go_wp2_with (fail)
                        go_region
                        go_wp2_with (fail)
                        go_roundg (b - jp)
                        case measure => have := HJ.out; omega
                        case rel => exact ⟨jp, swp d3 jv jm, rfl, rfl, by have := HJ.out; omega, by have := HJ.out; omega, by rw [size_swp]; exact hds3, by rw [← HSU.out, HJ.out.1, HJ.out.2]; exact (sup_go (by omega) (by rw [← HJ.out.1]; exact HL2.out)).symm, HRS.out, HOS.out⟩
                      | false =>
                        have HFX : Hid (partialIns (lf cf) a b (5 - (t + 1)) iu d3 = partialInsertionSort (lf cf) d a b) := Lib.hid (by rw [← HF2.out, ← HSU.out, sup_no (by rw [← HJ.out.1]; exact HL2.out)])
                        clear HX HY hd HL2
                        go_wp2_with (fail)
                        go_roundg (5 - (t + 1))
                        case measure => omega
                        case rel => exact ⟨t + 1, iu, d3, rfl, rfl, rfl, by omega, by omega, by omega, hds3, HFX.out, HR2.out, HO2.out⟩
                    · have HFX : Hid (partialIns (lf cf) a b (5 - (t + 1)) iu d3 = partialInsertionSort (lf cf) d a b) := Lib.hid (by rw [← HF2.out, ← hsu, sup_end (by omega)])
                      have HR2 := Lib.hid hr
                      have HO2 := Lib.hid ho
                      clear hr ho hsu
                      go_wp2_with (fail)
                      go_roundg (5 - (t + 1))
                      case measure => omega
                      case rel => exact ⟨t + 1, iu, d3, rfl, rfl, rfl, by omega, by omega, by omega, hds3, HFX.out, HR2.out, HO2.out⟩
                · have HFX : Hid (partialIns (lf cf) a b (5 - (t + 1)) iu d2 = partialInsertionSort (lf cf) d a b) := Lib.hid (by have := HN.out; rw [← HF2.out]; unfold fixUp; rw [if_neg (by omega)])
                  go_wp2_with (fail)
                  go_roundg (5 - (t + 1))
                  case measure => omega
                  case rel => exact ⟨t + 1, iu, d2, rfl, rfl, rfl, by omega, by omega, by omega, hds2, HFX.out, HB.out, HOB.out⟩
        · have hst : scanSorted (lf cf) d' b i = b := by rw [← HSC.out, scan_end (by omega)]; omega
          have HE2 := HE.out
          rw [if_pos hst] at HE2
          have HST := Lib.hid HE2
          have HR2 : Hid (HRow wr base g c d') := Lib.hid hr
          have HO2 : Hid (Only (· = g) w wr) := Lib.hid ho
          have hnib : (iu : Int) = (b : Int) := by omega
          clear hst HE2 HE HSC hr ho
          go_wp2_with (fail)
          go_region
          go_wp2_with (fail)
          refine bodyPost_ret (v := .bool true) (by simp [results, Tryz.results196, go_sem]) rfl ?_
          exact ⟨by rw [← HST.out], HO2.out.drew, by rw [← HST.out]; exact HR2.out.drew_⟩
    · have hst : (d', false) = partialInsertionSort (lf cf) d a b := by rw [← heq, show 5 - t = 0 by omega]; rfl
      have HST := Lib.hid hst
      have HR2 := Lib.hid hr
      have HO2 := Lib.hid ho
      clear hst heq hr ho
      go_wp2_with (fail)
      refine bodyPost_ret (v := .bool false) (by simp [results, Tryz.results196, go_sem]) rfl ?_
      exact ⟨by rw [← HST.out], HO2.out, by rw [← HST.out]; exact HR2.out⟩
end Go.Proofs.YtgbjpobgjmkjgaaGreat.hso
/-
  Where pdqsortCmpFunc's loop stands, and what each call of its round comes to there.
-/
namespace Go.Proofs.YtgbjpobgjmkjgaaGreat.hso
open Go.RowKit law bytes only flat hit heapM best Go.Sort Go.Shelf
set_option linter.unusedVariables false

/-- a sort of a part: the heap, its row, the part, what the row held and the world at the call -/
structure Sx where
  hb : Nat
  K : Nat
  v : Value
  cf : Hit → Hit → Int
  base : Nat
  g : Nat
  c : Nat
  D : Nat
  a : Nat
  b : Nat
  d : Array Hit
  w : World
structure Sx.Ok (S : Sx) : Prop where
  swo : SWO (lf S.cf)
  ne : S.hb ≠ S.g
  sz : S.D < 2305843009213693952
/-- what is left over is the part from x to y, whose sorting sorts it all -/
structure Pt (S : Sx) (x y : Nat) (W : World) (dk : Array Hit) : Prop where
  sz : dk.size = S.D
  bel : Go.Sort.Below (lf S.cf) x y dk
  fin : ∀ R, PermIn x y dk R → SortedIn (lf S.cf) x y R → PermIn S.a S.b S.d R ∧ SortedIn (lf S.cf) S.a S.b R
  row : HRow W S.base S.g S.c dk
  cm : Cm S.hb S.K S.v S.cf W
  only : Only (· = S.g) S.w W
  ab : x ≤ y
  bD : y ≤ S.D
def At (S : Sx) (x y : Nat) (W : World) : Prop := ∃ dk, Pt S x y W dk
def Fin (S : Sx) (W : World) : Prop := Only (· = S.g) S.w W ∧ ∃ R, PermIn S.a S.b S.d R ∧ SortedIn (lf S.cf) S.a S.b R ∧ HRow W S.base S.g S.c R
/-- parted at m: either side is sorted on its own -/
def Half (S : Sx) (x m y : Nat) (W : World) : Prop := ∃ d4 : Array Hit, d4.size = S.D ∧ HRow W S.base S.g S.c d4 ∧ Cm S.hb S.K S.v S.cf W ∧ Only (· = S.g) S.w W ∧ x ≤ m ∧ m < y ∧ y ≤ S.D ∧
  Go.Sort.Below (lf S.cf) x m d4 ∧ Go.Sort.Below (lf S.cf) (m + 1) y d4 ∧
  (∀ L, PermIn x m d4 L → SortedIn (lf S.cf) x m L → Go.Sort.Below (lf S.cf) (m + 1) y L ∧ ∀ R, PermIn (m + 1) y L R → SortedIn (lf S.cf) (m + 1) y R → PermIn S.a S.b S.d R ∧ SortedIn (lf S.cf) S.a S.b R) ∧
  (∀ L, PermIn (m + 1) y d4 L → SortedIn (lf S.cf) (m + 1) y L → Go.Sort.Below (lf S.cf) x m L ∧ ∀ R, PermIn x m L R → SortedIn (lf S.cf) x m R → PermIn S.a S.b S.d R ∧ SortedIn (lf S.cf) S.a S.b R)
section
variable {S : Sx} {x y : Nat} {W W' : World} {dk d2 R : Array Hit}
theorem Pt.step (k : S.Ok) (h : Pt S x y W dk) (o : Only (· = S.g) W W') (hp : PermIn x y dk d2) (hr : HRow W' S.base S.g S.c d2) : Pt S x y W' d2 :=
  ⟨hp.1.trans h.sz, h.bel.perm (by rw [h.sz]; exact h.bD) hp, fun R h1 h2 => h.fin R (permIn_trans _ _ _ _ _ hp h1) h2, hr, h.cm.only o k.ne, h.only.trans o fun _ e => .inl e, h.ab, h.bD⟩
theorem Pt.fin_ (h : Pt S x y W dk) (o : Only (· = S.g) W W') (hp : PermIn x y dk R) (hs : SortedIn (lf S.cf) x y R) (hr : HRow W' S.base S.g S.c R) : Fin S W' :=
  ⟨h.only.trans o fun _ e => .inl e, R, (h.fin R hp hs).1, (h.fin R hp hs).2, hr⟩
theorem Pt.bs (h : Pt S x y W dk) : y ≤ dk.size := by rw [h.sz]; exact h.bD
theorem Pt.ss (k : S.Ok) (h : Pt S x y W dk) : dk.size < 2305843009213693952 := by rw [h.sz]; exact k.sz
def sl (S : Sx) : Value := .slice (some ⟨S.g, 0, none⟩) S.D S.c

theorem c_ins (k : S.Ok) (h : At S x y W) : Calls Tryz.prog 191 #[.slice (some ⟨S.g, 0, none⟩) S.D S.c, .int .i64 x, .int .i64 y, FV S.hb] W fun e w' => e = .returned (.tuple #[]) ∧ Fin S w' := by
  obtain ⟨dk, h⟩ := h
  have := insertion_any h.cm h.row k.ne x y h.ab h.bs (h.ss k)
  rw [h.sz] at this
  have hs := insertionSort_holds (lt := lf S.cf) k.swo dk x y h.ab h.bs
  exact this.mono fun e w' ⟨he, ho, hr⟩ => ⟨he, h.fin_ ho hs.1 hs.2 hr⟩
theorem c_heap (k : S.Ok) (h : At S x y W) (hxy : x < y) : Calls Tryz.prog 192 #[.slice (some ⟨S.g, 0, none⟩) S.D S.c, .int .i64 x, .int .i64 y, FV S.hb] W fun e w' => e = .returned (.tuple #[]) ∧ Fin S w' := by
  obtain ⟨dk, h⟩ := h
  have := heapsort_any h.cm h.row k.ne x y hxy h.bs (h.ss k)
  rw [h.sz] at this
  have hs := heapSort_holds (lt := lf S.cf) k.swo dk x y h.ab h.bs
  exact this.mono fun e w' ⟨he, ho, hr⟩ => ⟨he, h.fin_ ho hs.1 hs.2 hr⟩
theorem c_brk (k : S.Ok) (h : At S x y W) (hxy : x + 12 < y) : Calls Tryz.prog 193 #[.slice (some ⟨S.g, 0, none⟩) S.D S.c, .int .i64 x, .int .i64 y, FV S.hb] W fun e w' => e = .returned (.tuple #[]) ∧ At S x y w' := by
  obtain ⟨dk, h⟩ := h
  have := break_any (hb := S.hb) (K := S.K) (v := S.v) (cf := S.cf) h.row (FV S.hb) x y hxy h.bs (h.ss k)
  rw [h.sz] at this
  exact this.mono fun e w' ⟨he, ho, d', hp, hr⟩ => ⟨he, d', h.step k ho hp hr⟩
theorem c_piv (k : S.Ok) (h : At S x y W) (hxy : x + 12 < y) : Calls Tryz.prog 194 #[.slice (some ⟨S.g, 0, none⟩) S.D S.c, .int .i64 x, .int .i64 y, FV S.hb] W fun e w' => ∃ (p : Nat) (t : Int), e = .returned (.tuple #[.int .i64 p, .int .i64 t]) ∧ x ≤ p ∧ p < y ∧ At S x y w' := by
  obtain ⟨dk, h⟩ := h
  have := pivot_any h.cm h.row x y hxy h.bs (h.ss k)
  rw [h.sz] at this
  exact this.mono fun e w' ⟨p, t, he, h1, h2, hb⟩ => ⟨p, t, he, h1, h2, dk, h.step k (Only.of_below hb (Nat.le_refl _) _) (permIn_refl _ _ _) (h.row.below hb (Nat.le_refl _))⟩
theorem c_rev (k : S.Ok) (h : At S x y W) (hxy : x < y) : Calls Tryz.prog 195 #[.slice (some ⟨S.g, 0, none⟩) S.D S.c, .int .i64 x, .int .i64 y, FV S.hb] W fun e w' => e = .returned (.tuple #[]) ∧ At S x y w' := by
  obtain ⟨dk, h⟩ := h
  have := reverse_any h.row (FV S.hb) x y hxy h.bs (h.ss k)
  rw [h.sz] at this
  exact this.mono fun e w' ⟨he, ho, hr⟩ => ⟨he, _, h.step k ho (reverseRange_holds dk x y h.ab h.bs) hr⟩
theorem c_par (k : S.Ok) (h : At S x y W) (hxy : x < y) : Calls Tryz.prog 196 #[.slice (some ⟨S.g, 0, none⟩) S.D S.c, .int .i64 x, .int .i64 y, FV S.hb] W fun e w' => ∃ o : Bool, e = .returned (.bool o) ∧ (o = true → Fin S w') ∧ At S x y w' := by
  obtain ⟨dk, h⟩ := h
  have := partial_any h.cm h.row k.ne x y hxy h.bs (h.ss k)
  rw [h.sz] at this
  have hs := partialInsertionSort_holds (lt := lf S.cf) k.swo dk x y hxy h.bs h.bel
  exact this.mono fun e w' ⟨he, ho, hr⟩ => ⟨_, he, fun e2 => h.fin_ ho hs.1 (hs.2 e2) hr, _, h.step k ho hs.1 hr⟩
theorem c_eq (k : S.Ok) (h : Pt S x y W dk) (p : Nat) (h0 : 0 < x) (h1 : x ≤ p) (h2 : p < y) (hl : lf S.cf dk[x - 1]! dk[p]! = false) : Calls Tryz.prog 197 #[.slice (some ⟨S.g, 0, none⟩) S.D S.c, .int .i64 x, .int .i64 y, .int .i64 p, FV S.hb] W fun e w' => ∃ m : Nat, e = .returned (.int .i64 m) ∧ x < m ∧ m ≤ y ∧ At S m y w' := by
  have := parteq_any h.cm h.row k.ne x y p h1 h2 h.bs (h.ss k)
  rw [h.sz] at this
  obtain ⟨r1, r2, r3, r4, r5⟩ := round_eq (lt := lf S.cf) k.swo (partitionEqual_holds _) (d3 := dk) (d4 := (partitionEqual (lf S.cf) dk x y p).2) (mid := (partitionEqual (lf S.cf) dk x y p).1) h0 h1 h2 h.bs h.bel hl rfl
  exact this.mono fun e w' ⟨he, ho, hr⟩ => ⟨_, he, r1, r2, _, r3.trans h.sz, r4, fun R p1 p2 => have q := r5 R p1 p2; h.fin R q.1 q.2, hr, h.cm.only ho k.ne, h.only.trans ho fun _ e => .inl e, r2, h.bD⟩
theorem c_part (k : S.Ok) (h : Pt S x y W dk) (p : Nat) (h1 : x ≤ p) (h2 : p < y) : Calls Tryz.prog 198 #[.slice (some ⟨S.g, 0, none⟩) S.D S.c, .int .i64 x, .int .i64 y, .int .i64 p, FV S.hb] W fun e w' => ∃ (m : Nat) (ap : Bool), e = .returned (.tuple #[.int .i64 m, .bool ap]) ∧ x ≤ m ∧ m < y ∧ Half S x m y w' := by
  have := part_any h.cm h.row k.ne x y p h1 h2 h.bs (h.ss k)
  rw [h.sz] at this
  obtain ⟨r1, r2, r3, r4, r5, r6, r7⟩ := round_part (lt := lf S.cf) k.swo (partition_holds _) (d3 := dk) (d4 := (partition (lf S.cf) dk x y p).2.2) (mid := (partition (lf S.cf) dk x y p).1) (ap := (partition (lf S.cf) dk x y p).2.1) h1 h2 h.bs h.bel rfl
  exact this.mono fun e w' ⟨⟨ap, he⟩, ho, hr⟩ => ⟨_, ap, he, r1, r2, _, r3.trans h.sz, hr, h.cm.only ho k.ne, h.only.trans ho fun _ e => .inl e, r1, r2, h.bD, r4, r5,
    fun L p1 p2 => ⟨(r6 L p1 p2).1, fun R q1 q2 => have q := (r6 L p1 p2).2 R q1 q2; h.fin R q.1 q.2⟩, fun L p1 p2 => ⟨(r7 L p1 p2).1, fun R q1 q2 => have q := (r7 L p1 p2).2 R q1 q2; h.fin R q.1 q.2⟩⟩
/-- what the sort says of every part shorter than n -/
def Sorts (n : Nat) : Prop := ∀ (S : Sx) (lim : Nat), S.Ok → S.b - S.a < n → lim < 4611686018427387904 → Pt S S.a S.b S.w S.d →
  Calls Tryz.prog 174 #[.slice (some ⟨S.g, 0, none⟩) S.D S.c, .int .i64 S.a, .int .i64 S.b, .int .i64 lim, FV S.hb] S.w fun e w' => e = .returned (.tuple #[]) ∧ Fin S w'
theorem c_left {n m lim : Nat} (H : Sorts n) (k : S.Ok) (h : Half S x m y W) (hn : m - x < n) (hl : lim < 4611686018427387904) : Calls Tryz.prog 174 #[.slice (some ⟨S.g, 0, none⟩) S.D S.c, .int .i64 x, .int .i64 m, .int .i64 lim, FV S.hb] W fun e w' => e = .returned (.tuple #[]) ∧ At S (m + 1) y w' := by
  obtain ⟨d4, e1, e2, e3, e4, e5, e6, e7, e8, e9, e10, e11⟩ := h
  refine (H { S with a := x, b := m, d := d4, w := W } lim ⟨k.swo, k.ne, k.sz⟩ hn hl ⟨e1, e8, fun R p1 p2 => ⟨p1, p2⟩, e2, e3, Only.refl _ _, e5, by show m ≤ S.D; omega⟩).mono fun e w' ⟨he, ho, R, p1, p2, hr⟩ => ?_
  exact ⟨he, R, p1.1.trans e1, (e10 R p1 p2).1, (e10 R p1 p2).2, hr, e3.only ho k.ne, e4.trans ho fun _ e => .inl e, e6, e7⟩
theorem c_right {n m lim : Nat} (H : Sorts n) (k : S.Ok) (h : Half S x m y W) (hn : y - (m + 1) < n) (hl : lim < 4611686018427387904) : Calls Tryz.prog 174 #[.slice (some ⟨S.g, 0, none⟩) S.D S.c, .int .i64 ((m + 1 : Nat) : Int), .int .i64 y, .int .i64 lim, FV S.hb] W fun e w' => e = .returned (.tuple #[]) ∧ At S x m w' := by
  obtain ⟨d4, e1, e2, e3, e4, e5, e6, e7, e8, e9, e10, e11⟩ := h
  refine (H { S with a := m + 1, b := y, d := d4, w := W } lim ⟨k.swo, k.ne, k.sz⟩ hn hl ⟨e1, e9, fun R p1 p2 => ⟨p1, p2⟩, e2, e3, Only.refl _ _, by show m + 1 ≤ y; omega, e7⟩).mono fun e w' ⟨he, ho, R, p1, p2, hr⟩ => ?_
  exact ⟨he, R, p1.1.trans e1, (e11 R p1 p2).1, (e11 R p1 p2).2, hr, e3.only ho k.ne, e4.trans ho fun _ e => .inl e, e5, by show m ≤ S.D; omega⟩
end
end Go.Proofs.YtgbjpobgjmkjgaaGreat.hso
/-
  The contracts of pdqsortCmpFunc and slices.SortFunc.
-/
namespace Go.Proofs.YtgbjpobgjmkjgaaGreat.hso
open Go.RowKit law bytes only flat hit heapM best Go.Sort Go.Shelf
set_option linter.unusedVariables false

set_option maxRecDepth 100000 in
set_option maxHeartbeats 12800000 in
theorem pdq_any : ∀ n, Sorts n := by
  intro n
  induction n with
  | zero => exact fun S lim k h => absurd h (Nat.not_lt_zero _)
  | succ n ih =>
    intro S lim k hn hlim hP
    have IH := Lib.hid ih
    have HOK := Lib.hid k
    have hsz := k.sz
    have hP0 : At S S.a S.b S.w := ⟨_, hP⟩
    have HP0 := Lib.hid hP0
    have hab : S.a ≤ S.b := hP.ab
    have hbD : S.b ≤ S.D := hP.bD
    clear ih k hP hP0
    unfold FV
    go_enter Tryz.func174, Tryz.ntmps174
    go_wp2_with (fail)
    go_loopg [1, 2, 3, 10, 11] (S.b - S.a) (fun gk s1 s2 s3 s10 s11 wr => ∃ (x y lm : Nat) (wb wp : Bool), s1 = .int .i64 x ∧ s2 = .int .i64 y ∧ s3 = .int .i64 lm ∧ s10 = .bool wb ∧ s11 = .bool wp ∧
      y - x = gk ∧ y - x ≤ S.b - S.a ∧ x ≤ y ∧ y ≤ S.D ∧ lm < 4611686018427387904 ∧ At S x y wr)
    case atStart => exact ⟨S.a, S.b, lim, true, true, rfl, rfl, rfl, rfl, rfl, rfl, Nat.le_refl _, hab, hbD, hlim, HP0.out⟩
    case round =>
      clear HP0
      obtain ⟨x, y, lm, wb, wp, rfl, rfl, rfl, rfl, rfl, hg, hyx, hxy, hyD, hlm, hA⟩ := hrel
      obtain ⟨l, hl⟩ : ∃ l, l = y - x := ⟨_, rfl⟩
      have i1 : IntKind.i64.wrap ((y : Int) - (x : Int)) = (l : Int) := w64 (by omega) (by omega) (by omega)
      have HL := Lib.hid hl
      have HG := Lib.hid hg
      have HA := Lib.hid hA
      clear hA hl hg
      by_cases h12 : (l : Int) ≤ 12
      · go_wp2_with (fail)
        refine (c_ins HOK.out HA.out).mono ?_
        rintro e w' ⟨rfl, hf⟩
        have HF := Lib.hid hf
        clear hf
        go_wp2_with (fail)
        refine bodyPost_ret (results_none rfl _ _ _) rfl ?_
        exact ⟨rfl, HF.out⟩
      · by_cases hl0 : (lm : Int) = 0
        · go_wp2_with (fail)
          refine (c_heap HOK.out HA.out (by have := HL.out; omega)).mono ?_
          rintro e w' ⟨rfl, hf⟩
          have HF := Lib.hid hf
          clear hf
          go_wp2_with (fail)
          refine bodyPost_ret (results_none rfl _ _ _) rfl ?_
          exact ⟨rfl, HF.out⟩
        · have i2 : IntKind.i64.wrap ((lm : Int) - 1) = ((lm - 1 : Nat) : Int) := w64 (by omega) (by omega) (by omega)
          go_upto_if 39 with (fail)
          go_cut [3] from 21 (fun s3 wc => (∃ lq : Nat, s3 = .int .i64 lq ∧ lq < 4611686018427387904) ∧ At S x y wc)
          case first =>
            cases wb
            · go_wp2_with (fail)
              refine (c_brk HOK.out HA.out (by have := HL.out; omega)).mono ?_
              rintro e w' ⟨rfl, hf⟩
              have HF := Lib.hid hf
              clear hf
              go_wp2_with (fail)
              go_meet
              case rel => exact ⟨⟨lm - 1, rfl, by omega⟩, HF.out⟩
            · go_wp2_with (fail)
              go_meet
              case rel => exact ⟨⟨lm, rfl, hlm⟩, HA.out⟩
          case rest =>
            obtain ⟨⟨lq, rfl, hlq⟩, hA1⟩ := hcut
            have HA1 := Lib.hid hA1
            clear hA1 HA i2 hl0
            go_wp2_with (fail)
            refine (c_piv HOK.out HA1.out (by have := HL.out; omega)).mono ?_
            rintro e w2 ⟨p, t, rfl, hp1, hp2, hA2⟩
            have HA2 := Lib.hid hA2
            clear hA2 HA1
            go_upto_if 56 with (fail)
            go_cut [13, 14] from 21 (fun s13 s14 wc => (∃ (q : Nat) (t2 : Int), s13 = .int .i64 q ∧ s14 = .int .i64 t2 ∧ x ≤ q ∧ q < y) ∧ At S x y wc)
            case first =>
              by_cases ht : t = 2
              · subst ht
                obtain ⟨y1, hy1⟩ : ∃ y1, y1 = y - 1 := ⟨_, rfl⟩
                obtain ⟨px, hpx⟩ : ∃ px, px = p - x := ⟨_, rfl⟩
                obtain ⟨q, hq⟩ : ∃ q, q = y1 - px := ⟨_, rfl⟩
                have i3 : IntKind.i64.wrap ((y : Int) - 1) = (y1 : Int) := w64 (by omega) (by omega) (by omega)
                have i4 : IntKind.i64.wrap ((p : Int) - (x : Int)) = (px : Int) := w64 (by omega) (by omega) (by omega)
                have i5 : IntKind.i64.wrap ((y1 : Int) - (px : Int)) = (q : Int) := w64 (by omega) (by omega) (by omega)
                have HQ : Hid (x ≤ q ∧ q < y) := Lib.hid ⟨by omega, by omega⟩
                clear hy1 hpx hq
                go_wp2_with (fail)
                refine (c_rev HOK.out HA2.out (by omega)).mono ?_
                rintro e w' ⟨rfl, hf⟩
                have HF := Lib.hid hf
                clear hf
                go_wp2_with (fail)
                go_meet
                case rel => exact ⟨⟨q, 1, rfl, rfl, HQ.out⟩, HF.out⟩
              · go_wp2_with (fail)
                go_meet
                case rel => exact ⟨⟨p, t, rfl, rfl, hp1, hp2⟩, HA2.out⟩
            case rest =>
              clear hp1 hp2
              obtain ⟨⟨q, t2, rfl, rfl, hq1, hq2⟩, hA3⟩ := hcut
              have HA3 := Lib.hid hA3
              clear hA3 HA2
              go_upto_region 15 with (fail)
              go_cut [14, 75] from 21 (fun s14 s75 wx => (∃ (t3 : Int), s14 = .int .i64 t3) ∧ (∃ o : Bool, s75 = .bool o) ∧ wx = wc)
              case first =>
                by_cases ht : t2 = 1
                · subst ht
                  cases wb <;> cases wp <;> (go_wp2_with (fail); go_meet; exact ⟨⟨_, rfl⟩, ⟨_, rfl⟩, rfl⟩)
                · cases wb <;> cases wp <;> (go_wp2_with (fail); go_meet; exact ⟨⟨_, rfl⟩, ⟨_, rfl⟩, rfl⟩)
              case rest =>
                obtain ⟨⟨t3, rfl⟩, ⟨o, rfl⟩, rfl⟩ := hcut
                go_upto_if 75 with (fail)
                go_cut [] from 21 (fun wx => At S x y wx)
                case first =>
                  cases o
                  · go_wp2_with (fail)
                    go_meet
                    case rel => exact HA3.out
                  · go_wp2_with (fail)
                    refine (c_par HOK.out HA3.out (by omega)).mono ?_
                    rintro e w' ⟨o2, rfl, hf, ha⟩
                    have HF := Lib.hid hf
                    have HA4 := Lib.hid ha
                    clear hf ha
                    cases o2
                    · go_wp2_with (fail)
                      go_meet
                      case rel => exact HA4.out
                    · go_wp2_with (fail)
                      refine bodyPost_ret (results_none rfl _ _ _) rfl ?_
                      exact ⟨rfl, HF.out (by simp)⟩
                case rest =>
                  obtain ⟨dk, hPt⟩ := hcut
                  have HPT := Lib.hid hPt
                  have hsd : dk.size = S.D := hPt.sz
                  clear hPt HA3
                  go_upto_region 17 with (fail)
                  go_cut [97] from 21 (fun s97 wx => ∃ o : Bool, s97 = .bool o ∧ (o = true → 0 < x ∧ lf S.cf dk[x - 1]! dk[q]! = false) ∧ Pt S x y wx dk)
                  case first =>
                    rcases Nat.eq_zero_or_pos x with hxz | hx0
                    rotate_left
                    · have z1 : decide (0 < x) = true := decide_eq_true hx0
                      have z2 : decide ((0 : Int) < (x : Int)) = true := decide_eq_true (by omega)
                      have z3 : (0 : Int) < (x : Int) := by omega
                      obtain ⟨xm, hxm⟩ : ∃ xm, xm = x - 1 := ⟨_, rfl⟩
                      have i3 : IntKind.i64.wrap ((x : Int) - 1) = (xm : Int) := w64 (by omega) (by omega) (by omega)
                      have i4 : (xm : Int) < (S.D : Int) := by omega
                      have i5 : (q : Int) < (S.D : Int) := by omega
                      obtain ⟨xv, yv, r, hx, hy, hl, HS, HCC, q0, q1, q2, q3⟩ := cmp_step HPT.out.cm HPT.out.row xm q (by omega) (by omega)
                      have HLL : Hid (lf S.cf dk[x - 1]! dk[q]! = decide (r < 0)) := Lib.hid (by rw [← hxm, hx, hy]; exact hl)
                      clear hx hy hl hxm
                      obtain ⟨o1, hd⟩ : ∃ o1, decide (r < 0) = o1 := ⟨_, rfl⟩
                      rw [hd] at HLL
                      go_wp2_with (fail)
                      go_region_held3 (fun W => W.cell? ⟨S.g, xm * 2, none⟩ = some (.int .u64 xv.1) ∧ W.cell? ⟨S.g, xm * 2 + 1, none⟩ = some (.int .i64 xv.2) ∧ W.cell? ⟨S.g, q * 2, none⟩ = some (.int .u64 yv.1) ∧ W.cell? ⟨S.g, q * 2 + 1, none⟩ = some (.int .i64 yv.2)) ((refine HS.out _ ?_; repeat' (first | (with_reducible exact Below.refl _ _) | (with_reducible assumption) | (with_reducible refine Below.drew ?_) | (with_reducible refine below_drewN' ?_ _))))
                        (first
                          | (go_at_call 150; (with_reducible refine (HCC.out _ (by repeat' (first | (with_reducible exact Below.refl _ _) | (with_reducible assumption) | (with_reducible refine Below.drew ?_) | (with_reducible refine below_drewN' ?_ _)))).mono ?_); rintro e w2 ⟨rfl, hb2⟩))
                      have HP2 : Hid (Pt S x y w2 dk) := Lib.hid (HPT.out.step HOK.out (Only.of_below hb2 (Nat.le_refl _) _) (permIn_refl _ _ _) (HPT.out.row.below hb2 (Nat.le_refl _)))
                      clear hb2 HCC HS q0 q1 q2 q3
                      cases o1 with
                      | false =>
                        go_wp2_with (fail)
                        go_meet
                        case rel => exact ⟨true, rfl, fun _ => ⟨hx0, HLL.out⟩, HP2.out⟩
                      | true =>
                        go_wp2_with (fail)
                        go_meet
                        case rel => exact ⟨false, rfl, (fun e => by cases e), HP2.out⟩
                    · have z1 : decide (0 < x) = false := decide_eq_false (by omega)
                      have z2 : decide ((0 : Int) < (x : Int)) = false := decide_eq_false (by omega)
                      have z3 : ¬ (0 : Int) < (x : Int) := by omega
                      have z4 : ¬ 0 < x := by omega
                      clear hxz
                      go_wp2_with (fail)
                      go_region
                      go_wp2_with (fail)
                      go_meet
                      case rel => exact ⟨false, rfl, (fun e => by cases e), HPT.out.step HOK.out (Only.refl _ _).drew (permIn_refl _ _ _) HPT.out.row.drew_⟩
                  case rest =>
                    obtain ⟨o, rfl, ho, hP2⟩ := hcut
                    have HP2 := Lib.hid hP2
                    have HT := Lib.hid ho
                    clear ho hP2 HPT hsd
                    cases o
                    · go_wp2_with (fail)
                      refine (c_part HOK.out HP2.out q hq1 hq2).mono ?_
                      rintro e w3 ⟨m, ap, rfl, hm1, hm2, hh⟩
                      have HH := Lib.hid hh
                      clear hh HP2 HT
                      obtain ⟨lx, hlx⟩ : ∃ lx, lx = m - x := ⟨_, rfl⟩
                      obtain ⟨ry, hry⟩ : ∃ ry, ry = y - m := ⟨_, rfl⟩
                      obtain ⟨m1, hm1e⟩ : ∃ m1, m1 = m + 1 := ⟨_, rfl⟩
                      obtain ⟨th, hth⟩ : ∃ th, th = l / 8 := ⟨_, rfl⟩
                      have i3 : IntKind.i64.wrap ((m : Int) - (x : Int)) = (lx : Int) := w64 (by omega) (by omega) (by omega)
                      have i4 : IntKind.i64.wrap ((y : Int) - (m : Int)) = (ry : Int) := w64 (by omega) (by omega) (by omega)
                      have i5 : IntKind.i64.wrap ((m : Int) + 1) = (m1 : Int) := w64 (by omega) (by omega) (by omega)
                      have i6 : ((l : Int) / 8) = (th : Int) := by omega
                      have HM1 := Lib.hid hm1e
                      clear hth hm1e hlx hry
                      by_cases hlr : (lx : Int) < (ry : Int)
                      · go_wp2_with (fail)
                        refine (c_left IH.out HOK.out HH.out (by omega) hlq).mono ?_
                        rintro e w4 ⟨rfl, ha⟩
                        have HA4 := Lib.hid ha
                        clear ha HH
                        go_wp2_with (fail)
                        go_roundg (y - (m + 1))
                        case measure => have := HG.out; omega
                        case rel => exact ⟨m + 1, y, lq, _, ap, by rw [HM1.out], rfl, rfl, rfl, rfl, rfl, by omega, by omega, hyD, hlq, HA4.out⟩
                      · go_wp2_with (fail)
                        rw [HM1.out]
                        refine (c_right IH.out HOK.out HH.out (by omega) hlq).mono ?_
                        rintro e w4 ⟨rfl, ha⟩
                        have HA4 := Lib.hid ha
                        clear ha HH
                        go_wp2_with (fail)
                        go_roundg (m - x)
                        case measure => have := HG.out; omega
                        case rel => exact ⟨x, m, lq, _, ap, rfl, rfl, rfl, rfl, rfl, rfl, by omega, hm1, by omega, hlq, HA4.out⟩
                    · have HT2 := Lib.hid (HT.out rfl)
                      clear HT
                      go_wp2_with (fail)
                      refine (c_eq HOK.out HP2.out q HT2.out.1 hq1 hq2 HT2.out.2).mono ?_
                      rintro e w3 ⟨m, rfl, hm1, hm2, ha⟩
                      have HA4 := Lib.hid ha
                      clear ha HP2 HT2
                      go_wp2_with (fail)
                      go_roundg (y - m)
                      case measure => have := HG.out; omega
                      case rel => exact ⟨m, y, lq, wb, wp, rfl, rfl, rfl, rfl, rfl, rfl, by omega, hm2, hyD, hlq, HA4.out⟩

set_option maxHeartbeats 1600000 in
theorem sort_any {hb K : Nat} {v : Value} {cf : Hit → Hit → Int} {base g c : Nat} {d : Array Hit} {w : World} (hc : Cm hb K v cf w) (hr : HRow w base g c d) (hne : hb ≠ g) (hO : SWO (lf cf)) (hsz : d.size < 2305843009213693952) :
    Calls Tryz.prog 149 #[.slice (some ⟨g, 0, none⟩) d.size c, FV hb] w fun e w' =>
      e = .returned (.tuple #[]) ∧ Only (· = g) w w' ∧ ∃ R, PermIn 0 d.size d R ∧ SortedIn (lf cf) 0 d.size R ∧ HRow w' base g c R := by
  have hk : bitsLen d.size ≤ 62 := (bitsLen_le_iff d.size 62).2 (by omega)
  have HS := Lib.hid (pdq_any (d.size + 1) ⟨hb, K, v, cf, base, g, c, d.size, 0, d.size, d, w⟩ (bitsLen d.size) ⟨hO, hne, hsz⟩ (by show d.size - 0 < d.size + 1; omega) (by omega) ⟨rfl, .inl rfl, fun R p1 p2 => ⟨p1, p2⟩, hr, hc, Only.refl _ _, Nat.zero_le _, Nat.le_refl _⟩)
  have HL : Hid (∀ w, Calls Tryz.prog 137 #[.int .u64 (d.size : Int)] w fun e w' => e = .returned (.int .i64 (bitsLen d.size : Nat)) ∧ w' = w) := Lib.hid fun w => by
    have h := Tryz.bits_Len (d.size : Int) w (by omega) (by omega)
    rwa [Int.toNat_natCast, bitLen_eq _ (by omega)] at h
  have wr : IntKind.u64.wrap (d.size : Int) = d.size := u64_nat d.size (by omega)
  generalize bitsLen d.size = lim at HS HL hk
  clear hc hr
  unfold FV
  go_enter Tryz.func149, Tryz.ntmps149
  go_wp2_with (fail)
  refine (HL.out _).mono ?_
  rintro e w' ⟨rfl, rfl⟩
  go_wp2_with (fail)
  refine HS.out.mono ?_
  rintro e w' ⟨rfl, ho, R, p1, p2, p3⟩
  have HF := Lib.hid (And.intro ho (And.intro p1 (And.intro p2 p3)))
  clear ho p1 p2 p3 HS
  go_wp2_with (fail)
  go_end0
  exact ⟨rfl, HF.out.1, R, HF.out.2.1, HF.out.2.2.1, HF.out.2.2.2⟩
end Go.Proofs.YtgbjpobgjmkjgaaGreat.hso
