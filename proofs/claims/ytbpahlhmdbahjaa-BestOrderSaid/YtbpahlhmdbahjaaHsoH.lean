/-
  The contracts of siftDownCmpFunc and heapSortCmpFunc.
-/
import Derived.Test.YtbpahlhmdbahjaaHso
namespace Go.Proofs.Ytbpahlhmdbahjaa.hso
open Go.RowKit law bytes only flat hit heapM best Go.Sort Go.Shelf
set_option linter.unusedVariables false

section
variable {lt : Hit → Hit → Bool} {hi first root : Nat} {d : Array Hit}
theorem sift_end (h : 2 * root + 1 ≥ hi) : siftDown lt hi first root d = d := by rw [siftDown, dif_pos h]
/-- the child that counts -/
def kidOf (lt : Hit → Hit → Bool) (hi first root : Nat) (d : Array Hit) : Nat := if 2 * root + 1 + 1 < hi && lt d[first + (2 * root + 1)]! d[first + (2 * root + 1) + 1]! then 2 * root + 2 else 2 * root + 1
theorem kid_lt (h : ¬ 2 * root + 1 ≥ hi) : kidOf lt hi first root d < hi ∧ root < kidOf lt hi first root d := by
  unfold kidOf
  split
  · rename_i h2
    simp at h2
    omega
  · omega
theorem sift_no (h : ¬ 2 * root + 1 ≥ hi) (hl : lt d[first + root]! d[first + kidOf lt hi first root d]! = false) : siftDown lt hi first root d = d := by
  rw [siftDown, dif_neg h]
  unfold kidOf at hl
  split
  · rename_i h2
    rw [if_pos h2] at hl
    rw [hl]; rfl
  · rename_i h2
    rw [if_neg h2] at hl
    rw [hl]; rfl
theorem sift_go (h : ¬ 2 * root + 1 ≥ hi) (hl : lt d[first + root]! d[first + kidOf lt hi first root d]! = true) : siftDown lt hi first root d = siftDown lt hi first (kidOf lt hi first root d) (swp d (first + root) (first + kidOf lt hi first root d)) := by
  rw [siftDown, dif_neg h]
  unfold kidOf at hl ⊢
  by_cases h2 : (decide (2 * root + 1 + 1 < hi) && lt d[first + (2 * root + 1)]! d[first + (2 * root + 1) + 1]!) = true
  · rw [if_pos h2] at hl ⊢
    have h3 : 2 * root + 2 < hi := by simp at h2; omega
    simp only [h2, if_true, hl, dif_pos h3, Bool.not_true, Bool.false_eq_true, if_false]
  · rw [if_neg h2] at hl ⊢
    simp only [h2, hl, Bool.not_true, Bool.false_eq_true, if_false]
end
set_option maxRecDepth 100000 in
set_option maxHeartbeats 6400000 in
theorem sift_any {hb K : Nat} {v : Value} {cf : Hit → Hit → Int} {base g c : Nat} {d : Array Hit} {w : World} (hc : Cm hb K v cf w) (hr : HRow w base g c d) (hne : hb ≠ g) (lo hi first : Nat) (hlo : lo ≤ hi) (hb2 : first + hi ≤ d.size) (hsz : d.size < 2305843009213693952) :
    Calls Try.prog 53 #[.slice (some ⟨g, 0, none⟩) d.size c, .int .i64 lo, .int .i64 hi, .int .i64 first, FV hb] w fun e w' =>
      e = .returned (.tuple #[]) ∧ Only (· = g) w w' ∧ HRow w' base g c (siftDown (lf cf) hi first lo d) := by
  have HC := Lib.hid hc
  clear hc
  unfold FV
  go_enter Try.func53, Try.ntmps53
  go_wp2_with (fail)
  go_loopg [10, 11] (hi - lo) (fun gk s10 s11 wr => ∃ (root : Nat) (d' : Array Hit), gk = hi - root ∧ s10 = .int .i64 root ∧ root ≤ hi ∧ d'.size = d.size ∧ siftDown (lf cf) hi first root d' = siftDown (lf cf) hi first lo d ∧ HRow wr base g c d' ∧ Only (· = g) w wr)
  case atStart => exact ⟨lo, d, rfl, rfl, hlo, rfl, rfl, hr, Only.refl _ _⟩
  case round =>
    clear hr
    obtain ⟨root, d', rfl, rfl, hroot, hds, heq, hr, ho⟩ := hrel
    obtain ⟨t, ht⟩ : ∃ t, t = 2 * root := ⟨_, rfl⟩
    obtain ⟨t1, ht1⟩ : ∃ t1, t1 = 2 * root + 1 := ⟨_, rfl⟩
    have i1 : IntKind.i64.wrap (2 * (root : Int)) = (t : Int) := w64 (by omega) (by omega) (by omega)
    have i2 : IntKind.i64.wrap ((t : Int) + 1) = (t1 : Int) := w64 (by omega) (by omega) (by omega)
    have HT1 := Lib.hid ht1
    by_cases hend : hi ≤ t1
    · have i3 : (hi : Int) ≤ (t1 : Int) := by omega
      rw [sift_end (by omega)] at heq
      have HR := Lib.hid hr
      have HO := Lib.hid ho
      have HE := Lib.hid heq
      clear hr ho heq ht ht1
      go_wp2_with (fail)
      first
        | (refine bodyPost_ret (results_none rfl _ _ _) rfl ?_; exact ⟨rfl, HO.out, by rw [← HE.out]; exact HR.out⟩)
        | (go_end0; exact ⟨rfl, HO.out, by rw [← HE.out]; exact HR.out⟩)
    · have i3 : ¬ (hi : Int) ≤ (t1 : Int) := by omega
      obtain ⟨t2, ht2⟩ : ∃ t2, t2 = 2 * root + 2 := ⟨_, rfl⟩
      obtain ⟨f1, hf1⟩ : ∃ f1, f1 = first + t1 := ⟨_, rfl⟩
      obtain ⟨f2, hf2⟩ : ∃ f2, f2 = first + t1 + 1 := ⟨_, rfl⟩
      obtain ⟨f0, hf0⟩ : ∃ f0, f0 = first + root := ⟨_, rfl⟩
      have i4 : IntKind.i64.wrap ((t1 : Int) + 1) = (t2 : Int) := w64 (by omega) (by omega) (by omega)
      have i5 : IntKind.i64.wrap ((first : Int) + (t1 : Int)) = (f1 : Int) := w64 (by omega) (by omega) (by omega)
      have i6 : IntKind.i64.wrap ((f1 : Int) + 1) = (f2 : Int) := w64 (by omega) (by omega) (by omega)
      have i7 : IntKind.i64.wrap ((first : Int) + (root : Int)) = (f0 : Int) := w64 (by omega) (by omega) (by omega)
      have i8 : IntKind.i64.wrap ((first : Int) + (t2 : Int)) = (f2 : Int) := w64 (by omega) (by omega) (by omega)
      have i9 : (f1 : Int) < (d.size : Int) := by omega
      have i10 : (f0 : Int) < (d.size : Int) := by omega
      have HT := Lib.hid (And.intro ht (And.intro ht1 (And.intro ht2 (And.intro hf1 (And.intro hf2 hf0)))))
      have HE0 := Lib.hid heq
      have HN0 : Hid (¬ hi ≤ t1) := Lib.hid hend
      clear ht ht1 ht2 hf0 hf1 hf2 heq HT1
      by_cases hk : t2 < hi
      · have i11 : (t2 : Int) < (hi : Int) := by omega
        have i12 : (f2 : Int) < (d.size : Int) := by have := HT.out; omega
        obtain ⟨x, y, r, hx, hy, hl, HS, HCC, q0, q1, q2, q3⟩ := cmp_step (HC.out.only ho hne) hr f1 f2 (by have := HT.out; omega) (by have := HT.out; omega)
        have HR := Lib.hid hr
        have HO := Lib.hid ho
        have hx1 : lf cf d'[f1]! d'[f2]! = decide (r < 0) := by rw [hx, hy]; exact hl
        have HX1 := Lib.hid hx1
        clear hr ho hx hy hl hx1
        by_cases hrr : r < 0
        · have hd1 : decide (r < 0) = true := decide_eq_true hrr
          have hkd : kidOf (lf cf) hi first root d' = t2 := by
            unfold kidOf
            have h1 := HX1.out
            rw [hd1] at h1
            have hT := HT.out
            rw [show first + (2 * root + 1) = f1 by omega, show f1 + 1 = f2 by omega, h1, hT.2.2.1]
            simp; omega
          have HKD := Lib.hid hkd
          clear hkd hrr HX1
          go_wp2_with (fail)
          go_region_held3 (fun W => W.cell? ⟨g, f1 * 2, none⟩ = some (.int .u64 x.1) ∧ W.cell? ⟨g, f1 * 2 + 1, none⟩ = some (.int .i64 x.2) ∧ W.cell? ⟨g, f2 * 2, none⟩ = some (.int .u64 y.1) ∧ W.cell? ⟨g, f2 * 2 + 1, none⟩ = some (.int .i64 y.2)) ((refine HS.out _ ?_; repeat' (first | (with_reducible exact Below.refl _ _) | (with_reducible assumption) | (with_reducible refine Below.drew ?_) | (with_reducible refine below_drewN' ?_ _))))
            (first
              | (go_at_call 36; (with_reducible refine (HCC.out _ (by repeat' (first | (with_reducible exact Below.refl _ _) | (with_reducible assumption) | (with_reducible refine Below.drew ?_) | (with_reducible refine below_drewN' ?_ _)))).mono ?_); rintro e w2 ⟨rfl, hb2⟩))
          have HR2 := Lib.hid (HR.out.below hb2 (Nat.le_refl _))
          have HO2 := Lib.hid (HO.out.on hb2)
          clear hb2 HCC HS HR HO q0 q1 q2 q3 hd1
          obtain ⟨x, y, r, hx, hy, hl, HS, HCC, q0, q1, q2, q3⟩ := cmp_step (HC.out.only HO2.out hne) HR2.out f0 f2 (by have := HT.out; omega) (by have := HT.out; omega)
          have HX := Lib.hid hx
          have HY := Lib.hid hy
          have HL := Lib.hid hl
          clear hx hy hl
          obtain ⟨o, hd⟩ : ∃ o, decide (r < 0) = o := ⟨_, rfl⟩
          rw [hd] at HL
          go_wp2_with (fail)
          go_region_held3 (fun W => W.cell? ⟨g, f0 * 2, none⟩ = some (.int .u64 x.1) ∧ W.cell? ⟨g, f0 * 2 + 1, none⟩ = some (.int .i64 x.2) ∧ W.cell? ⟨g, f2 * 2, none⟩ = some (.int .u64 y.1) ∧ W.cell? ⟨g, f2 * 2 + 1, none⟩ = some (.int .i64 y.2)) ((refine HS.out _ ?_; repeat' (first | (with_reducible exact Below.refl _ _) | (with_reducible assumption) | (with_reducible refine Below.drew ?_) | (with_reducible refine below_drewN' ?_ _))))
            (first
              | (go_at_call 36; (with_reducible refine (HCC.out _ (by repeat' (first | (with_reducible exact Below.refl _ _) | (with_reducible assumption) | (with_reducible refine Below.drew ?_) | (with_reducible refine below_drewN' ?_ _)))).mono ?_); rintro e w3 ⟨rfl, hb3⟩))
          have HR3 := Lib.hid (HR2.out.below hb3 (Nat.le_refl _))
          have HO3 := Lib.hid (HO2.out.on hb3)
          have hl : lf cf d'[first + root]! d'[first + kidOf (lf cf) hi first root d']! = o := by rw [HKD.out, show first + t2 = f2 by have := HT.out; omega, ← HT.out.2.2.2.2.2, HX.out, HY.out]; exact HL.out
          clear hb3 HCC HS q0 q1 q2 q3 HL
          cases o with
          | true =>
            obtain ⟨q0, q1, q2, q3, ⟨fz0, fz1, fz2, fz3⟩, ⟨u, uu, q4, q5, q6⟩, HRS, HOS⟩ := swap_step HR3.out f0 f2 (by have := HT.out; omega) (by have := HT.out; omega) HO3.out HX.out HY.out
            have hst := HE0.out
            rw [sift_go (by have := HT.out; omega) hl, HKD.out, show first + t2 = f2 by have := HT.out; omega, ← HT.out.2.2.2.2.2] at hst
            have HST := Lib.hid hst
            have HKL := Lib.hid (kid_lt (lt := lf cf) (first := first) (d := d') (show ¬ 2 * root + 1 ≥ hi by have := HT.out; omega))
            rw [HKD.out] at HKL
            clear hst hl hd HKD
            go_wp2_with (fail)
            go_region
            go_wp2_with (fail)
            go_roundg (hi - t2)
            case measure => have := HKL.out; omega
            case rel => exact ⟨t2, swp d' f0 f2, rfl, rfl, by have := HKL.out; omega, by rw [size_swp]; exact hds, HST.out, HRS.out, HOS.out⟩
          | false =>
            have hst := HE0.out
            rw [sift_no (by have := HT.out; omega) hl] at hst
            have HST := Lib.hid hst
            clear hst hl hd HKD
            go_wp2_with (fail)
            refine bodyPost_ret (results_none rfl _ _ _) rfl ?_
            exact ⟨rfl, HO3.out, by rw [← HST.out]; exact HR3.out⟩
        · have hd1 : decide (r < 0) = false := decide_eq_false hrr
          have hkd : kidOf (lf cf) hi first root d' = t1 := by
            unfold kidOf
            have h1 := HX1.out
            rw [hd1] at h1
            have hT := HT.out
            rw [show first + (2 * root + 1) = f1 by omega, show f1 + 1 = f2 by omega, h1, hT.2.1]
            simp
          have HKD := Lib.hid hkd
          clear hkd hrr HX1
          go_wp2_with (fail)
          go_region_held3 (fun W => W.cell? ⟨g, f1 * 2, none⟩ = some (.int .u64 x.1) ∧ W.cell? ⟨g, f1 * 2 + 1, none⟩ = some (.int .i64 x.2) ∧ W.cell? ⟨g, f2 * 2, none⟩ = some (.int .u64 y.1) ∧ W.cell? ⟨g, f2 * 2 + 1, none⟩ = some (.int .i64 y.2)) ((refine HS.out _ ?_; repeat' (first | (with_reducible exact Below.refl _ _) | (with_reducible assumption) | (with_reducible refine Below.drew ?_) | (with_reducible refine below_drewN' ?_ _))))
            (first
              | (go_at_call 36; (with_reducible refine (HCC.out _ (by repeat' (first | (with_reducible exact Below.refl _ _) | (with_reducible assumption) | (with_reducible refine Below.drew ?_) | (with_reducible refine below_drewN' ?_ _)))).mono ?_); rintro e w2 ⟨rfl, hb2⟩))
          have HR2 := Lib.hid (HR.out.below hb2 (Nat.le_refl _))
          have HO2 := Lib.hid (HO.out.on hb2)
          clear hb2 HCC HS HR HO q0 q1 q2 q3 hd1
          obtain ⟨x, y, r, hx, hy, hl, HS, HCC, q0, q1, q2, q3⟩ := cmp_step (HC.out.only HO2.out hne) HR2.out f0 f1 (by have := HT.out; omega) (by have := HT.out; omega)
          have HX := Lib.hid hx
          have HY := Lib.hid hy
          have HL := Lib.hid hl
          clear hx hy hl
          obtain ⟨o, hd⟩ : ∃ o, decide (r < 0) = o := ⟨_, rfl⟩
          rw [hd] at HL
          go_wp2_with (fail)
          go_region_held3 (fun W => W.cell? ⟨g, f0 * 2, none⟩ = some (.int .u64 x.1) ∧ W.cell? ⟨g, f0 * 2 + 1, none⟩ = some (.int .i64 x.2) ∧ W.cell? ⟨g, f1 * 2, none⟩ = some (.int .u64 y.1) ∧ W.cell? ⟨g, f1 * 2 + 1, none⟩ = some (.int .i64 y.2)) ((refine HS.out _ ?_; repeat' (first | (with_reducible exact Below.refl _ _) | (with_reducible assumption) | (with_reducible refine Below.drew ?_) | (with_reducible refine below_drewN' ?_ _))))
            (first
              | (go_at_call 36; (with_reducible refine (HCC.out _ (by repeat' (first | (with_reducible exact Below.refl _ _) | (with_reducible assumption) | (with_reducible refine Below.drew ?_) | (with_reducible refine below_drewN' ?_ _)))).mono ?_); rintro e w3 ⟨rfl, hb3⟩))
          have HR3 := Lib.hid (HR2.out.below hb3 (Nat.le_refl _))
          have HO3 := Lib.hid (HO2.out.on hb3)
          have hl : lf cf d'[first + root]! d'[first + kidOf (lf cf) hi first root d']! = o := by rw [HKD.out, show first + t1 = f1 by have := HT.out; omega, ← HT.out.2.2.2.2.2, HX.out, HY.out]; exact HL.out
          clear hb3 HCC HS q0 q1 q2 q3 HL
          cases o with
          | true =>
            obtain ⟨q0, q1, q2, q3, ⟨fz0, fz1, fz2, fz3⟩, ⟨u, uu, q4, q5, q6⟩, HRS, HOS⟩ := swap_step HR3.out f0 f1 (by have := HT.out; omega) (by have := HT.out; omega) HO3.out HX.out HY.out
            have hst := HE0.out
            rw [sift_go (by have := HT.out; omega) hl, HKD.out, show first + t1 = f1 by have := HT.out; omega, ← HT.out.2.2.2.2.2] at hst
            have HST := Lib.hid hst
            have HKL := Lib.hid (kid_lt (lt := lf cf) (first := first) (d := d') (show ¬ 2 * root + 1 ≥ hi by have := HT.out; omega))
            rw [HKD.out] at HKL
            clear hst hl hd HKD
            go_wp2_with (fail)
            go_region
            go_wp2_with (fail)
            go_roundg (hi - t1)
            case measure => have := HKL.out; omega
            case rel => exact ⟨t1, swp d' f0 f1, rfl, rfl, by have := HKL.out; omega, by rw [size_swp]; exact hds, HST.out, HRS.out, HOS.out⟩
          | false =>
            have hst := HE0.out
            rw [sift_no (by have := HT.out; omega) hl] at hst
            have HST := Lib.hid hst
            clear hst hl hd HKD
            go_wp2_with (fail)
            refine bodyPost_ret (results_none rfl _ _ _) rfl ?_
            exact ⟨rfl, HO3.out, by rw [← HST.out]; exact HR3.out⟩
      · have i11 : ¬ (t2 : Int) < (hi : Int) := by omega
        have hkd : kidOf (lf cf) hi first root d' = t1 := by
          unfold kidOf
          have hT := HT.out
          rw [if_neg (by simp; omega), hT.2.1]
        have HKD := Lib.hid hkd
        have HR2 : Hid (HRow wr.drew base g c d') := Lib.hid hr.drew_
        have HO2 : Hid (Only (· = g) w wr.drew) := Lib.hid ho.drew
        clear hkd hr ho
        go_wp2_with (fail)
        go_region
        obtain ⟨x, y, r, hx, hy, hl, HS, HCC, q0, q1, q2, q3⟩ := cmp_step (HC.out.only HO2.out hne) HR2.out f0 f1 (by have := HT.out; omega) (by have := HT.out; omega)
        have HX := Lib.hid hx
        have HY := Lib.hid hy
        have HL := Lib.hid hl
        clear hx hy hl
        obtain ⟨o, hd⟩ : ∃ o, decide (r < 0) = o := ⟨_, rfl⟩
        rw [hd] at HL
        go_wp2_with (fail)
        go_region_held3 (fun W => W.cell? ⟨g, f0 * 2, none⟩ = some (.int .u64 x.1) ∧ W.cell? ⟨g, f0 * 2 + 1, none⟩ = some (.int .i64 x.2) ∧ W.cell? ⟨g, f1 * 2, none⟩ = some (.int .u64 y.1) ∧ W.cell? ⟨g, f1 * 2 + 1, none⟩ = some (.int .i64 y.2)) ((refine HS.out _ ?_; repeat' (first | (with_reducible exact Below.refl _ _) | (with_reducible assumption) | (with_reducible refine Below.drew ?_) | (with_reducible refine below_drewN' ?_ _))))
          (first
            | (go_at_call 36; (with_reducible refine (HCC.out _ (by repeat' (first | (with_reducible exact Below.refl _ _) | (with_reducible assumption) | (with_reducible refine Below.drew ?_) | (with_reducible refine below_drewN' ?_ _)))).mono ?_); rintro e w3 ⟨rfl, hb3⟩))
        have HR3 := Lib.hid (HR2.out.below hb3 (Nat.le_refl _))
        have HO3 := Lib.hid (HO2.out.on hb3)
        have hl : lf cf d'[first + root]! d'[first + kidOf (lf cf) hi first root d']! = o := by rw [HKD.out, show first + t1 = f1 by have := HT.out; omega, ← HT.out.2.2.2.2.2, HX.out, HY.out]; exact HL.out
        clear hb3 HCC HS q0 q1 q2 q3 HL
        cases o with
        | true =>
          obtain ⟨q0, q1, q2, q3, ⟨fz0, fz1, fz2, fz3⟩, ⟨u, uu, q4, q5, q6⟩, HRS, HOS⟩ := swap_step HR3.out f0 f1 (by have := HT.out; omega) (by have := HT.out; omega) HO3.out HX.out HY.out
          have hst := HE0.out
          rw [sift_go (by have := HT.out; omega) hl, HKD.out, show first + t1 = f1 by have := HT.out; omega, ← HT.out.2.2.2.2.2] at hst
          have HST := Lib.hid hst
          have HKL := Lib.hid (kid_lt (lt := lf cf) (first := first) (d := d') (show ¬ 2 * root + 1 ≥ hi by have := HT.out; omega))
          rw [HKD.out] at HKL
          clear hst hl hd HKD
          go_wp2_with (fail)
          go_region
          go_wp2_with (fail)
          go_roundg (hi - t1)
          case measure => have := HKL.out; omega
          case rel => exact ⟨t1, swp d' f0 f1, rfl, rfl, by have := HKL.out; omega, by rw [size_swp]; exact hds, HST.out, HRS.out, HOS.out⟩
        | false =>
          have hst := HE0.out
          rw [sift_no (by have := HT.out; omega) hl] at hst
          have HST := Lib.hid hst
          clear hst hl hd HKD
          go_wp2_with (fail)
          refine bodyPost_ret (results_none rfl _ _ _) rfl ?_
          exact ⟨rfl, HO3.out, by rw [← HST.out]; exact HR3.out⟩
end Go.Proofs.Ytbpahlhmdbahjaa.hso
