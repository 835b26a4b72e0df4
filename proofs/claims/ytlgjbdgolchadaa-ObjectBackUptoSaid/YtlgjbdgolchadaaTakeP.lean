/-
  Program-free: what a read of a part tells, case by case.
-/
import Derived.Test.YtlgjbdgolchadaaParts
namespace Go.Proofs.Ytlgjbdgolchadaa.nums

theorem takeP_broken {s : St} (he : s.e ≠ 0) (p : Part) : takeP s p = (zeroP p.kind, s) := by
  have hn : ∀ may, numS s may = (0, s) := fun may => by unfold numS; rw [if_neg he]
  unfold takeP textS
  simp only [hn]
  split
  · rfl
  · split
    · rfl
    · split
      · rfl
      · rw [if_neg (by simp)]
        simp [zeroP]
theorem takeP_bad {s : St} (he : s.e = 0) {E : Int} (h : (first s.b).2.2 = E) (hE : E ≠ 0) (p : Part) : takeP s p = (zeroP p.kind, ⟨[], E⟩) := by
  have hn : ∀ may, numS s may = (0, ⟨[], E⟩) := fun may => by unfold numS; rw [if_pos he, if_neg (by rw [h]; exact hE), h]
  unfold takeP textS
  simp only [hn]
  split
  · rfl
  · split
    · rfl
    · split
      · rfl
      · rw [if_neg (by simp)]
        simp [zeroP]
section
variable {s : St} {N k : Nat} {p : Part}
theorem numS_ok (he : s.e = 0) (h : first s.b = (N, k, 0)) (may : Nat → Bool) : numS s may = if may N = true then (N, ⟨s.b.drop k, 0⟩) else (0, ⟨[], 14⟩) := by
  unfold numS
  rw [if_pos he, h]
  simp
theorem takeP_0 (he : s.e = 0) (h : first s.b = (N, k, 0)) (k0 : p.kind = 0) : takeP s p = if N ≤ p.n then ({ zeroP p.kind with n := N }, ⟨s.b.drop k, 0⟩) else (zeroP p.kind, ⟨[], 14⟩) := by
  unfold takeP
  rw [if_pos k0, numS_ok he h]
  by_cases hm : N ≤ p.n
  · rw [if_pos (by simpa [mayN] using hm), if_pos hm]
  · rw [if_neg (by simpa [mayN] using hm), if_neg hm]
    rfl
theorem takeP_1 (he : s.e = 0) (h : first s.b = (N, k, 0)) (k1 : p.kind = 1) : takeP s p = if p.low ≤ decI N ∧ decI N ≤ p.high then ({ zeroP p.kind with i := decI N }, ⟨s.b.drop k, 0⟩) else (zeroP p.kind, ⟨[], 14⟩) := by
  unfold takeP
  rw [if_neg (by omega), if_pos k1, numS_ok he h]
  by_cases hm : p.low ≤ decI N ∧ decI N ≤ p.high
  · rw [if_pos (by simpa [mayI] using hm), if_pos hm]
  · rw [if_neg (by simpa [mayI] using hm), if_neg hm]
    rfl
theorem takeP_2 (he : s.e = 0) (h : first s.b = (N, k, 0)) (k2 : p.kind = 2) : takeP s p = if N ≤ 1 then ({ zeroP p.kind with f := decide (N = 1) }, ⟨s.b.drop k, 0⟩) else (zeroP p.kind, ⟨[], 14⟩) := by
  unfold takeP
  rw [if_neg (by omega), if_neg (by omega), if_pos k2, numS_ok he h]
  by_cases hm : N ≤ 1
  · rw [if_pos (by simpa [mayN] using hm), if_pos hm]
  · rw [if_neg (by simpa [mayN] using hm), if_neg hm]
    rfl
theorem takeP_3 (he : s.e = 0) (h : first s.b = (N, k, 0)) (k0 : p.kind ≠ 0) (k1 : p.kind ≠ 1) (k2 : p.kind ≠ 2) :
    takeP s p = if 0 ≤ p.most ∧ (N : Int) ≤ p.most then (if (s.b.drop k).length < N then (zeroP p.kind, ⟨[], 13⟩) else ({ zeroP p.kind with t := ⟨((s.b.drop k).take N).toArray⟩ }, ⟨(s.b.drop k).drop N, 0⟩)) else (zeroP p.kind, ⟨[], 14⟩) := by
  unfold takeP textS
  rw [if_neg k0, if_neg k1, if_neg k2]
  by_cases hm : 0 ≤ p.most ∧ (N : Int) ≤ p.most
  · have e := numS_ok he h (fun n => decide (0 ≤ p.most) && decide ((n : Int) ≤ p.most))
    rw [if_pos (by simpa using hm)] at e
    rw [e, if_pos hm]
    by_cases hl : (s.b.drop k).length < N
    · rw [if_pos hl, if_pos hl]; rfl
    · rw [if_neg hl, if_neg hl]
  · have e := numS_ok he h (fun n => decide (0 ≤ p.most) && decide ((n : Int) ≤ p.most))
    rw [if_neg (by simpa using hm)] at e
    rw [e, if_neg hm]
    simp [zeroP]
end
end Go.Proofs.Ytlgjbdgolchadaa.nums
