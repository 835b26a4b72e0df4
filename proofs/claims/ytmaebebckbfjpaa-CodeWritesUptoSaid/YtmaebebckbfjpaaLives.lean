/-
  The document's own end, what lives, and parts against parts.
-/
import Derived.Test.YtmaebebckbfjpaaTake
import Derived.Test.YtmaebebckbfjpaaSame
namespace Go.Proofs.Ytmaebebckbfjpaa.code
open Go.RowKit law bytes nums same
set_option linter.unusedVariables false

theorem rend_any (A : Option Addr) (s : St) (c : Nat) (w : World) (hl : s.b.length ≤ 281474976710656) :
    Calls Try.prog 18 #[.agg #[.slice A s.b.length c, .int .i64 s.e]] w fun e w' => e = .returned (.int .i64 (endP s)) ∧ Below w.heap.size w w' := by
  by_cases he : s.e = 0
  · have d1 : (s.e == 0) = true := by simpa using he
    have d2 : (s.e != 0) = false := by simpa using he
    by_cases hz : s.b.length = 0
    · have HE : endP s = 0 := by unfold endP; rw [if_pos he, if_pos hz]
      have HE := Lib.hid HE
      have d3 : decide ((0 : Int) < (s.b.length : Int)) = false := decide_eq_false (by omega)
      have d4 : decide (0 < s.b.length) = false := decide_eq_false (by omega)
      have HS := Lib.hid he
      clear hz he
      go_enter Try.func18, Try.ntmps18
      go_wp2
      go_ret
      exact ⟨by rw [HE.out, ← HS.out]; rfl, (Below.refl _ _).alloc (Nat.le_refl _) _⟩
    · have HE : endP s = 12 := by unfold endP; rw [if_pos he, if_neg hz]
      have HE := Lib.hid HE
      have d3 : decide ((0 : Int) < (s.b.length : Int)) = true := decide_eq_true (by omega)
      have d4 : decide (0 < s.b.length) = true := decide_eq_true (by omega)
      clear he hz
      go_enter Try.func18, Try.ntmps18
      go_wp2
      go_ret
      exact ⟨by rw [HE.out]; rfl, (Below.refl _ _).alloc (Nat.le_refl _) _⟩
  · have d1 : (s.e == 0) = false := by simpa using he
    have d2 : (s.e != 0) = true := by simpa using he
    have HE : endP s = s.e := by unfold endP; rw [if_neg he]
    have HE := Lib.hid HE
    clear he
    go_enter Try.func18, Try.ntmps18
    go_wp2
    go_ret
    exact ⟨by rw [HE.out]; rfl, (Below.refl _ _).alloc (Nat.le_refl _) _⟩

/-! ### what lives -/
theorem live_bytes : encB 300 ++ encB (encI (-1)) = [172, 2, 1] := by decide +kernel
theorem live_1 : numS ⟨[172, 2, 1], 0⟩ (mayN 300) = (300, ⟨[1], 0⟩) := by
  have h : first [172, 2, 1] = (300, 2, 0) := by decide +kernel
  simp [numS, h, mayN]
theorem live_2 : numS ⟨[1], 0⟩ (mayI (-1) 0) = (1, ⟨[], 0⟩) := by
  have h : first [1] = (1, 1, 0) := by decide +kernel
  have h2 : mayI (-1) 0 1 = true := by decide +kernel
  simp [numS, h, h2]
theorem live_3 : numS ⟨[], 0⟩ (mayN 9) = (0, ⟨[], 13⟩) := by
  have h : first [] = (0, 0, 13) := by decide +kernel
  simp [numS, h]
theorem Sl.of_blk {w : World} {b t : Nat} {cs : Array Value} (h : Blk w b t cs) : Sl w w.heap.size (some ⟨b, 0, none⟩) cs.toList := fun j u hj => by
  refine ⟨_, rfl, h.lt, ?_⟩
  have e : (⟨b, 0, none⟩ : Addr).add j = ⟨b, j, none⟩ := by
    unfold Addr.add
    by_cases hz : j = 0 <;> simp [hz]
  rw [e, h.cell j]
  simpa using hj
set_option maxHeartbeats 800000 in
theorem lives_any (w : World) : Calls Try.prog 12 #[] w fun e w' => e = .returned (.bool true) ∧ Below w.heap.size w w' := by
  go_enter Try.func12, Try.ntmps12
  go_wp2_with (fail)
  refine (new_any w).mono ?_
  rintro e w1 ⟨rfl, hb1, hw1⟩
  have h2 := num_any w.heap.size 300 (by unfold U64; omega) [] w1 hw1 (by simp)
  rw [show ((300 : Nat) : Int) = 300 from rfl] at h2
  go_wp2_with (fail)
  refine h2.mono ?_
  rintro e w2 ⟨rfl, hb2, hw2⟩
  have h3 := int_any w.heap.size (-1) (by omega) (by omega) _ w2 hw2 (by rw [show ([] ++ encB 300) = [172, 2] from by decide +kernel]; simp)
  rw [show ([] ++ encB 300 ++ encB (encI (-1))) = [172, 2, 1] from by decide +kernel] at h3
  clear h2 hw1
  go_wp2_with (fail)
  refine h3.mono ?_
  rintro e w3 ⟨rfl, hb3, hw3⟩
  have h4 := bytes_any w.heap.size _ w3 hw3 (by simp)
  have hB3 := (hb1.trans hb2).trans hb3
  clear h3 hw2 hb1 hb2 hb3
  go_wp2_with (fail)
  refine h4.mono ?_
  rintro e w4 ⟨A4, c4, rfl, hc4, hs4, hb4⟩
  have h5 := newr_any A4 [172, 2, 1] _ c4 w4.heap.size w4 rfl (by simp) (Nat.le_refl _) hs4
  have hB4 := hB3.trans (hb4.mono hB3.size)
  clear h4 hw3 hB3 hb4
  go_wp2_with (fail)
  refine h5.mono ?_
  rintro e w5 ⟨g, rfl, hg5, hr5, hb5⟩
  have hB5 := hB4.trans (hb5.mono hB4.size)
  have hs5 := hs4.on hb5
  have hwg : w.heap.size ≤ g := Nat.le_trans hB4.size hg5
  clear h5 hB4 hs4 hb5
  have h6 := same_any A4 (some ⟨w5.heap.size, 0, none⟩) [172, 2, 1] [172, 2, 1] 3 3 c4 3 _ _ (w5.alloc (.cells #[.int .u8 172, .int .u8 2, .int .u8 1] 5)) rfl rfl (by omega) (hs5.alloc (Nat.le_refl _) _) (Sl.of_blk (Blk.new w5 5 #[.int .u8 172, .int .u8 2, .int .u8 1]))
  rw [decide_eq_true rfl] at h6
  have hr6 := hr5.alloc (.cells #[.int .u8 172, .int .u8 2, .int .u8 1] 5)
  have hB6 := hB5.alloc hB5.size (.cells #[.int .u8 172, .int .u8 2, .int .u8 1] 5)
  clear hs5 hr5 hB5
  go_wp2_with (fail)
  refine h6.mono ?_
  rintro e w6 ⟨rfl, j, rfl⟩
  have h7 := rnum_read g ⟨[172, 2, 1], 0⟩ 300 _ (hr6.drewN j) (by simp)
  rw [live_1, show ((300 : Nat) : Int) = 300 from rfl] at h7
  have hB7 := below_drewN' hB6 j
  clear h6 hr6 hB6
  go_wp2_with (fail)
  refine h7.mono ?_
  rintro e w7 ⟨rfl, hg7, hr7⟩
  have h8 := rint_read g ⟨[1], 0⟩ (-1) 0 w7 hr7 (by simp)
  rw [live_2, show decI 1 = -1 from rfl] at h8
  have hB8 : Below w.heap.size w w7 := hB7.grown hg7 hB7.size (fun k hk => by injection hk; omega)
  clear h7 hB7 hg7
  go_wp2_with (fail)
  refine h8.mono ?_
  rintro e w8 ⟨rfl, hg8, hr8⟩
  have h9 := end_any g ⟨[], 0⟩ w8 hr8 (by simp)
  rw [show endP ⟨[], 0⟩ = 0 from rfl] at h9
  have hB9 : Below w.heap.size w w8 := hB8.grown hg8 hB8.size (fun k hk => by injection hk; omega)
  clear h8 hB8 hg8 hr7
  go_wp2_with (fail)
  refine h9.mono ?_
  rintro e w9 ⟨rfl, rfl⟩
  have h10 := rnum_read g ⟨[], 0⟩ 9 w8 hr8 (by simp)
  rw [live_3, show ((9 : Nat) : Int) = 9 from rfl, show ((0 : Nat) : Int) = 0 from rfl] at h10
  clear h9
  go_wp2_with (fail)
  refine h10.mono ?_
  rintro e w10 ⟨rfl, hg10, hr10⟩
  have h11 := end_any g ⟨[], 13⟩ w10 hr10 (by simp)
  rw [show endP ⟨[], 13⟩ = 13 from rfl] at h11
  have hB11 : Below w.heap.size w w10 := hB9.grown hg10 hB9.size (fun k hk => by injection hk; omega)
  clear h10 hB9 hg10 hr8
  go_wp2_with (fail)
  refine h11.mono ?_
  rintro e w11 ⟨rfl, rfl⟩
  clear h11
  go_wp2_with (fail)
  go_ret
  exact ⟨rfl, hB11⟩
end Go.Proofs.Ytmaebebckbfjpaa.code
