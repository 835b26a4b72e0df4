/-
  What lives: the least one of three is popped.
-/
import Derived.Test.YtcnncfjplmejhaaHPop
namespace Go.Proofs.Ytcnncfjplmejhaa.heap
open Go.RowKit law bytes only heapM Go.Sort Go.Shelf
set_option linter.unusedVariables false

theorem order_enters : Enters Try.prog 7 := enters_of Try.func7 (by kernel_rfl) rfl
theorem order_tells : Ordr (α := Int) 7 iE cI := fun W x y => (order_any x y W).mono fun e w' ⟨he, hw⟩ => ⟨he, hw ▸ Below.refl _ _⟩
theorem cI_lt (x y : Int) : lf cI x y = decide (x < y) := by
  unfold lf cI
  by_cases h1 : x < y
  · rw [if_pos h1]; simp [h1]
  · rw [if_neg h1]
    by_cases h2 : y < x
    · rw [if_pos h2]; simp [h1]
    · rw [if_neg h2]; simp [h1]
theorem cI_swo : SWO (lf cI) where
  irrefl x := by rw [cI_lt]; simp
  trans x y z h1 h2 := by rw [cI_lt] at *; simp at *; omega
  ntrans x y z h1 h2 := by rw [cI_lt] at *; simp at *; omega

theorem heap_empty : Heap (lf cI) (#[] : Array Int) := fun i h0 hi => by simp at hi
set_option maxHeartbeats 1600000 in
theorem lives_any (w : World) : Calls Try.prog 15 #[] w fun e w' => e = .returned (.bool true) ∧ Below w.heap.size w w' := by
  go_enter Try.func15, Try.ntmps15
  go_wp2_with (fail)
  refine (new_int 7 w.heap.size w (Nat.le_refl _)).mono ?_
  rintro e w1 ⟨rfl, hb1, hp1⟩
  go_wp2_with (fail)
  refine (push_int cI order_enters order_tells cI_swo 3 w1 hp1 heap_empty hb1.size (by simp)).mono ?_
  rintro e w2 ⟨rfl, ho2, v2, d2, hp2, hh2, pe2, hm2⟩
  have hs2 := Nat.le_trans hb1.size ho2.size
  have hb2 : Below w.heap.size w w2 := hb1.trans (ho2.below hb1.size fun i e => by rcases e with rfl | e; exact Nat.le_refl _; simp [Value.ownBlock] at e)
  have z2 : d2.size = 1 := by have := pe2.length_eq; simpa using this
  go_wp2_with (fail)
  refine (push_int cI order_enters order_tells cI_swo 1 w2 hp2 hh2 hs2 (by rw [z2]; omega)).mono ?_
  rintro e w3 ⟨rfl, ho3, v3, d3, hp3, hh3, pe3, hm3⟩
  have hs3 := Nat.le_trans hs2 ho3.size
  have hb3 : Below w.heap.size w w3 := hb2.trans (ho3.below hs2 fun i e => by rcases e with rfl | e; exact Nat.le_refl _; exact (own_lt hp2.2.1 e).1)
  have z3 : d3.size = 2 := by have := pe3.length_eq; simp [z2] at this; exact this
  go_wp2_with (fail)
  refine (push_int cI order_enters order_tells cI_swo 2 w3 hp3 hh3 hs3 (by rw [z3]; omega)).mono ?_
  rintro e w4 ⟨rfl, ho4, v4, d4, hp4, hh4, pe4, hm4⟩
  have hs4 := Nat.le_trans hs3 ho4.size
  have hb4 : Below w.heap.size w w4 := hb3.trans (ho4.below hs3 fun i e => by rcases e with rfl | e; exact Nat.le_refl _; exact (own_lt hp3.2.1 e).1)
  have z4 : d4.size = 3 := by have := pe4.length_eq; simp [z3] at this; exact this
  have htop := fun i hi => hh4.top cI_swo i i (Nat.le_refl _) hi
  have hall : d4.toList.Perm [2, 1, 3] := pe4.trans (List.Perm.cons 2 (pe3.trans (List.Perm.cons 1 (pe2.trans (by simp)))))
  have h1 : d4[0]! = 1 := by
    have m0 : d4[0]! ∈ d4.toList := by rw [getElem!_pos d4 0 (by omega)]; exact Array.getElem_mem_toList _
    have m1 : (1 : Int) ∈ d4.toList := hall.mem_iff.2 (by simp)
    obtain ⟨j, hj, e⟩ := List.getElem_of_mem m1
    have h2 := htop j (by simpa using hj)
    rw [cI_lt, getElem!_pos d4 j (by simpa using hj)] at h2
    simp only [Array.getElem_toList] at e
    rw [e] at h2
    have := hall.mem_iff.1 m0
    simp at this h2
    omega
  have hpop := pop_int cI order_enters order_tells cI_swo w4 hp4 hh4 (by omega) (by omega)
  rw [h1] at hpop
  have HP := Lib.hid hpop
  clear hpop
  go_wp2_with (fail)
  refine HP.out.mono ?_
  rintro e w5 ⟨rfl, ho5, v5, d5, hp5, hh5, pe5, hm5⟩
  have hb5 : Below w.heap.size w w5 := hb4.trans (ho5.below hs4 fun i e => by rcases e with rfl | e; exact Nat.le_refl _; exact (own_lt hp4.2.1 e).1)
  have z5 : d5.size = 2 := by have := pe5.length_eq; simp [z4] at this; exact this
  have hl := len_int hp5
  rw [z5] at hl
  have HB := Lib.hid hb5
  have HL := Lib.hid hl
  clear hl hb5 hb4 hb3 hb2 hb1
  go_wp2_with (fail)
  refine HL.out.mono ?_
  rintro e w6 ⟨rfl, rfl⟩
  go_wp2_with (fail)
  go_ret
  exact ⟨rfl, HB.out⟩
end Go.Proofs.Ytcnncfjplmejhaa.heap
