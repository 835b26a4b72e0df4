/-
  The contract of hits.Merge.
-/
import Derived.Test.YtbpeblmjnipakaaHitG
import Derived.Test.YtbpeblmjnipakaaHitI
import Derived.Test.YtbpeblmjnipakaaHitO
namespace Go.Proofs.Ytbpeblmjnipakaa.hit
open Go.RowKit law bytes only flat Go.Sort Go.Shelf
set_option linter.unusedVariables false

/-- a row of n that reads as l; what there was is as it was -/
def RowP (n : Nat) (l : List Hit) (w : World) (e : Ending) (w' : World) : Prop :=
  ∃ A c, e = .returned (.slice A n c) ∧ n ≤ c ∧ Sl w' w'.heap.size A (hv l) ∧ Below w.heap.size w w'
theorem Rows.row {l : List Hit} {n : Nat} {w w' : World} {e : Ending} (h : Rows l w e w') (hn : l.length = n) : RowP n l w e w' := by
  subst hn
  exact h
theorem RowP.back {l : List Hit} {n : Nat} {w w1 w' : World} {e : Ending} (h : RowP n l w1 e w') (hb : Below w.heap.size w w1) : RowP n l w e w' := by
  obtain ⟨A, c, h1, h2, h3, h4⟩ := h
  exact ⟨A, c, h1, h2, h3, hb.trans (h4.mono hb.size)⟩
set_option maxRecDepth 100000 in
set_option maxHeartbeats 6400000 in
theorem merge_any (A A' : Option Addr) (a b : List Hit) (c c' B n : Nat) (w : World) (hm : (a.length + b.length) * 16 ≤ 140737488355328) (hca : a.length ≤ c) (hcb : b.length ≤ c') (hB : B ≤ w.heap.size) (ha : Sl w B A (hv a)) (hb : Sl w B A' (hv b)) (hn : a.length + b.length = n) :
    Calls Try.prog 7 #[.slice A a.length c, .slice A' b.length c'] w (RowP n (sortH (a ++ b)) w) := by
  have hlen : (sortH (a ++ b)).length = n := by rw [sortH_length, List.length_append, hn]
  have hSA := sorted_any A a c B w (by omega) hB ha
  have HSB : Hid (∀ W, Below w.heap.size w W → Calls Try.prog 12 #[.slice A' b.length c'] W fun e w' => ∃ r, e = .returned (.bool r) ∧ (r = true → Rises b) ∧ Below w.heap.size w w') := Lib.hid fun W hW =>
    (sorted_any A' b c' B W (by omega) (Nat.le_trans hB hW.size) (hb.below (hW.mono hB))).mono fun e w' ⟨r, he, hr, h2⟩ => ⟨r, he, hr.1, hW.trans (h2.mono hW.size)⟩
  have HI : Hid (Rises a → Rises b → ∀ W, Below w.heap.size w W → Calls Try.prog 15 #[.slice A a.length c, .slice A' b.length c'] W (RowP n (sortH (a ++ b)) w)) := Lib.hid fun h1 h2 W hW => by
    have h := interleave_any A A' a b c c' B W hm hca hcb (Nat.le_trans hB hW.size) (ha.below (hW.mono hB)) (hb.below (hW.mono hB))
    rw [mrg_is h1 h2] at h
    exact h.mono fun e w' hr => (hr.row hlen).back hW
  have HK : Hid (∀ W, Below w.heap.size w W → Calls Try.prog 14 #[.slice (some ⟨W.heap.size, 0, none⟩) 2 2] (W.alloc (.cells #[.slice A a.length c, .slice A' b.length c'] 22)) fun e w' => ∃ A1 c1, e = .returned (.slice A1 n c1) ∧ Calls Try.prog 13 #[.slice A1 n c1] w' (RowP n (sortH (a ++ b)) w)) := Lib.hid fun W hW => by
    have hW2 : Below w.heap.size w (W.alloc (.cells #[.slice A a.length c, .slice A' b.length c'] 22)) := hW.alloc hW.size _
    have hk := Blk.new W 22 #[.slice A a.length c, .slice A' b.length c']
    have h := concat_any A A' a b c c' B W.heap.size (W.alloc (.cells #[.slice A a.length c, .slice A' b.length c'] 22)) hm (Nat.le_trans hB hW2.size) (by simp) (ha.below (hW2.mono hB)) (hb.below (hW2.mono hB)) (hk.cell 0) (hk.cell 1)
    refine h.mono ?_
    intro e w' ⟨A1, c1, he, ho, h2⟩
    have hl : (a ++ b).length = n := by rw [List.length_append, hn]
    have hs := sort_any A1 (a ++ b) c1 _ w' (by rw [hl]; omega) (Nat.le_refl _) (Sl.of_ownK ho)
    rw [hl] at he hs
    exact ⟨A1, c1, he, hs.mono fun e w3 hr => (hr.row hlen).back (hW2.trans (h2.mono hW2.size))⟩
  have HSA := Lib.hid hSA
  clear hSA ha hb hlen hn hm hca hcb
  go_enter Try.func7, Try.ntmps7
  go_wp2_with (fail)
  refine HSA.out.mono ?_
  rintro e w1 ⟨r1, rfl, hr1, hb1⟩
  have HB1 := Lib.hid hb1
  have HR1 := Lib.hid hr1
  clear hb1 hr1 HSA
  cases r1 with
  | false =>
    have HKK := Lib.hid (HK.out w1 HB1.out)
    clear HK HSB HI HB1 HR1
    go_wp2_with (fail)
    refine HKK.out.mono ?_
    rintro e w2 ⟨A1, c1, rfl, hs⟩
    have HS := Lib.hid hs
    clear hs HKK
    go_wp2_with (fail)
    refine HS.out.mono ?_
    rintro e w3 ⟨A2, c2, rfl, hc2, hs2, hb2⟩
    have HE : Hid (RowP n (sortH (a ++ b)) w (.returned (.slice A2 n c2)) w3) := Lib.hid ⟨A2, c2, rfl, hc2, hs2, hb2⟩
    clear hc2 hs2 hb2 HS
    go_wp2_with (fail)
    go_ret
    exact HE.out
  | true =>
    have HSBB := Lib.hid (HSB.out w1 HB1.out)
    have HRA : Hid (Rises a) := Lib.hid (HR1.out.1 rfl)
    clear HSB HB1 HR1
    go_wp2_with (fail)
    refine HSBB.out.mono ?_
    rintro e w2 ⟨r2, rfl, hr2, hb2⟩
    have HB2 := Lib.hid hb2
    have HR2 := Lib.hid hr2
    clear hb2 hr2 HSBB
    cases r2 with
    | false =>
      have HKK := Lib.hid (HK.out w2 HB2.out)
      clear HK HI HB2 HR2 HRA
      go_wp2_with (fail)
      refine HKK.out.mono ?_
      rintro e w3 ⟨A1, c1, rfl, hs⟩
      have HS := Lib.hid hs
      clear hs HKK
      go_wp2_with (fail)
      refine HS.out.mono ?_
      rintro e w4 ⟨A2, c2, rfl, hc2, hs2, hb2⟩
      have HE : Hid (RowP n (sortH (a ++ b)) w (.returned (.slice A2 n c2)) w4) := Lib.hid ⟨A2, c2, rfl, hc2, hs2, hb2⟩
      clear hc2 hs2 hb2 HS
      go_wp2_with (fail)
      go_ret
      exact HE.out
    | true =>
      have HII := Lib.hid (HI.out HRA.out (HR2.out rfl) w2 HB2.out)
      clear HK HI HB2 HR2 HRA
      go_wp2_with (fail)
      refine HII.out.mono ?_
      rintro e w4 ⟨A2, c2, rfl, hc2, hs2, hb2⟩
      have HE : Hid (RowP n (sortH (a ++ b)) w (.returned (.slice A2 n c2)) w4) := Lib.hid ⟨A2, c2, rfl, hc2, hs2, hb2⟩
      clear hc2 hs2 hb2 HII
      go_wp2_with (fail)
      go_ret
      exact HE.out
end Go.Proofs.Ytbpeblmjnipakaa.hit
