/-
  What lives: the farthest one is chosen next.
-/
import Derived.Test.YthbohedkagjohaaPvS
namespace Go.Proofs.Ythbohedkagjohaa.pv
open Go.RowKit law bytes only flat nums ord obj metric
set_option linter.unusedVariables false

/-- a thing of one number, just made -/
def One (n : Int) (w : World) (e : Ending) (w' : World) : Prop := ∃ b, e = .returned (.agg #[.int .i64 1, .slice (some ⟨b, 0, none⟩) 1 1, .string ⟨#[]⟩]) ∧ w.heap.size ≤ b ∧ Blk w' b 21 #[.int .i32 n] ∧ Below w.heap.size w w'
set_option maxHeartbeats 800000 in
theorem one_any (n : Int) (w : World) : Calls Try.prog 16 #[.int .i32 n] w (One n w) := by
  obtain ⟨V, hV⟩ : ∃ V, V = (w.alloc (.cells #[.int .i64 1, .slice (some ⟨w.heap.size + 1, 0, none⟩) 1 1, .string ⟨#[]⟩] 38)).alloc (.cells #[.int .i32 n] 21) := ⟨_, rfl⟩
  have hz : (w.alloc (.cells #[.int .i64 1, .slice (some ⟨w.heap.size + 1, 0, none⟩) 1 1, .string ⟨#[]⟩] 38)).heap.size = w.heap.size + 1 := by simp
  have hk : Blk V w.heap.size 38 #[.int .i64 1, .slice (some ⟨w.heap.size + 1, 0, none⟩) 1 1, .string ⟨#[]⟩] := by rw [hV]; exact (Blk.new w _ _).alloc _
  have hk2 : Blk V (w.heap.size + 1) 21 #[.int .i32 n] := by
    have h := Blk.new (w.alloc (.cells #[.int .i64 1, .slice (some ⟨w.heap.size + 1, 0, none⟩) 1 1, .string ⟨#[]⟩] 38)) 21 #[.int .i32 n]
    rw [hz] at h
    rw [hV]
    exact h
  have hb : Below w.heap.size w V := by rw [hV]; exact ((Below.refl _ _).alloc (Nat.le_refl _) _).alloc (by rw [hz]; omega) _
  obtain ⟨q0, q1, q2, qf⟩ := cells3 hk
  have HE : Hid (One n w (.returned (.agg #[.int .i64 1, .slice (some ⟨w.heap.size + 1, 0, none⟩) 1 1, .string ⟨#[]⟩])) V) := Lib.hid ⟨_, rfl, by omega, hk2, hb⟩
  clear hz hk hk2 hb
  go_enter Try.func16, Try.ntmps16
  go_wp2_with (fail)
  rw [← hV]
  refine bodyPost_ret (v := .agg #[.int .i64 1, .slice (some ⟨w.heap.size + 1, 0, none⟩) 1 1, .string ⟨#[]⟩]) (by simp [results, Try.results16, go_sem, q0, q1, q2]) rfl ?_
  exact HE.out
theorem Away.of_sl {w : World} {T : Nat → Prop} {A : Option Addr} {xs : List Value} (h : Sl w w.heap.size A xs) (hA : ∀ ad, A = some ad → ¬ T ad.block) : Away w T A xs := fun j u hj => by
  obtain ⟨ad, e, hb, hc⟩ := h j u hj
  exact ⟨ad, e, hb, hA ad e, hc⟩
theorem Sl.of_blk {w : World} {b : Nat} {t : TypeId} {xs : List Value} (h : Blk w b t xs.toArray) : Sl w w.heap.size (some ⟨b, 0, none⟩) xs := fun j u hj => ⟨_, rfl, h.lt, by
  have : (⟨b, 0, none⟩ : Addr).add j = ⟨b, j, none⟩ := by simp [Addr.add]; intro h; exact h.symm
  rw [this, h.cell j]
  simpa using hj⟩
def liveT (n : Int) : Thing := ⟨1, [n], ⟨#[]⟩⟩
def liveL (a b c : Nat) : List At := [⟨some ⟨a, 0, none⟩, 1, liveT 0⟩, ⟨some ⟨b, 0, none⟩, 1, liveT 9⟩, ⟨some ⟨c, 0, none⟩, 1, liveT 4⟩]
theorem live_chs (a b c : Nat) : chs (dt 1 (liveL a b c)) U63 (liveL a b c) 3 0 = [0, 1, 2] := by rfl
theorem live_brief (a b c : Nat) : Brief (liveL a b c) := fun p hp => by
  simp only [liveL, List.mem_cons, List.not_mem_nil, or_false] at hp
  have h : ∀ n ∈ [(0 : Int), 9, 4], dist.Bd (liveT n).vec ∧ (liveT n).vec.length ≤ 65536 ∧ (liveT n).str.size ≤ 65536 := by unfold dist.Bd; decide
  rcases hp with rfl | rfl | rfl
  · exact h 0 (by simp)
  · exact h 9 (by simp)
  · exact h 4 (by simp)
/-- the three things in memory, one behind the other -/
theorem live_fit {w1 w2 w3 w4 : World} {g a b c : Nat} (hm : Mt w1 g 1 0) (ha0 : w1.heap.size ≤ a) (ha : Blk w2 a 21 #[.int .i32 0]) (h2 : Below w1.heap.size w1 w2) (hb0 : w2.heap.size ≤ b) (hb : Blk w3 b 21 #[.int .i32 9]) (h3 : Below w2.heap.size w2 w3)
    (hc0 : w3.heap.size ≤ c) (hc : Blk w4 c 21 #[.int .i32 4]) (h4 : Below w3.heap.size w3 w4) :
    Fit (w4.alloc (.cells (ocs (liveL a b c)).toArray 38)) g 1 0 (some ⟨w4.heap.size, 0, none⟩) (liveL a b c) ∧ Below w1.heap.size w1 (w4.alloc (.cells (ocs (liveL a b c)).toArray 38)) := by
  have s2 := h2.size
  have s3 := h3.size
  have s4 := h4.size
  have hg := hm.lt
  have b4 : Below w1.heap.size w1 w4 := h2.trans ((h3.mono s2).trans (h4.mono (by omega)))
  have ha4 := (ha.below h3 ha.lt).below h4 (by have := ha.lt; omega)
  have hb4 := hb.below h4 hb.lt
  refine ⟨⟨⟨Away.of_sl (Sl.lit w4 _ _) fun ad e => by injection e with e; subst e; simp only; omega, fun p hp => ?_⟩, (hm.below b4 hg).below ((Below.refl _ _).alloc (Nat.le_refl _) _) (by omega), live_brief a b c⟩, b4.alloc (by omega) _⟩
  simp only [liveL, List.mem_cons, List.not_mem_nil, or_false] at hp
  rcases hp with rfl | rfl | rfl
  · exact Away.of_sl (Sl.of_blk (xs := iv [0]) (ha4.alloc _)) fun ad e => by injection e with e; subst e; simp only; omega
  · exact Away.of_sl (Sl.of_blk (xs := iv [9]) (hb4.alloc _)) fun ad e => by injection e with e; subst e; simp only; omega
  · exact Away.of_sl (Sl.of_blk (xs := iv [4]) (hc.alloc _)) fun ad e => by injection e with e; subst e; simp only; omega
set_option maxRecDepth 100000 in
set_option maxHeartbeats 1600000 in
theorem lives_any (w : World) : Calls Try.prog 7 #[] w (Gives (.bool true) w) := by
  have HN : Hid (Calls Try.prog 8 #[.int .i64 1] w fun e w1 => ∃ g, e = .returned (.pointer (some ⟨g, 0, none⟩)) ∧ w.heap.size ≤ g ∧ Mt w1 g 1 0 ∧ Below w.heap.size w w1) :=
    Lib.hid ((new_any 1 w).mono fun e w1 ⟨he, hm, hb⟩ => ⟨_, he, Nat.le_refl _, hm, hb⟩)
  go_enter Try.func7, Try.ntmps7
  go_wp2_with (fail)
  refine HN.out.mono ?_
  rintro e w1 ⟨g, rfl, hg, hm, hb1⟩
  have HM := Lib.hid (And.intro hg (And.intro hm hb1))
  clear HN hg hm hb1
  go_wp2_with (fail)
  refine (one_any 0 w1).mono ?_
  rintro e w2 ⟨a, rfl, ha0, ha, h2⟩
  have H2 := Lib.hid (And.intro ha0 (And.intro ha h2))
  clear ha0 ha h2
  go_wp2_with (fail)
  refine (one_any 9 w2).mono ?_
  rintro e w3 ⟨b, rfl, hb0, hb, h3⟩
  have H3 := Lib.hid (And.intro hb0 (And.intro hb h3))
  clear hb0 hb h3
  go_wp2_with (fail)
  refine (one_any 4 w3).mono ?_
  rintro e w4 ⟨c, rfl, hc0, hc, h4⟩
  obtain ⟨hF, hb5⟩ := live_fit HM.out.2.1 H2.out.1 H2.out.2.1 H2.out.2.2 H3.out.1 H3.out.2.1 H3.out.2.2 hc0 hc h4
  obtain ⟨V, hV⟩ : ∃ V, V = w4.alloc (.cells #[.int .i64 1, .slice (some ⟨a, 0, none⟩) 1 1, .string ⟨#[]⟩, .int .i64 1, .slice (some ⟨b, 0, none⟩) 1 1, .string ⟨#[]⟩, .int .i64 1, .slice (some ⟨c, 0, none⟩) 1 1, .string ⟨#[]⟩] 38) := ⟨_, rfl⟩
  have hFV : Fit V g 1 0 (some ⟨w4.heap.size, 0, none⟩) (liveL a b c) := by rw [hV]; exact hF
  have hbV : Below w1.heap.size w1 V := by rw [hV]; exact hb5
  have hch := choose_any V g 1 0 (some ⟨w4.heap.size, 0, none⟩) 3 (liveL a b c) 3 0 hFV (by decide) (by decide : (3 : Nat) ≤ 1048576)
  rw [live_chs] at hch
  have HC : Hid (Calls Try.prog 9 #[.pointer (some ⟨g, 0, none⟩), .slice (some ⟨w4.heap.size, 0, none⟩) 3 3, .int .i64 3, .int .i64 0] V (Chosen V g 1 0 [0, 1, 2] 9)) := Lib.hid hch
  have HBV : Hid (w.heap.size ≤ g ∧ Below w.heap.size w V) := Lib.hid ⟨HM.out.1, HM.out.2.2.trans (hbV.mono HM.out.2.2.size)⟩
  clear HM H2 H3 hc0 hc h4 hF hb5 hFV hbV hch
  go_wp2_with (fail)
  rw [← hV]
  clear hV
  refine HC.out.mono ?_
  rintro e w6 ⟨A6, c6, rfl, hown, ho6, -⟩
  have hb6 : Below w.heap.size w w6 := HBV.out.2.trans (ho6.below HBV.out.2.size fun i e => by have := HBV.out.1; omega)
  have hI := ints_same A6 (some ⟨w6.heap.size, 0, none⟩) [0, 1, 2] c6 3 _ _ (w6.alloc (.cells (nv [0, 1, 2]).toArray 3)) (by decide) ((Sl.of_own hown).on ((Below.refl _ _).alloc (Nat.le_refl _) _)) (Sl.lit w6 (nv [0, 1, 2]) 3)
  have HI : Hid (Calls Try.prog 10 #[.slice A6 3 c6, .slice (some ⟨w6.heap.size, 0, none⟩) 3 3] (w6.alloc (.cells #[.int .i64 0, .int .i64 1, .int .i64 2] 3)) fun e w' => e = .returned (.bool true) ∧ Below w.heap.size w w') := Lib.hid (hI.mono fun e w' ⟨he, hb⟩ => ⟨he, (hb6.alloc hb6.size _).trans (hb.mono (by have := hb6.size; simp; omega))⟩)
  clear HC hown ho6 hb6 hI
  go_wp2_with (fail)
  refine HI.out.mono ?_
  rintro e w7 ⟨rfl, hb7⟩
  have HE := Lib.hid hb7
  clear HI hb7
  go_wp2_with (fail)
  go_ret
  exact ⟨rfl, HE.out⟩
end Go.Proofs.Ythbohedkagjohaa.pv
