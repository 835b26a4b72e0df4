/-
  What lives: the nearer one of two is first.
-/
import Derived.Test.YtimkbadjcdnjjaaScC
import Derived.Laws.StructEq
namespace Go.Proofs.Ytimkbadjcdnjjaa.scan
open Go.RowKit law bytes only flat nums ord obj metric
open hit (Hit hv hv_length lt Rises sortH sortH_length hitE hc_oneOf hv_snoc)
open best (Be keep)
set_option linter.unusedVariables false

def liveL : List Item := [(1, ⟨none, 0, ⟨2, [], ⟨#[97, 98, 99]⟩⟩⟩), (2, ⟨none, 0, ⟨2, [], ⟨#[97, 98, 100]⟩⟩⟩)]
def liveQ : At := ⟨none, 0, ⟨2, [], ⟨#[97, 98, 100]⟩⟩⟩
theorem live_keep : keep 1 (hitsOf 2 liveL liveQ.x) = [(2, 0)] := by decide
theorem live_small : (∀ p ∈ liveL, Small p.2.x) ∧ Small liveQ.x := by
  refine ⟨fun p hp => ?_, by unfold Small dist.Bd; decide⟩
  simp only [liveL, List.mem_cons, List.not_mem_nil, or_false] at hp
  rcases hp with rfl | rfl <;> (unfold Small dist.Bd; decide)
set_option maxRecDepth 100000 in
set_option maxHeartbeats 1600000 in
theorem lives_any (w : World) : Calls Try.prog 7 #[] w (Gives (.bool true) w) := by
  obtain ⟨V, hV⟩ : ∃ V, V = w.alloc (.cells #[.int .u64 1, .int .i64 2, .slice none 0 0, .string ⟨#[97, 98, 99]⟩, .int .u64 2, .int .i64 2, .slice none 0 0, .string ⟨#[97, 98, 100]⟩] 46) := ⟨_, rfl⟩
  have hbV : Below w.heap.size w V := by rw [hV]; exact (Below.refl _ w).alloc (Nat.le_refl _) _
  have hits : Its V V.heap.size (some ⟨w.heap.size, 0, none⟩) liveL := by
    rw [hV]
    exact ⟨Sl.lit w (liveL.flatMap ic) 46, fun p hp => by
      simp only [liveL, List.mem_cons, List.not_mem_nil, or_false] at hp
      rcases hp with rfl | rfl <;> exact Sl.nil⟩
  have HN : Hid (Calls Try.prog 8 #[.int .i64 2] V fun e w1 => ∃ g, e = .returned (.pointer (some ⟨g, 0, none⟩)) ∧ Calls Try.prog 15 #[.pointer (some ⟨g, 0, none⟩), .slice (some ⟨w.heap.size, 0, none⟩) 2 2, .agg #[.int .i64 2, .slice none 0 0, .string ⟨#[97, 98, 100]⟩], .int .i64 1] w1 fun e w2 => ∃ b o c, e = .returned (.slice (some ⟨b, o, none⟩) 1 c) ∧ w2.cell? ⟨b, o, none⟩ = some (.int .u64 2) ∧ w2.cell? ⟨b, o + 1, none⟩ = some (.int .i64 0) ∧ 1 ≤ c ∧ Below w.heap.size w w2) :=
    Lib.hid ((new_any 2 V).mono fun e w1 ⟨he, hm, hb⟩ => ⟨V.heap.size, he, by
      have hF : Fit w1 V.heap.size (some ⟨V.heap.size, 0, none⟩) 2 0 (some ⟨w.heap.size, 0, none⟩) liveL liveQ :=
        ⟨hits.below hb, Sl.nil, fun _ => live_small, .inl ⟨_, rfl, hm⟩, hb.size, fun i hi => by rw [← (tk_some _ i).1 hi]; exact Nat.le_refl _, by decide, by decide⟩
      refine Calls.mono (near_any w1 _ _ 2 0 _ 2 liveL liveQ 1 hF (by decide)) fun e w2 ⟨A2, c2, he, hc2, hsl, ho, _⟩ => ?_
      rw [live_keep] at he hsl hc2
      obtain ⟨b, o, rfl, hb2, h0, h1⟩ := hit.Sl.hitAt (k := 0) hsl (by decide)
      rw [Nat.zero_mul, Nat.add_zero] at h0 h1
      refine ⟨b, o, c2, he, h0, h1, hc2, (hbV.trans (hb.mono hbV.size)).trans (ho.below (Nat.le_trans hbV.size hb.size) fun i hi => ?_)⟩
      rw [← (tk_some _ i).1 hi]
      exact hbV.size⟩)
  clear hits hbV
  go_enter Try.func7, Try.ntmps7
  go_wp2_with (fail)
  rw [← hV]
  clear hV
  refine HN.out.mono ?_
  rintro e w1 ⟨g, rfl, hN⟩
  have HN2 := Lib.hid hN
  clear HN hN
  go_wp2_with (fail)
  refine HN2.out.mono ?_
  rintro e w2 ⟨b, o, c, rfl, h0, h1, hc, hb⟩
  have HB := Lib.hid hb
  clear HN2 hb
  go_wp2_with (fail)
  go_ret
  exact ⟨rfl, HB.out⟩
end Go.Proofs.Ytimkbadjcdnjjaa.scan
