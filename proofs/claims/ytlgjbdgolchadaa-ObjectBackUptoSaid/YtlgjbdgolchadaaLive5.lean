/-
  What lives (layer 5); calls inside regions, over a world that stays below.
-/
import Derived.Test.YtlgjbdgolchadaaSameO
import Derived.Deep.RegionHeld3
namespace Go.Proofs.Ytlgjbdgolchadaa.obj
open Go.RowKit law bytes nums ord
set_option linter.unusedVariables false

theorem on {P : Program} {f : FuncId} {args : Array Value} {V W : World} {v : Value} (hb : Below V.heap.size V W) (h : Calls P f args W (Gives v W)) : Calls P f args W fun e w' => e = .returned v ∧ Below V.heap.size V w' :=
  h.mono fun e w' ⟨he, h2⟩ => ⟨he, hb.trans (h2.mono hb.size)⟩
theorem add_zero_at (b j : Nat) : (⟨b, 0, none⟩ : Addr).add j = ⟨b, j, none⟩ := by
  unfold Addr.add
  by_cases hz : j = 0 <;> simp [hz]
theorem Sl.of_blk {w : World} {b t : Nat} {cs : Array Value} (h : Blk w b t cs) : Sl w w.heap.size (some ⟨b, 0, none⟩) cs.toList := fun j u hj => by
  refine ⟨_, rfl, h.lt, ?_⟩
  rw [add_zero_at, h.cell j]
  simpa using hj
def live : Thing := ⟨1, [3, -4], ⟨#[]⟩⟩
set_option maxHeartbeats 800000 in
theorem lives_any (w : World) : Calls Try.prog 10 #[] w (Gives (.bool true) w) := by
  have hb : Below w.heap.size w ((w.alloc (.cells #[.int .i32 3, .int .i32 (-4)] 21)).alloc (.cells #[.int .i64 1, .slice (some ⟨w.heap.size, 0, none⟩) 2 2, .string ⟨#[]⟩] 24)) := ((Below.refl _ w).alloc (Nat.le_refl _) _).alloc (by simp) _
  have hz : (w.alloc (.cells #[.int .i32 3, .int .i32 (-4)] 21)).heap.size = w.heap.size + 1 := by simp
  have hblk := Blk.new (w.alloc (.cells #[.int .i32 3, .int .i32 (-4)] 21)) 24 #[.int .i64 1, .slice (some ⟨w.heap.size, 0, none⟩) 2 2, .string ⟨#[]⟩]
  rw [hz] at hblk
  have hs := Sl.of_blk ((Blk.new w 21 #[.int .i32 3, .int .i32 (-4)]).alloc (.cells #[.int .i64 1, .slice (some ⟨w.heap.size, 0, none⟩) 2 2, .string ⟨#[]⟩] 24))
  obtain ⟨V, hV⟩ : ∃ V, V = ((w.alloc (.cells #[.int .i32 3, .int .i32 (-4)] 21)).alloc (.cells #[.int .i64 1, .slice (some ⟨w.heap.size, 0, none⟩) 2 2, .string ⟨#[]⟩] 24)) := ⟨_, rfl⟩
  have hr1 : ∀ W, Calls Try.prog 7 #[.agg #[.int .i64 1, .slice (some ⟨w.heap.size, 0, none⟩) 2 2, .string ⟨#[]⟩], .int .i64 1, .int .i64 2] W (Gives (.bool true) W) := fun W => right_any (some ⟨w.heap.size, 0, none⟩) 2 live 1 2 W
  have hr2 : ∀ W, Calls Try.prog 7 #[.agg #[.int .i64 1, .slice (some ⟨w.heap.size, 0, none⟩) 2 2, .string ⟨#[]⟩], .int .i64 1, .int .i64 3] W (Gives (.bool false) W) := fun W => right_any (some ⟨w.heap.size, 0, none⟩) 2 live 1 3 W
  have ht : ∀ W, Calls Try.prog 9 #[.int .i64 3] W fun e w' => e = .returned (.int .i64 2) ∧ W = w' := fun W => tag_any 3 W
  rw [← hV] at hb hblk hs
  have hq : ∀ W, Below V.heap.size V W → Calls Try.prog 13 #[.agg #[.int .i64 1, .slice (some ⟨w.heap.size, 0, none⟩) 2 2, .string ⟨#[]⟩], .agg #[.int .i64 1, .slice (some ⟨w.heap.size, 0, none⟩) 2 2, .string ⟨#[]⟩]] W (Gives (.bool true) W) := fun W hW => by
    have h := same_any (some ⟨w.heap.size, 0, none⟩) (some ⟨w.heap.size, 0, none⟩) 2 2 V.heap.size V.heap.size live live W (by decide) hW.size hW.size (hs.below hW) (hs.below hW)
    rw [sameO_rfl] at h
    exact h
  clear hs hz
  have HR1 := Lib.hid hr1
  have HR2 := Lib.hid hr2
  have HT := Lib.hid ht
  have HQ := Lib.hid hq
  clear hr1 hr2 ht hq
  go_enter Try.func10, Try.ntmps10
  go_wp2_with (fail)
  rw [← hV]
  clear hV
  have hB := hb.size
  have hgl := hblk.lt
  obtain ⟨c0, c1, c2, cf⟩ := cells3 hblk
  refine (on (Below.refl _ V) (HR1.out V)).mono ?_
  rintro e w1 ⟨rfl, hb1⟩
  obtain ⟨c0, c1, c2, cf⟩ := cells3 (hblk.below hb1 hgl)
  go_wp2_with (fail)
  refine (on hb1 (HR2.out w1)).mono ?_
  rintro e w2 ⟨rfl, hb2⟩
  obtain ⟨c0, c1, c2, cf⟩ := cells3 (hblk.below hb2 hgl)
  clear hb1
  go_wp2_with (fail)
  refine (HT.out w2).mono ?_
  rintro e w3 ⟨rfl, rfl⟩
  go_wp2_with (fail)
  refine (on hb2 (HQ.out w2 hb2)).mono ?_
  rintro e w4 ⟨rfl, hb4⟩
  go_wp2_with (fail)
  go_ret
  exact ⟨rfl, hb.trans (hb4.mono hB)⟩
end Go.Proofs.Ytlgjbdgolchadaa.obj
