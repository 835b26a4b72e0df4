/-
  A nil writer and a nil reader: the law CodeNone walked.
-/
import Derived.Test.YtmaebebckbfjpaaLives
import Derived.Test.YtmaebebckbfjpaaOpenParts
import Derived.Deep.RegionHeld3
import Derived.Lib.SmallJoins
namespace Go.Proofs.Ytmaebebckbfjpaa.codeNone
open Go.RowKit law bytes nums same code
open Go.Joins Go.ChangeShapes Go.WideShapes Go.Deep Go.ChangeAt
set_option linter.unusedVariables false

set_option maxHeartbeats 1000000 in
theorem write_nil (A : Option Addr) (l : List Part) (c B : Nat) (w : World) (hs : Sl w B A (pcl l)) (hok : ∀ q ∈ l, Ok q) (hll : l.length ≤ 140737488355328) :
    Calls Try.prog 8 #[.pointer none, .slice A l.length c] w fun e w' => e = .returned (.tuple #[]) ∧ w = w' := by
  go_enter Try.func8, Try.ntmps8
  go_wp2
  go_loop [4] (fun i => ∃ k : Nat, k ≤ l.length ∧ i = .int .i64 k) (fun i => l.length - (intOf i).toNat)
  case atStart => exact ⟨0, Nat.zero_le _, rfl⟩
  case round =>
    obtain ⟨k, hk, rfl⟩ := hrel
    by_cases hlt : k < l.length
    · obtain ⟨ad, rfl, had, f0, f1, f2, f3, f4, -, -, -⟩ := Sl.part hs hlt
      obtain ⟨ho1, ho2, ho3⟩ := hok l[k] (List.getElem_mem hlt)
      generalize hp : l[k] = p at *
      clear hp hok hs
      by_cases k0 : p.kind = 0
      · rw [k0] at f0
        clear k0
        go_wp2_with (fail)
        refine (num_nil _ _).mono ?_
        rintro e w1 ⟨rfl, rfl⟩
        go_wp2_with (fail)
        go_round
        case rel => exact ⟨k + 1, by omega, by go_num⟩
        case measure => simp [intOf]; omega
      have n0 : (p.kind == 0) = false := by simpa using k0
      by_cases k1 : p.kind = 1
      · rw [k1] at f0
        clear k1
        go_wp2_with (fail)
        refine (int_nil _ ho2 ho3 _).mono ?_
        rintro e w1 ⟨rfl, rfl⟩
        go_wp2_with (fail)
        go_round
        case rel => exact ⟨k + 1, by omega, by go_num⟩
        case measure => simp [intOf]; omega
      have n1 : (p.kind == 1) = false := by simpa using k1
      by_cases k2 : p.kind = 2
      · rw [k2] at f0
        clear k2
        go_wp2_with (fail)
        refine (flag_nil _ _).mono ?_
        rintro e w1 ⟨rfl, rfl⟩
        go_wp2_with (fail)
        go_round
        case rel => exact ⟨k + 1, by omega, by go_num⟩
        case measure => simp [intOf]; omega
      have n2 : (p.kind == 2) = false := by simpa using k2
      clear k0 k1 k2
      go_wp2_with (fail)
      refine (text_nil _ _).mono ?_
      rintro e w1 ⟨rfl, rfl⟩
      go_wp2_with (fail)
      go_round
      case rel => exact ⟨k + 1, by omega, by go_num⟩
      case measure => simp [intOf]; omega
    · go_wp2
      go_end0
      exact ⟨rfl, rfl⟩

theorem three' (w : World) (t : Nat) (a b c : Array Value) :
    Below w.heap.size w (((w.alloc (.cells a t)).alloc (.cells b t)).alloc (.cells c t)) ∧ Blk (((w.alloc (.cells a t)).alloc (.cells b t)).alloc (.cells c t)) w.heap.size t a ∧
    Blk (((w.alloc (.cells a t)).alloc (.cells b t)).alloc (.cells c t)) (w.heap.size + 1) t b ∧ Blk (((w.alloc (.cells a t)).alloc (.cells b t)).alloc (.cells c t)) (w.heap.size + 1 + 1) t c := by
  refine ⟨((((Below.refl _ w).alloc (Nat.le_refl _) _).alloc (by simp) _).alloc (by simp; omega) _), ((Blk.new w t a).alloc _).alloc _, ?_, ?_⟩
  · have h := (Blk.new (w.alloc (.cells a t)) t b).alloc (.cells c t)
    rwa [show (w.alloc (.cells a t)).heap.size = w.heap.size + 1 from by simp] at h
  · have h := Blk.new ((w.alloc (.cells a t)).alloc (.cells b t)) t c
    rwa [show ((w.alloc (.cells a t)).alloc (.cells b t)).heap.size = w.heap.size + 1 + 1 from by simp] at h
theorem rflag_nil' (w : World) : Calls Try.prog 29 #[.pointer none] w fun e w' => e = .returned (.bool false) ∧ Below w.heap.size w w' :=
  (rflag_nil w).mono fun _ _ ⟨he, hw⟩ => ⟨he, hw ▸ Below.refl _ _⟩
/-- a part that is nothing but its kind -/
def Bare (kind : Int) (w : World) (e : Ending) (w' : World) : Prop :=
  e = .returned (.agg #[.int .i64 kind, .int .u64 0, .int .i64 0, .bool false, .string ⟨#[]⟩, .int .i64 0, .int .i64 0, .int .i64 0]) ∧ Below w.heap.size w w'
set_option maxHeartbeats 1000000 in
theorem take_nil (p : Part) (w : World) :
    Calls Try.prog 15 #[.pointer none, .agg #[.int .i64 p.kind, .int .u64 p.n, .int .i64 p.i, .bool p.f, .string p.t, .int .i64 p.low, .int .i64 p.high, .int .i64 p.most]] w (Bare p.kind w) := by
  by_cases k0 : p.kind = 0
  · have n0 : (p.kind == 0) = true := by simpa using k0
    clear k0
    go_enter Try.func15, Try.ntmps15
    go_wp2_with (fail)
    obtain ⟨hg3, -, hb4, hb5⟩ := three' w 38 _ _ _
    refine (rnum_nil _ _).mono ?_
    rintro e w1 ⟨rfl, hb1⟩
    have hbm := hg3.trans (hb1.mono hg3.size)
    obtain ⟨c0, c1, c2, c3, c4, c5, c6, c7, cf⟩ := cells8 (hb4.below hb1 hb4.lt)
    obtain ⟨d0, d1, d2, d3, d4, d5, d6, d7, df⟩ := cells8 (hb5.below hb1 hb5.lt)
    go_wp2_with (fail)
    refine bodyPost_ret (v := .agg #[.int .i64 p.kind, .int .u64 0, .int .i64 0, .bool false, .string ⟨#[]⟩, .int .i64 0, .int .i64 0, .int .i64 0]) (by simp [results, Try.results15, go_sem, c0, c1, c2, c3, c4, c5, c6, c7]) rfl ?_
    exact ⟨rfl, Below.eight (Below.one hbm (by omega) _) (by omega) _ _ _ _ _ _ _ _⟩
  have n0 : (p.kind == 0) = false := by simpa using k0
  by_cases k1 : p.kind = 1
  · have n1 : (p.kind == 1) = true := by simpa using k1
    clear k0 k1
    go_enter Try.func15, Try.ntmps15
    go_wp2_with (fail)
    obtain ⟨hg3, -, hb4, hb5⟩ := three' w 38 _ _ _
    refine (rint_nil _ _ _).mono ?_
    rintro e w1 ⟨rfl, hb1⟩
    have hbm := hg3.trans (hb1.mono hg3.size)
    obtain ⟨c0, c1, c2, c3, c4, c5, c6, c7, cf⟩ := cells8 (hb4.below hb1 hb4.lt)
    obtain ⟨d0, d1, d2, d3, d4, d5, d6, d7, df⟩ := cells8 (hb5.below hb1 hb5.lt)
    go_wp2_with (fail)
    refine bodyPost_ret (v := .agg #[.int .i64 p.kind, .int .u64 0, .int .i64 0, .bool false, .string ⟨#[]⟩, .int .i64 0, .int .i64 0, .int .i64 0]) (by simp [results, Try.results15, go_sem, c0, c1, c2, c3, c4, c5, c6, c7]) rfl ?_
    exact ⟨rfl, Below.eight (Below.one hbm (by omega) _) (by omega) _ _ _ _ _ _ _ _⟩
  have n1 : (p.kind == 1) = false := by simpa using k1
  by_cases k2 : p.kind = 2
  · have n2 : (p.kind == 2) = true := by simpa using k2
    clear k0 k1 k2
    go_enter Try.func15, Try.ntmps15
    go_wp2_with (fail)
    obtain ⟨hg3, -, hb4, hb5⟩ := three' w 38 _ _ _
    refine (rflag_nil' _).mono ?_
    rintro e w1 ⟨rfl, hb1⟩
    have hbm := hg3.trans (hb1.mono hg3.size)
    obtain ⟨c0, c1, c2, c3, c4, c5, c6, c7, cf⟩ := cells8 (hb4.below hb1 hb4.lt)
    obtain ⟨d0, d1, d2, d3, d4, d5, d6, d7, df⟩ := cells8 (hb5.below hb1 hb5.lt)
    go_wp2_with (fail)
    refine bodyPost_ret (v := .agg #[.int .i64 p.kind, .int .u64 0, .int .i64 0, .bool false, .string ⟨#[]⟩, .int .i64 0, .int .i64 0, .int .i64 0]) (by simp [results, Try.results15, go_sem, c0, c1, c2, c3, c4, c5, c6, c7]) rfl ?_
    exact ⟨rfl, Below.eight (Below.one hbm (by omega) _) (by omega) _ _ _ _ _ _ _ _⟩
  have n2 : (p.kind == 2) = false := by simpa using k2
  clear k0 k1 k2
  go_enter Try.func15, Try.ntmps15
  go_wp2_with (fail)
  obtain ⟨hg3, -, hb4, hb5⟩ := three' w 38 _ _ _
  refine (rtext_nil _ _).mono ?_
  rintro e w1 ⟨rfl, hb1⟩
  have hbm := hg3.trans (hb1.mono hg3.size)
  obtain ⟨c0, c1, c2, c3, c4, c5, c6, c7, cf⟩ := cells8 (hb4.below hb1 hb4.lt)
  obtain ⟨d0, d1, d2, d3, d4, d5, d6, d7, df⟩ := cells8 (hb5.below hb1 hb5.lt)
  go_wp2_with (fail)
  refine bodyPost_ret (v := .agg #[.int .i64 p.kind, .int .u64 0, .int .i64 0, .bool false, .string ⟨#[]⟩, .int .i64 0, .int .i64 0, .int .i64 0]) (by simp [results, Try.results15, go_sem, c0, c1, c2, c3, c4, c5, c6, c7]) rfl ?_
  exact ⟨rfl, Below.eight (Below.one hbm (by omega) _) (by omega) _ _ _ _ _ _ _ _⟩

theorem bcell {W w1 : World} (hb : Below W.heap.size W w1) : (∀ b o, b < W.heap.size → w1.cell? ⟨b, o, none⟩ = W.cell? ⟨b, o, none⟩) ∧ (∀ b o, b < W.heap.size → w1.frozen? ⟨b, o, none⟩ = W.frozen? ⟨b, o, none⟩) :=
  ⟨fun b o h => hb.cell (p := ⟨b, o, none⟩) h, fun b o h => hb.frozen (p := ⟨b, o, none⟩) h⟩
set_option maxHeartbeats 1000000 in
theorem none_walk (p : Part) (w : World) (hok : Ok p) :
    Calls Try.prog 6 #[.agg #[.int .i64 p.kind, .int .u64 p.n, .int .i64 p.i, .bool p.f, .string p.t, .int .i64 p.low, .int .i64 p.high, .int .i64 p.most]] w fun e w' => e = .returned (.bool true) ∧ Below w.heap.size w w' := by
  go_enter Try.func6, Try.ntmps6
  go_wp2_with (fail)
  have hs1 := Sl.of_blk (Blk.new (w.alloc (.cells (pcs p).toArray 38)) 38 (pcs p).toArray)
  have e1 : (pcs p).toArray.toList = pcl [p] := by simp [pcl, pcs]
  rw [e1] at hs1
  have hz1 : (w.alloc (.cells (pcs p).toArray 38)).heap.size = w.heap.size + 1 := by simp
  rw [hz1] at hs1
  refine (write_nil (some ⟨w.heap.size + 1, 0, none⟩) [p] 1 _ _ hs1 (fun q hq => by rw [List.mem_singleton.1 hq]; exact hok) (by simp)).mono ?_
  rintro e w1 ⟨rfl, rfl⟩
  have hblk : Blk ((w.alloc (.cells (pcs p).toArray 38)).alloc (.cells (pcs p).toArray 38)) w.heap.size 38 #[.int .i64 p.kind, .int .u64 p.n, .int .i64 p.i, .bool p.f, .string p.t, .int .i64 p.low, .int .i64 p.high, .int .i64 p.most] := (Blk.new w 38 (pcs p).toArray).alloc _
  have hbel : Below w.heap.size w ((w.alloc (.cells (pcs p).toArray 38)).alloc (.cells (pcs p).toArray 38)) := (((Below.refl _ w).alloc (Nat.le_refl _) _).alloc (by simp) _)
  have hsz : w.heap.size < ((w.alloc (.cells (pcs p).toArray 38)).alloc (.cells (pcs p).toArray 38)).heap.size := by simp; omega
  clear hs1 e1 hz1
  go_wp2_with (fail)
  obtain ⟨V, hV⟩ : ∃ V, V = ((w.alloc (.cells (pcs p).toArray 38)).alloc (.cells (pcs p).toArray 38)) := ⟨_, rfl⟩
  rw [← hV] at hblk hbel hsz ⊢
  obtain ⟨c0, c1, c2, c3, c4, c5, c6, c7, cf⟩ := cells8 hblk
  clear hV
  go_region_held3 (fun w' => w'.cell? ⟨w.heap.size, 0, none⟩ = some (.int .i64 p.kind) ∧ w'.cell? ⟨w.heap.size, 1, none⟩ = some (.int .u64 p.n) ∧ w'.cell? ⟨w.heap.size, 2, none⟩ = some (.int .i64 p.i) ∧ w'.cell? ⟨w.heap.size, 3, none⟩ = some (.bool p.f) ∧
      w'.cell? ⟨w.heap.size, 4, none⟩ = some (.string p.t) ∧ w'.cell? ⟨w.heap.size, 5, none⟩ = some (.int .i64 p.low) ∧ w'.cell? ⟨w.heap.size, 6, none⟩ = some (.int .i64 p.high) ∧ w'.cell? ⟨w.heap.size, 7, none⟩ = some (.int .i64 p.most)) (go_keep)
    (first
      | (go_at_call 10; (with_reducible refine (bytes_nil _).mono ?_); rintro e w' ⟨rfl, rfl⟩)
      | (go_at_call 15; (with_reducible refine (take_nil p _).mono ?_); rintro e w1 ⟨rfl, hb0⟩; have hb1 : Below V.heap.size V w1 := ⟨hb0.os, hb0.tape, hb0.output, hb0.size, hb0.block⟩; clear hb0; obtain ⟨kc, kf⟩ := bcell hb1; have hz : w.heap.size < w1.heap.size := Nat.lt_of_lt_of_le hsz hb1.size)
      | (go_at_call 16; (with_reducible refine (left_nil _).mono ?_); rintro e w' ⟨rfl, rfl⟩)
      | (go_at_call 17; (with_reducible refine (end_nil _).mono ?_); rintro e w' ⟨rfl, rfl⟩)
      | (go_at_call 12; (with_reducible refine (lives_any _).mono ?_); rintro e w2 ⟨rfl, hb2⟩; obtain ⟨kc2, kf2⟩ := bcell hb2))
  go_wp2
  go_ret
  exact ⟨rfl, (hbel.trans (hb1.mono hbel.size)).trans (hb2.mono (Nat.le_trans hbel.size hb1.size))⟩

end Go.Proofs.Ytmaebebckbfjpaa.codeNone
