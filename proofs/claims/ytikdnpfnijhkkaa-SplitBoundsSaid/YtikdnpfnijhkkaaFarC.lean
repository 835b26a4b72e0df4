/-
  The contract of split.order (with the world that a sort wants).
-/
import Derived.Test.YtikdnpfnijhkkaaFar
import Derived.Test.YtikdnpfnijhkkaaShelf
namespace Go.Proofs.Ytikdnpfnijhkkaa.far
open Go.RowKit law bytes only flat hit spl Go.Sort Go.Shelf
set_option linter.unusedVariables false

def cmpI (x y : Int) : Int := if x < y then -1 else if y < x then 1 else 0
theorem cmp64_any (x y : Int) (w : World) : Calls Try.prog 21 #[.int .i64 x, .int .i64 y] w fun e w' => e = .returned (.int .i64 (cmpI x y)) ∧ w = w' :=
  (Try.cmp_Compare_int x y w).mono fun e w' ⟨he, hw⟩ => ⟨he, hw.symm⟩
/-- the first of two that is none -/
def orI (a b : Int) : Int := if a = 0 then b else a
set_option maxHeartbeats 800000 in
theorem or_any (a b : Int) (g : Nat) (w : World) (h0 : w.cell? ⟨g, 0, none⟩ = some (.int .i64 a)) (h1 : w.cell? ⟨g, 1, none⟩ = some (.int .i64 b)) :
    Calls Try.prog 20 #[.slice (some ⟨g, 0, none⟩) 2 2] w fun e w' => e = .returned (.int .i64 (orI a b)) ∧ w = w' := by
  go_enter Try.func20, Try.ntmps20
  go_wp2_with (fail)
  go_loopg [8] 2 (fun gk i wr => ∃ k : Nat, k ≤ 2 ∧ gk = 2 - k ∧ i = .int .i64 k ∧ (0 < k → a = 0) ∧ (1 < k → b = 0) ∧ w = wr)
  case atStart => exact ⟨0, by omega, rfl, rfl, by omega, by omega, rfl⟩
  case round =>
    obtain ⟨k, hk, rfl, rfl, ha, hb, rfl⟩ := hrel
    rcases Nat.lt_or_ge k 2 with hlt | hge
    · rcases Nat.lt_or_ge k 1 with hl1 | hl1
      · obtain rfl : k = 0 := by omega
        by_cases hz : a = 0
        · subst hz
          go_wp2_with (fail)
          go_roundg 1
          case measure => omega
          case rel => exact ⟨1, by omega, rfl, by go_num, by simp, by omega, rfl⟩
        · have d1 : (a != 0) = true := by simpa using hz
          have d2 : (a == 0) = false := by simpa using hz
          have HO : Hid (orI a b = a) := Lib.hid (by unfold orI; rw [if_neg hz])
          clear ha hb
          go_wp2_with (fail)
          go_ret
          exact ⟨by rw [HO.out]; rfl, rfl⟩
      · obtain rfl : k = 1 := by omega
        have hz := ha (by omega)
        by_cases hy : b = 0
        · subst hy
          go_wp2_with (fail)
          go_roundg 0
          case measure => omega
          case rel => exact ⟨2, by omega, rfl, by go_num, fun _ => hz, by simp, rfl⟩
        · have d1 : (b != 0) = true := by simpa using hy
          have d2 : (b == 0) = false := by simpa using hy
          have HO : Hid (orI a b = b) := Lib.hid (by unfold orI; rw [if_pos hz])
          clear ha hb hz
          go_wp2_with (fail)
          go_ret
          exact ⟨by rw [HO.out]; rfl, rfl⟩
    · obtain rfl : k = 2 := by omega
      have HO : Hid (orI a b = 0) := Lib.hid (by unfold orI; rw [if_pos (ha (by omega)), hb (by omega)])
      clear ha hb
      go_wp2_with (fail)
      go_ret
      exact ⟨by rw [HO.out]; rfl, rfl⟩
theorem orI_cf (x y : Hit) : orI (cmpI x.2 y.2) (cmpI x.1 y.1) = cf x y := by
  unfold orI cmpI cf
  simp only [lt_iff]
  by_cases h1 : x.2 < y.2
  · have h2 : ¬ y.2 < x.2 := by omega
    simp [h1]
  · by_cases h2 : y.2 < x.2
    · have h3 : ¬ x.2 = y.2 := by omega
      simp [h1, h2, h3]
    · have h3 : x.2 = y.2 := by omega
      by_cases h4 : x.1 < y.1
      · have h5 : ¬ y.1 < x.1 := by omega
        simp [h3, h4]
      · by_cases h5 : y.1 < x.1 <;> simp [h3, h4, h5]

/-! ### worlds that are grown: draws, and new blocks -/
def Grew (w w' : World) : Prop := ∃ q os, w' = Sort.grow (w.drewN q) os
theorem Grew.refl (w : World) : Grew w w := ⟨0, #[], by rw [Sort.grow_empty]; rfl⟩
theorem Grew.alloc {w w' : World} (h : Grew w w') (o : Obj) : Grew w (w'.alloc o) := by
  obtain ⟨q, os, rfl⟩ := h
  exact ⟨q, os ++ #[o], by rw [Sort.alloc_eq_grow, Sort.grow_grow]⟩
theorem Grew.drewN {w w' : World} (h : Grew w w') (n : Nat) : Grew w (w'.drewN n) := by
  obtain ⟨q, os, rfl⟩ := h
  exact ⟨q + n, os, by rw [← World.drewN_drewN]; rfl⟩
theorem Grew.drew {w w' : World} (h : Grew w w') : Grew w w'.drew := h.drewN 1
theorem Grew.below {w w' : World} (h : Grew w w') : Below w.heap.size w w' := by
  obtain ⟨q, os, rfl⟩ := h
  refine ⟨rfl, rfl, rfl, by simp [Sort.grow], fun i hi => ?_⟩
  show (w.heap ++ os)[i]? = w.heap[i]?
  rw [Array.getElem?_append_left hi]
set_option maxRecDepth 100000 in
set_option maxHeartbeats 800000 in
theorem cmp_grew (x y : Hit) (w : World) : Calls Try.prog 18 #[.agg (fc x).toArray, .agg (fc y).toArray] w fun e w' => e = .returned (.int .i64 (cf x y)) ∧ Grew w w' := by
  obtain ⟨x1, x2⟩ := x
  obtain ⟨y1, y2⟩ := y
  show Calls Try.prog 18 #[.agg #[.int .i64 x1, .int .i64 x2], .agg #[.int .i64 y1, .int .i64 y2]] w _
  have HE : Hid (orI (cmpI x2 y2) (cmpI x1 y1) = cf (x1, x2) (y1, y2)) := Lib.hid (orI_cf (x1, x2) (y1, y2))
  have HC : Hid (∀ W, Calls Try.prog 21 #[.int .i64 x2, .int .i64 y2] W fun e w' => e = .returned (.int .i64 (cmpI x2 y2)) ∧ W = w') := Lib.hid fun W => cmp64_any _ _ W
  have HU : Hid (∀ W, Calls Try.prog 21 #[.int .i64 x1, .int .i64 y1] W fun e w' => e = .returned (.int .i64 (cmpI x1 y1)) ∧ W = w') := Lib.hid fun W => cmp64_any _ _ W
  have HO : Hid (∀ (a b : Int) (t : TypeId) (V : World) (g : Nat), g = V.heap.size → Calls Try.prog 20 #[.slice (some ⟨g, 0, none⟩) 2 2] (V.alloc (.cells #[.int .i64 a, .int .i64 b] t)).drew fun e w' => e = .returned (.int .i64 (orI a b)) ∧ (V.alloc (.cells #[.int .i64 a, .int .i64 b] t)).drew = w') := Lib.hid fun a b t V g hg => by
    subst hg
    exact or_any a b V.heap.size _ ((Blk.new V t #[.int .i64 a, .int .i64 b]).cell 0) ((Blk.new V t #[.int .i64 a, .int .i64 b]).cell 1)
  generalize cmpI x2 y2 = r at HE HC
  generalize cmpI x1 y1 = s at HE HU
  go_enter Try.func18, Try.ntmps18
  go_wp2_with (fail)
  obtain ⟨V, hV⟩ : ∃ V, V = (w.alloc (.cells #[.int .i64 x1, .int .i64 x2] 26)).alloc (.cells #[.int .i64 y1, .int .i64 y2] 26) := ⟨_, rfl⟩
  have hs0 : V.heap.size = w.heap.size + 2 := by rw [hV]; simp
  have hg0 : Grew w V := by rw [hV]; exact ((Grew.refl w).alloc _).alloc _
  have hb1 : Blk V w.heap.size 26 #[.int .i64 x1, .int .i64 x2] := by rw [hV]; exact (Blk.new w _ _).alloc _
  have hb2 : Blk V (w.heap.size + 1) 26 #[.int .i64 y1, .int .i64 y2] := by
    rw [hV]
    have h := Blk.new (w.alloc (.cells #[.int .i64 x1, .int .i64 x2] 26)) 26 #[.int .i64 y1, .int .i64 y2]
    rwa [show (w.alloc (.cells #[.int .i64 x1, .int .i64 x2] 26)).heap.size = w.heap.size + 1 by simp] at h
  rw [← hV]
  clear hV
  have HS : Hid (∀ W, Below (w.heap.size + 2) V W → W.cell? ⟨w.heap.size, 0, none⟩ = some (.int .i64 x1) ∧ W.cell? ⟨w.heap.size, 1, none⟩ = some (.int .i64 x2) ∧ W.cell? ⟨w.heap.size + 1, 0, none⟩ = some (.int .i64 y1) ∧ W.cell? ⟨w.heap.size + 1, 1, none⟩ = some (.int .i64 y2)) := Lib.hid fun W hW =>
    ⟨(hb1.below hW (by omega)).cell 0, (hb1.below hW (by omega)).cell 1, (hb2.below hW (by omega)).cell 0, (hb2.below hW (by omega)).cell 1⟩
  have HZ : Hid (w.heap.size + 2 ≤ V.heap.size) := Lib.hid (by omega)
  have HG := Lib.hid hg0
  clear hb1 hb2 hg0 hs0
  go_region_held3 (fun W => W.cell? ⟨w.heap.size, 0, none⟩ = some (.int .i64 x1) ∧ W.cell? ⟨w.heap.size, 1, none⟩ = some (.int .i64 x2) ∧ W.cell? ⟨w.heap.size + 1, 0, none⟩ = some (.int .i64 y1) ∧ W.cell? ⟨w.heap.size + 1, 1, none⟩ = some (.int .i64 y2))
    ((refine HS.out _ ?_; repeat' (first | (with_reducible exact Below.refl _ _) | (with_reducible refine Below.drew ?_) | (with_reducible refine Below.alloc ?_ HZ.out _))))
    (first
    | (go_at_call 21; (first | (with_reducible refine (HC.out _).mono ?_) | (with_reducible refine (HU.out _).mono ?_)); rintro e w' ⟨rfl, rfl⟩)
    | (go_at_call 20; (refine (HO.out _ _ _ _ _ (by simp)).mono ?_); rintro e w' ⟨rfl, rfl⟩))
  go_wp2_with (fail)
  go_ret
  exact ⟨by rw [← HE.out]; rfl, by repeat' (first | (with_reducible exact HG.out) | (with_reducible refine Grew.drew ?_) | (with_reducible refine Grew.alloc ?_ _))⟩
theorem cmp_enters : Enters Try.prog 18 := enters_of Try.func18 (by kernel_rfl) rfl
theorem cmp_lays (blk off size : Nat) (w : World) : CmpLays Try.prog 18 #[] fc 2 cf blk off size w := fun _ _ _ _ x y => by
  have h := cmp_grew x y (sortWorldK fc 2 w blk off ‹_› ‹_› ‹_›)
  exact h
theorem cmp_any (x y : Hit) (w : World) : Calls Try.prog 18 #[.agg #[.int .i64 x.1, .int .i64 x.2], .agg #[.int .i64 y.1, .int .i64 y.2]] w fun e w' => e = .returned (.int .i64 (cf x y)) ∧ Below w.heap.size w w' :=
  (cmp_grew x y w).mono fun e w' ⟨he, hg⟩ => ⟨he, hg.below⟩

end Go.Proofs.Ytikdnpfnijhkkaa.far
