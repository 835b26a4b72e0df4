/-
  Several texts in one.
-/
import Derived.Test.YtgbjpobgjmkjgaaGreatGLib
import Derived.Test.YtgbjpobgjmkjgaaGreatHitM
import Derived.Test.YtgbjpobgjmkjgaaGreatShelf
import Derived.Test.YtgbjpobgjmkjgaaGreatChecked
import Derived.Lib.Hide
import Derived.BigQuiet
import Derived.WalkMore
import Derived.RegionCalls
import Derived.Deep.RegionWith
import Derived.Deep.RegionHeld3
import Derived.Shelf.Abstract
import Derived.Laws.StructEq
set_option maxRecDepth 100000
/-
  The contracts of hits.Cmp (with the world that a sort wants), of the document's Less.
-/
namespace Go.Proofs.YtgbjpobgjmkjgaaGreat.hit
open Go.RowKit law bytes only flat Go.Sort Go.Shelf
set_option linter.unusedVariables false

def cmpI (x y : Int) : Int := if x < y then -1 else if y < x then 1 else 0
theorem cmp64_any (x y : Int) (w : World) : Calls Tryz.prog 130 #[.int .i64 x, .int .i64 y] w fun e w' => e = .returned (.int .i64 (cmpI x y)) ∧ w = w' :=
  (Tryz.cmp_Compare_int x y w).mono fun e w' ⟨he, hw⟩ => ⟨he, hw.symm⟩
theorem nanU_any (x : Int) (w : World) : Calls Tryz.prog 152 #[.int .u64 x] w fun e w' => e = .returned (.bool false) ∧ w = w' := by
  go_enter Tryz.func152, Tryz.ntmps152
  go_wp2
  go_ret
  exact ⟨ret_bool (by simp), rfl⟩
theorem cmpU_any (x y : Int) (w : World) : Calls Tryz.prog 119 #[.int .u64 x, .int .u64 y] w fun e w' => e = .returned (.int .i64 (cmpI x y)) ∧ w = w' := by
  have hC : cmpI x y = if x < y then -1 else if x > y then 1 else 0 := rfl
  by_cases h1 : x < y
  · rw [if_pos h1] at hC
    have HC := Lib.hid hC
    have d1 : decide (x < y) = true := decide_eq_true h1
    clear hC h1
    go_enter Tryz.func119, Tryz.ntmps119
    go_wp2_with (go_at_call 152; (with_reducible refine (nanU_any _ _).mono ?_); rintro e w' ⟨rfl, rfl⟩)
    go_ret
    exact ⟨by rw [HC.out]; rfl, rfl⟩
  rw [if_neg h1] at hC
  have d1 : decide (x < y) = false := decide_eq_false h1
  by_cases h2 : y < x
  · rw [if_pos h2] at hC
    have HC := Lib.hid hC
    have d2 : decide (y < x) = true := decide_eq_true h2
    clear hC h1 h2
    go_enter Tryz.func119, Tryz.ntmps119
    go_wp2_with (go_at_call 152; (with_reducible refine (nanU_any _ _).mono ?_); rintro e w' ⟨rfl, rfl⟩)
    go_ret
    exact ⟨by rw [HC.out]; rfl, rfl⟩
  rw [if_neg h2] at hC
  have HC := Lib.hid hC
  have d2 : decide (y < x) = false := decide_eq_false h2
  clear hC h1 h2
  go_enter Tryz.func119, Tryz.ntmps119
  go_wp2_with (go_at_call 152; (with_reducible refine (nanU_any _ _).mono ?_); rintro e w' ⟨rfl, rfl⟩)
  go_ret
  exact ⟨by rw [HC.out]; rfl, rfl⟩

/-- the first of two that is none -/
def orI (a b : Int) : Int := if a = 0 then b else a
set_option maxHeartbeats 800000 in
theorem or_any (a b : Int) (g : Nat) (w : World) (h0 : w.cell? ⟨g, 0, none⟩ = some (.int .i64 a)) (h1 : w.cell? ⟨g, 1, none⟩ = some (.int .i64 b)) :
    Calls Tryz.prog 138 #[.slice (some ⟨g, 0, none⟩) 2 2] w fun e w' => e = .returned (.int .i64 (orI a b)) ∧ w = w' := by
  go_enter Tryz.func138, Tryz.ntmps138
  go_wp2_with (fail)
  go_loopg [8] 2 (fun gk i wr => ∃ k : Nat, k ≤ 2 ∧ gk = 2 - k ∧ i = .int .i64 k ∧ (0 < k → a = 0) ∧ (1 < k → b = 0) ∧ w = wr)
  case atStart => exact ⟨0, by omega, rfl, rfl, by omega, by omega, rfl⟩
  case round =>
    obtain ⟨k, hk, rfl, rfl, ha, hb, rfl⟩ := hrel
    rcases Nat.lt_or_ge k 2 with hlt | hge
    · rcases Nat.lt_or_ge k 1 with hl1 | hl1
      · obtain rfl : k = 0 := by omega
        by_cases hz : a = 0
        · subst hz
          go_wp2_with (fail)
          go_roundg 1
          case measure => omega
          case rel => exact ⟨1, by omega, rfl, by go_num, by simp, by omega, rfl⟩
        · have d1 : (a != 0) = true := by simpa using hz
          have d2 : (a == 0) = false := by simpa using hz
          have HO : Hid (orI a b = a) := Lib.hid (by unfold orI; rw [if_neg hz])
          clear ha hb
          go_wp2_with (fail)
          go_ret
          exact ⟨by rw [HO.out]; rfl, rfl⟩
      · obtain rfl : k = 1 := by omega
        have hz := ha (by omega)
        by_cases hy : b = 0
        · subst hy
          go_wp2_with (fail)
          go_roundg 0
          case measure => omega
          case rel => exact ⟨2, by omega, rfl, by go_num, fun _ => hz, by simp, rfl⟩
        · have d1 : (b != 0) = true := by simpa using hy
          have d2 : (b == 0) = false := by simpa using hy
          have HO : Hid (orI a b = b) := Lib.hid (by unfold orI; rw [if_pos hz])
          clear ha hb hz
          go_wp2_with (fail)
          go_ret
          exact ⟨by rw [HO.out]; rfl, rfl⟩
    · obtain rfl : k = 2 := by omega
      have HO : Hid (orI a b = 0) := Lib.hid (by unfold orI; rw [if_pos (ha (by omega)), hb (by omega)])
      clear ha hb
      go_wp2_with (fail)
      go_ret
      exact ⟨by rw [HO.out]; rfl, rfl⟩
theorem orI_cf (x y : Hit) : orI (cmpI x.2 y.2) (cmpI x.1 y.1) = cf x y := by
  unfold orI cmpI cf
  simp only [lt_iff]
  by_cases h1 : x.2 < y.2
  · have h2 : ¬ y.2 < x.2 := by omega
    simp [h1]
  · by_cases h2 : y.2 < x.2
    · have h3 : ¬ x.2 = y.2 := by omega
      simp [h1, h2, h3]
    · have h3 : x.2 = y.2 := by omega
      by_cases h4 : x.1 < y.1
      · have h5 : ¬ y.1 < x.1 := by omega
        simp [h3, h4]
      · by_cases h5 : y.1 < x.1 <;> simp [h3, h4, h5]

/-! ### worlds that are grown: draws, and new blocks -/
def Grew (w w' : World) : Prop := ∃ q os, w' = Sort.grow (w.drewN q) os
theorem Grew.refl (w : World) : Grew w w := ⟨0, #[], by rw [Sort.grow_empty]; rfl⟩
theorem Grew.alloc {w w' : World} (h : Grew w w') (o : Obj) : Grew w (w'.alloc o) := by
  obtain ⟨q, os, rfl⟩ := h
  exact ⟨q, os ++ #[o], by rw [Sort.alloc_eq_grow, Sort.grow_grow]⟩
theorem Grew.drewN {w w' : World} (h : Grew w w') (n : Nat) : Grew w (w'.drewN n) := by
  obtain ⟨q, os, rfl⟩ := h
  exact ⟨q + n, os, by rw [← World.drewN_drewN]; rfl⟩
theorem Grew.drew {w w' : World} (h : Grew w w') : Grew w w'.drew := h.drewN 1
theorem Grew.below {w w' : World} (h : Grew w w') : Below w.heap.size w w' := by
  obtain ⟨q, os, rfl⟩ := h
  refine ⟨rfl, rfl, rfl, by simp [Sort.grow], fun i hi => ?_⟩
  show (w.heap ++ os)[i]? = w.heap[i]?
  rw [Array.getElem?_append_left hi]
set_option maxRecDepth 100000 in
set_option maxHeartbeats 800000 in
theorem cmp_grew (x y : Hit) (w : World) : Calls Tryz.prog 108 #[.agg (hc x).toArray, .agg (hc y).toArray] w fun e w' => e = .returned (.int .i64 (cf x y)) ∧ Grew w w' := by
  obtain ⟨x1, x2⟩ := x
  obtain ⟨y1, y2⟩ := y
  show Calls Tryz.prog 108 #[.agg #[.int .u64 x1, .int .i64 x2], .agg #[.int .u64 y1, .int .i64 y2]] w _
  have HE : Hid (orI (cmpI x2 y2) (cmpI x1 y1) = cf (x1, x2) (y1, y2)) := Lib.hid (orI_cf (x1, x2) (y1, y2))
  have HC : Hid (∀ W, Calls Tryz.prog 130 #[.int .i64 x2, .int .i64 y2] W fun e w' => e = .returned (.int .i64 (cmpI x2 y2)) ∧ W = w') := Lib.hid fun W => cmp64_any _ _ W
  have HU : Hid (∀ W, Calls Tryz.prog 119 #[.int .u64 x1, .int .u64 y1] W fun e w' => e = .returned (.int .i64 (cmpI x1 y1)) ∧ W = w') := Lib.hid fun W => cmpU_any _ _ W
  have HO : Hid (∀ (a b : Int) (t : TypeId) (V : World) (g : Nat), g = V.heap.size → Calls Tryz.prog 138 #[.slice (some ⟨g, 0, none⟩) 2 2] (V.alloc (.cells #[.int .i64 a, .int .i64 b] t)).drew fun e w' => e = .returned (.int .i64 (orI a b)) ∧ (V.alloc (.cells #[.int .i64 a, .int .i64 b] t)).drew = w') := Lib.hid fun a b t V g hg => by
    subst hg
    exact or_any a b V.heap.size _ ((Blk.new V t #[.int .i64 a, .int .i64 b]).cell 0) ((Blk.new V t #[.int .i64 a, .int .i64 b]).cell 1)
  generalize cmpI x2 y2 = r at HE HC
  generalize cmpI x1 y1 = s at HE HU
  go_enter Tryz.func108, Tryz.ntmps108
  go_wp2_with (fail)
  obtain ⟨V, hV⟩ : ∃ V, V = (w.alloc (.cells #[.int .u64 x1, .int .i64 x2] 80)).alloc (.cells #[.int .u64 y1, .int .i64 y2] 80) := ⟨_, rfl⟩
  have hs0 : V.heap.size = w.heap.size + 2 := by rw [hV]; simp
  have hg0 : Grew w V := by rw [hV]; exact ((Grew.refl w).alloc _).alloc _
  have hb1 : Blk V w.heap.size 80 #[.int .u64 x1, .int .i64 x2] := by rw [hV]; exact (Blk.new w _ _).alloc _
  have hb2 : Blk V (w.heap.size + 1) 80 #[.int .u64 y1, .int .i64 y2] := by
    rw [hV]
    have h := Blk.new (w.alloc (.cells #[.int .u64 x1, .int .i64 x2] 80)) 80 #[.int .u64 y1, .int .i64 y2]
    rwa [show (w.alloc (.cells #[.int .u64 x1, .int .i64 x2] 80)).heap.size = w.heap.size + 1 by simp] at h
  rw [← hV]
  clear hV
  have HS : Hid (∀ W, Below (w.heap.size + 2) V W → W.cell? ⟨w.heap.size, 0, none⟩ = some (.int .u64 x1) ∧ W.cell? ⟨w.heap.size, 1, none⟩ = some (.int .i64 x2) ∧ W.cell? ⟨w.heap.size + 1, 0, none⟩ = some (.int .u64 y1) ∧ W.cell? ⟨w.heap.size + 1, 1, none⟩ = some (.int .i64 y2)) := Lib.hid fun W hW =>
    ⟨(hb1.below hW (by omega)).cell 0, (hb1.below hW (by omega)).cell 1, (hb2.below hW (by omega)).cell 0, (hb2.below hW (by omega)).cell 1⟩
  have HZ : Hid (w.heap.size + 2 ≤ V.heap.size) := Lib.hid (by omega)
  have HG := Lib.hid hg0
  clear hb1 hb2 hg0 hs0
  go_region_held3 (fun W => W.cell? ⟨w.heap.size, 0, none⟩ = some (.int .u64 x1) ∧ W.cell? ⟨w.heap.size, 1, none⟩ = some (.int .i64 x2) ∧ W.cell? ⟨w.heap.size + 1, 0, none⟩ = some (.int .u64 y1) ∧ W.cell? ⟨w.heap.size + 1, 1, none⟩ = some (.int .i64 y2))
    ((refine HS.out _ ?_; repeat' (first | (with_reducible exact Below.refl _ _) | (with_reducible refine Below.drew ?_) | (with_reducible refine Below.alloc ?_ HZ.out _))))
    (first
    | (go_at_call 130; (with_reducible refine (HC.out _).mono ?_); rintro e w' ⟨rfl, rfl⟩)
    | (go_at_call 119; (with_reducible refine (HU.out _).mono ?_); rintro e w' ⟨rfl, rfl⟩)
    | (go_at_call 138; (refine (HO.out _ _ _ _ _ (by simp)).mono ?_); rintro e w' ⟨rfl, rfl⟩))
  go_wp2_with (fail)
  go_ret
  exact ⟨by rw [← HE.out]; rfl, by repeat' (first | (with_reducible exact HG.out) | (with_reducible refine Grew.drew ?_) | (with_reducible refine Grew.alloc ?_ _))⟩
theorem cmp_enters : Enters Tryz.prog 108 := enters_of Tryz.func108 (by kernel_rfl) rfl
theorem cmp_lays (blk off size : Nat) (w : World) : CmpLays Tryz.prog 108 #[] hc 2 cf blk off size w := fun _ _ _ _ x y => by
  have h := cmp_grew x y (sortWorldK hc 2 w blk off ‹_› ‹_› ‹_›)
  exact h
theorem cmp_any (x y : Hit) (w : World) : Calls Tryz.prog 108 #[.agg #[.int .u64 x.1, .int .i64 x.2], .agg #[.int .u64 y.1, .int .i64 y.2]] w fun e w' => e = .returned (.int .i64 (cf x y)) ∧ Below w.heap.size w w' :=
  (cmp_grew x y w).mono fun e w' ⟨he, hg⟩ => ⟨he, hg.below⟩

set_option maxRecDepth 100000 in
set_option maxHeartbeats 1600000 in
theorem less_any (x y : Hit) (w : World) : Calls Tryz.prog 120 #[.agg #[.int .u64 x.1, .int .i64 x.2], .agg #[.int .u64 y.1, .int .i64 y.2]] w fun e w' => e = .returned (.bool (lt x y)) ∧ Below w.heap.size w w' := by
  obtain ⟨x1, x2⟩ := x
  obtain ⟨y1, y2⟩ := y
  dsimp only
  by_cases h1 : x2 < y2
  · have HL : Hid (lt (x1, x2) (y1, y2) = true) := Lib.hid ((lt_iff _ _).2 (.inl h1))
    have d1 : decide (x2 < y2) = true := decide_eq_true h1
    go_enter Tryz.func120, Tryz.ntmps120
    go_wp2_with (fail)
    go_ret
    exact ⟨by rw [HL.out]; rfl, ((Below.refl _ w).alloc (Nat.le_refl _) _).alloc (by simp) _⟩
  · have d1 : decide (x2 < y2) = false := decide_eq_false h1
    by_cases h2 : x2 = y2
    · subst h2
      have e1 : (x2 == x2) = true := by simp
      by_cases h3 : x1 < y1
      · have HL : Hid (lt (x1, x2) (y1, x2) = true) := Lib.hid ((lt_iff _ _).2 (.inr ⟨rfl, h3⟩))
        have d2 : decide (x1 < y1) = true := decide_eq_true h3
        go_enter Tryz.func120, Tryz.ntmps120
        go_wp2_with (fail)
        go_ret
        exact ⟨by rw [HL.out]; rfl, ((Below.refl _ w).alloc (Nat.le_refl _) _).alloc (by simp) _⟩
      · have HL : Hid (lt (x1, x2) (y1, x2) = false) := Lib.hid ((nlt_iff _ _).2 (.inr ⟨rfl, by omega⟩))
        have d2 : decide (x1 < y1) = false := decide_eq_false h3
        go_enter Tryz.func120, Tryz.ntmps120
        go_wp2_with (fail)
        go_ret
        exact ⟨by rw [HL.out]; rfl, ((Below.refl _ w).alloc (Nat.le_refl _) _).alloc (by simp) _⟩
    · have HL : Hid (lt (x1, x2) (y1, y2) = false) := Lib.hid ((nlt_iff _ _).2 (.inl (show y2 < x2 by omega)))
      have e1 : (x2 == y2) = false := by simpa using h2
      go_enter Tryz.func120, Tryz.ntmps120
      go_wp2_with (fail)
      go_ret
      exact ⟨by rw [HL.out]; rfl, ((Below.refl _ w).alloc (Nat.le_refl _) _).alloc (by simp) _⟩
end Go.Proofs.YtgbjpobgjmkjgaaGreat.hit
/-
  The contracts of the document's Same (rows that read alike), Put and Sort of hits.
-/
namespace Go.Proofs.YtgbjpobgjmkjgaaGreat.hit
open Go.RowKit law bytes only flat Go.Sort Go.Shelf
set_option linter.unusedVariables false

theorem hitE : ElemK Tryz.prog 80 2 16 := elemK_mk (z := .agg #[.int .u64 0, .int .i64 0]) (by kernel_rfl) rfl
/-- where a row's hits stand -/
theorem Sl.hit {w : World} {B : Nat} {A : Option Addr} {l : List Hit} (h : Sl w B A (hv l)) (h0 : 0 < l.length) : ∃ b o, A = some ⟨b, o, none⟩ ∧ b < B ∧
    ∀ k (hk : k < l.length), w.cell? ⟨b, o + k * 2, none⟩ = some (.int .u64 l[k].1) ∧ w.cell? ⟨b, o + k * 2 + 1, none⟩ = some (.int .i64 l[k].2) := by
  obtain ⟨b, o, rfl, hb, hc⟩ := Sl.place h (by rw [hv_length]; omega)
  refine ⟨b, o, rfl, hb, fun k hk => ?_⟩
  have g := fun j (hj : j < 2) => flat_get hc_len l k j hk hj
  have g0 := g 0 (by omega)
  have g1 := g 1 (by omega)
  have l0 : k * 2 + 0 < (hv l).length := by rw [hv_length]; omega
  have l1 : k * 2 + 1 < (hv l).length := by rw [hv_length]; omega
  have c0 := hc _ l0
  have c1 := hc _ l1
  have e0 : (hv l)[k * 2 + 0] = .int .u64 l[k].1 := Option.some.inj ((List.getElem?_eq_getElem l0).symm.trans (g0.trans rfl))
  have e1 : (hv l)[k * 2 + 1] = .int .i64 l[k].2 := Option.some.inj ((List.getElem?_eq_getElem l1).symm.trans (g1.trans rfl))
  rw [e0] at c0
  rw [e1] at c1
  exact ⟨c0, by rw [Nat.add_assoc]; exact c1⟩
/-- .. one of them -/
theorem Sl.hitAt {w : World} {B : Nat} {A : Option Addr} {l : List Hit} {k : Nat} (h : Sl w B A (hv l)) (hk : k < l.length) : ∃ b o, A = some ⟨b, o, none⟩ ∧ b < B ∧
    w.cell? ⟨b, o + k * 2, none⟩ = some (.int .u64 l[k].1) ∧ w.cell? ⟨b, o + k * 2 + 1, none⟩ = some (.int .i64 l[k].2) := by
  obtain ⟨b, o, rfl, hb, hc⟩ := Sl.hit h (by omega)
  exact ⟨b, o, rfl, hb, hc k hk⟩
set_option maxRecDepth 100000 in
set_option maxHeartbeats 1600000 in
/-- two rows that read alike are alike -/
theorem same_any (A A' : Option Addr) (xs : List Hit) (c c' B B' : Nat) (w : World) (hm : xs.length ≤ 281474976710656) (hs : Sl w B A (hv xs)) (hs' : Sl w B' A' (hv xs)) :
    Calls Tryz.prog 30 #[.slice A xs.length c, .slice A' xs.length c'] w fun e w' => e = .returned (.bool true) ∧ Below w.heap.size w w' := by
  have HS := Lib.hid hs
  have HS' := Lib.hid hs'
  clear hs hs'
  have d0 : ((xs.length : Int) != (xs.length : Int)) = false := by simp
  go_enter Tryz.func30, Tryz.ntmps30
  go_wp2_with (fail)
  go_loopg [5] xs.length (fun gk i wr => ∃ k : Nat, gk = xs.length - k ∧ k ≤ xs.length ∧ i = .int .i64 k ∧ Below w.heap.size w wr ∧ Sl wr B A (hv xs) ∧ Sl wr B' A' (hv xs))
  case atStart => exact ⟨0, rfl, Nat.zero_le _, rfl, Below.refl _ _, HS.out, HS'.out⟩
  case round =>
    clear HS HS'
    obtain ⟨k, rfl, hk, rfl, hb, hs, hs'⟩ := hrel
    by_cases hlt : k < xs.length
    · obtain ⟨b, o, rfl, hb1, hc0, hc1⟩ := Sl.hitAt hs hlt
      obtain ⟨b', o', rfl, hb2, hd0, hd1⟩ := Sl.hitAt hs' hlt
      obtain ⟨⟨x, y⟩, hx⟩ : ∃ x, xs[k] = x := ⟨_, rfl⟩
      rw [hx] at hc0 hc1 hd0 hd1
      dsimp only at hc0 hc1 hd0 hd1
      have i1 : (k : Int) < (xs.length : Int) := by omega
      have d1 : (x == x) = true := by simp
      have d2 : (y == y) = true := by simp
      have HB := Lib.hid (And.intro hb.drew (And.intro (hs.drewN 1) (hs'.drewN 1)))
      clear hs hs' hx hb
      go_wp2_with (fail)
      go_region
      go_wp2_with (fail)
      go_roundg (xs.length - (k + 1))
      case measure => omega
      case rel => exact ⟨k + 1, rfl, by omega, by go_num, HB.out.1, HB.out.2.1, HB.out.2.2⟩
    · have i1 : ¬ (k : Int) < (xs.length : Int) := by omega
      have HB := Lib.hid hb
      clear hs hs' hb
      go_wp2_with (fail)
      go_ret
      exact ⟨rfl, HB.out⟩
/-- what comes back reads as l; all that there was is as it was -/
def Rows (l : List Hit) (w : World) (e : Ending) (w' : World) : Prop :=
  ∃ A c, e = .returned (.slice A l.length c) ∧ l.length ≤ c ∧ Sl w' w'.heap.size A (hv l) ∧ Below w.heap.size w w'
/-- .. and is a row of the call's own -/
def Own (l : List Hit) (w : World) (e : Ending) (w' : World) : Prop :=
  ∃ A c, e = .returned (.slice A l.length c) ∧ w'.ownsRow w.heap.size 80 2 (.slice A l.length c) l.length (hv l) ∧ Below w.heap.size w w'
theorem Own.rows {l : List Hit} {w w' : World} {e : Ending} (h : Own l w e w') : Rows l w e w' := by
  obtain ⟨A, c, rfl, ho, hb⟩ := h
  obtain ⟨_, _, hv', hc⟩ := own_slice ho
  injection hv' with _ _ hv'
  exact ⟨A, c, rfl, by omega, Sl.of_ownK ho, hb⟩
theorem Own.mk {l m : List Hit} {w w' : World} {v : Value} {n : Nat} (h : w'.ownsRow w.heap.size 80 2 v n (hv m)) (he : m = l) (hb : Below w.heap.size w w') : Own l w (.returned v) w' := by
  subst he
  obtain ⟨A, c, rfl, hc⟩ := own_slice h
  have hn : n = m.length := by have := h.1; rw [hv_length] at this; omega
  subst hn
  exact ⟨A, c, rfl, h, hb⟩
theorem own_cap2 {w : World} {base n c : Nat} {e : TypeId} {A : Option Addr} {xs : List Value} (h : w.ownsRow base e 2 (.slice A n c) n xs) : n ≤ c := by
  obtain ⟨_, _, hv', hc⟩ := own_slice h
  injection hv' with _ _ hv'
  omega
theorem own_base {w : World} {base base' n k : Nat} {e : TypeId} {v : Value} {xs : List Value} (h : w.ownsRow base e k v n xs) (hb : base' ≤ base) : w.ownsRow base' e k v n xs :=
  ⟨h.1, h.2.imp id fun ⟨g, cap, cur, hv, hg, r⟩ => ⟨g, cap, cur, hv, Nat.le_trans hb hg, r⟩⟩
theorem hc_oneOf (x y : Int) : ∀ u ∈ [Value.int .u64 x, Value.int .i64 y], u.oneCell' = true := by simp [Value.oneCell']
theorem hv_snoc (out : List Hit) (x y : Int) : hv (out ++ [(x, y)]) = hv out ++ [.int .u64 x, .int .i64 y] := by simp [hv, hc]
set_option maxRecDepth 100000 in
set_option maxHeartbeats 6400000 in
theorem put_any (A : Option Addr) (c : Nat) (xs : List Hit) (n : Hit) (w : World) (hm : (xs.length + 1) * 16 ≤ 140737488355328) (hs : Sl w w.heap.size A (hv xs)) :
    Calls Tryz.prog 82 #[.slice A xs.length c, .agg #[.int .u64 n.1, .int .i64 n.2]] w (Own (put n xs) w) := by
  obtain ⟨n1, n2⟩ := n
  dsimp only
  have hlen : (put (n1, n2) xs).length = xs.length + 1 := put_length _ _
  obtain ⟨W0, hW0⟩ : ∃ W, W = w.alloc (.cells #[.int .u64 n1, .int .i64 n2] 80) := ⟨_, rfl⟩
  have hz0 : W0.heap.size = w.heap.size + 1 := by rw [hW0]; simp
  have hb0 : Below w.heap.size w W0 := by rw [hW0]; exact (Below.refl _ w).alloc (Nat.le_refl _) _
  have hbx : Blk W0 w.heap.size 80 #[.int .u64 n1, .int .i64 n2] := by rw [hW0]; exact Blk.new w _ _
  have HN : Hid (∀ W, Below (w.heap.size + 1) W0 W → W.cell? ⟨w.heap.size, 0, none⟩ = some (.int .u64 n1) ∧ W.cell? ⟨w.heap.size, 1, none⟩ = some (.int .i64 n2)) := Lib.hid fun W hW =>
    ⟨(hbx.below hW (by omega)).cell 0, (hbx.below hW (by omega)).cell 1⟩
  have HS : Hid (∀ W, Below (w.heap.size + 1) W0 W → Sl W (w.heap.size + 1) A (hv xs)) := Lib.hid fun W hW => ((hs.below hb0).more (Nat.le_succ _)).below hW
  have HE : Hid (∀ out A' m c' wr, out = put (n1, n2) xs → wr.ownsRow (w.heap.size + 1) 80 2 (.slice A' m c') m (hv out) → Below (w.heap.size + 1) W0 wr → Own (put (n1, n2) xs) w (.returned (.slice A' m c')) wr) := Lib.hid fun out A' m c' wr ho hr hb =>
    Own.mk (own_base hr (Nat.le_succ _)) ho (hb0.trans (hb.mono (Nat.le_succ _)))
  have HZ : Hid (W0.heap.size = w.heap.size + 1) := Lib.hid hz0
  clear hs hlen hb0 hbx hz0
  go_enter Tryz.func82, Tryz.ntmps82
  go_wp2_with (fail)
  rw [← hW0]
  clear hW0
  go_loopg [5, 6, 7] xs.length (fun gk s5 s6 s7 wr => ∃ (k m c' : Nat) (A' : Option Addr) (dn : Bool) (out : List Hit), gk = xs.length - k ∧ k ≤ xs.length ∧ s5 = .slice A' m c' ∧ s6 = .bool dn ∧ s7 = .int .i64 k ∧ m = out.length ∧ Put (n1, n2) xs k dn out ∧ wr.ownsRow (w.heap.size + 1) 80 2 (.slice A' m c') m (hv out) ∧ Below (w.heap.size + 1) W0 wr)
  case atStart => exact ⟨0, 0, 0, none, false, [], rfl, Nat.zero_le _, rfl, rfl, rfl, rfl, Put.start, World.ownsRow_nil _ _ _ _, Below.refl _ _⟩
  case round =>
    obtain ⟨k, m, c', A', dn, out, rfl, hk, rfl, rfl, rfl, hmo, hput, hown, hB⟩ := hrel
    have hle := hput.size hk
    have hsz : w.heap.size + 1 ≤ wr.heap.size := by have := hB.size; have := HZ.out; omega
    have hmk : m ≤ k + 1 := by omega
    have HMO := Lib.hid hmo
    have HPT := Lib.hid hput
    clear hmo hle hput
    by_cases hlt : k < xs.length
    · have i1 : (k : Int) < (xs.length : Int) := by omega
      obtain ⟨b, o, rfl, hb1, hc0, hc1⟩ := Sl.hitAt (HS.out wr hB) hlt
      obtain ⟨⟨x, y⟩, hx⟩ : ∃ x, xs[k] = x := ⟨_, rfl⟩
      rw [hx] at hc0 hc1
      dsimp only at hc0 hc1
      have HX := Lib.hid hx
      have HC : Hid (∀ W, Below (w.heap.size + 1) W0 W → W.cell? ⟨b, o + k * 2, none⟩ = some (.int .u64 x) ∧ W.cell? ⟨b, o + k * 2 + 1, none⟩ = some (.int .i64 y)) := Lib.hid fun W hW => by
        obtain ⟨b', o', e, _, h0, h1⟩ := Sl.hitAt (HS.out W hW) hlt
        injection e with e
        injection e with e1 e2
        subst e1 e2
        rw [hx] at h0 h1
        exact ⟨h0, h1⟩
      obtain ⟨hn0, hn1⟩ := HN.out wr hB
      clear hx
      have HSC : Hid (∀ W, Below wr.heap.size wr W → W.cell? ⟨w.heap.size, 0, none⟩ = some (.int .u64 n1) ∧ W.cell? ⟨w.heap.size, 1, none⟩ = some (.int .i64 n2) ∧ W.cell? ⟨b, o + k * 2, none⟩ = some (.int .u64 x) ∧ W.cell? ⟨b, o + k * 2 + 1, none⟩ = some (.int .i64 y)) := Lib.hid fun W hW =>
        have h2 := hB.trans (hW.mono hsz)
        ⟨(HN.out W h2).1, (HN.out W h2).2, (HC.out W h2).1, (HC.out W h2).2⟩
      cases dn with
      | true =>
        go_wp2_with (fail)
        go_quiet (fail)
        go_wp2_with (at_builtin
                     refine wpList_append_slk _ rfl (.tmp 28) (.tmp 33) _ rfl (w.heap.size + 1) 80 2 16 Tryz.underlying72 hitE (by omega) (.slice A' m c') m (hv out) rfl (World.ownsRow.alloc (w := wr.drewN nq) hown _) _ _ 1 1 [.int .u64 x, .int .i64 y] rfl (Sl.lit (wr.drewN nq) _ _) rfl (hc_oneOf _ _) (by omega) (by unfold maxLen; omega) (by simp; omega) ?_
                     intro v4 w4 hown4 hg4 hat4
                     obtain ⟨A4, c4, rfl, hc4⟩ := own_slice hown4)
        go_roundg (xs.length - (k + 1))
        case measure => omega
        case rel => exact ⟨k + 1, m + 1, c4, A4, true, out ++ [(x, y)], rfl, by omega, rfl, rfl, by go_num, by rw [List.length_append, ← HMO.out]; rfl, by rw [← HX.out]; exact HPT.out.pass hlt, by rw [hv_snoc]; exact hown4, below_appendK1 (below_drewN' hB nq) hsz _ (wr := wr.drewN nq) hown (Nat.le_refl _) hg4⟩
      | false =>
        have hm0 : m ≤ k := by have := HPT.out.size0 hk; have := HMO.out; omega
        have HL : Hid (∀ W, Below wr.heap.size wr W → Calls Tryz.prog 120 #[.agg #[.int .u64 n1, .int .i64 n2], .agg #[.int .u64 x, .int .i64 y]] W fun e w' => e = .returned (.bool (lt (n1, n2) (x, y))) ∧ Below wr.heap.size wr w') := Lib.hid fun W hW =>
          (less_any (n1, n2) (x, y) W).mono fun e w' ⟨he, hb⟩ => ⟨he, hW.trans (hb.mono hW.size)⟩
        have HOW : Hid (∀ W, Below wr.heap.size wr W → W.ownsRow (w.heap.size + 1) 80 2 (.slice A' m c') m (hv out) ∧ Below (w.heap.size + 1) W0 W ∧ w.heap.size + 1 ≤ W.heap.size) := Lib.hid fun W hW =>
          ⟨own_below hown hW (Nat.le_refl _), hB.trans (hW.mono hsz), Nat.le_trans hsz hW.size⟩
        clear hown hB hsz
        cases hlx : lt (n1, n2) (x, y) with
        | true =>
          rw [hlx] at HL
          have HLX := Lib.hid hlx
          clear hlx
          go_wp2_with (fail)
          go_region_held3 (fun W => W.cell? ⟨w.heap.size, 0, none⟩ = some (.int .u64 n1) ∧ W.cell? ⟨w.heap.size, 1, none⟩ = some (.int .i64 n2) ∧ W.cell? ⟨b, o + k * 2, none⟩ = some (.int .u64 x) ∧ W.cell? ⟨b, o + k * 2 + 1, none⟩ = some (.int .i64 y))
            ((refine HSC.out _ ?_; repeat' (first | (with_reducible assumption) | (with_reducible exact Below.refl _ _) | (with_reducible refine Below.drew ?_))))
            ((go_at_call 120; (refine (HL.out _ (by first | (with_reducible assumption) | (with_reducible exact Below.refl _ _) | (with_reducible exact Below.drew (Below.refl _ _)))).mono ?_); rintro e w2 ⟨rfl, hb2⟩))
          obtain ⟨ho2, hB2, hsz2⟩ := HOW.out w2 hb2
          obtain ⟨ca, cb, cc, cd⟩ := HSC.out w2 hb2
          go_wp2_with (first
            | (at_builtin
               refine wpList_append_slk _ rfl (.tmp 24) (.tmp 26) _ rfl (w.heap.size + 1) 80 2 16 Tryz.underlying72 hitE (by omega) (.slice A' m c') m (hv out) rfl (World.ownsRow.alloc (w := w2) ho2 _) _ _ 1 1 [.int .u64 n1, .int .i64 n2] rfl (Sl.lit w2 _ _) rfl (hc_oneOf _ _) (by omega) (by unfold maxLen; omega) (by simp; omega) ?_
               intro v3 w3 hown3 hg3 hat3
               obtain ⟨A3, c3, rfl, hc3⟩ := own_slice hown3
               have hB3 := below_appendK1 hB2 hsz2 _ ho2 (Nat.le_refl _) hg3
               have hsz3 : w.heap.size + 1 ≤ w3.heap.size := by have := hB3.size; have := HZ.out; omega
               obtain ⟨e0, e1⟩ := HC.out w3 hB3)
            | (at_builtin
               refine wpList_append_slk _ rfl (.tmp 28) (.tmp 33) _ rfl (w.heap.size + 1) 80 2 16 Tryz.underlying72 hitE (by omega) (.slice A3 (m + 1) c3) (m + 1) (hv out ++ [.int .u64 n1, .int .i64 n2]) rfl (World.ownsRow.alloc (w := w3) hown3 _) _ _ 1 1 [.int .u64 x, .int .i64 y] rfl (Sl.lit w3 _ _) rfl (hc_oneOf _ _) (by omega) (by unfold maxLen; omega) (by simp; omega) ?_
               intro v4 w4 hown4 hg4 hat4
               obtain ⟨A4, c4, rfl, hc4⟩ := own_slice hown4))
          go_roundg (xs.length - (k + 1))
          case measure => omega
          case rel => exact ⟨k + 1, m + 1 + 1, c4, A4, true, out ++ [(n1, n2)] ++ [(x, y)], rfl, by omega, rfl, rfl, by go_num, by rw [List.length_append, List.length_append, ← HMO.out]; rfl, by rw [← HX.out]; exact HPT.out.here hlt (by rw [HX.out]; exact HLX.out), by rw [hv_snoc, hv_snoc]; exact hown4, below_appendK1 hB3 hsz3 _ hown3 (Nat.le_refl _) hg4⟩
        | false =>
          rw [hlx] at HL
          have HLX := Lib.hid hlx
          clear hlx
          go_wp2_with (fail)
          go_region_held3 (fun W => W.cell? ⟨w.heap.size, 0, none⟩ = some (.int .u64 n1) ∧ W.cell? ⟨w.heap.size, 1, none⟩ = some (.int .i64 n2) ∧ W.cell? ⟨b, o + k * 2, none⟩ = some (.int .u64 x) ∧ W.cell? ⟨b, o + k * 2 + 1, none⟩ = some (.int .i64 y))
            ((refine HSC.out _ ?_; repeat' (first | (with_reducible assumption) | (with_reducible exact Below.refl _ _) | (with_reducible refine Below.drew ?_))))
            ((go_at_call 120; (refine (HL.out _ (by first | (with_reducible assumption) | (with_reducible exact Below.refl _ _) | (with_reducible exact Below.drew (Below.refl _ _)))).mono ?_); rintro e w2 ⟨rfl, hb2⟩))
          obtain ⟨ho2, hB2, hsz2⟩ := HOW.out w2 hb2
          obtain ⟨ca, cb, cc, cd⟩ := HSC.out w2 hb2
          go_wp2_with (at_builtin
                       refine wpList_append_slk _ rfl (.tmp 28) (.tmp 33) _ rfl (w.heap.size + 1) 80 2 16 Tryz.underlying72 hitE (by omega) (.slice A' m c') m (hv out) rfl (World.ownsRow.alloc (w := w2) ho2 _) _ _ 1 1 [.int .u64 x, .int .i64 y] rfl (Sl.lit w2 _ _) rfl (hc_oneOf _ _) (by omega) (by unfold maxLen; omega) (by simp; omega) ?_
                       intro v4 w4 hown4 hg4 hat4
                       obtain ⟨A4, c4, rfl, hc4⟩ := own_slice hown4)
          go_roundg (xs.length - (k + 1))
          case measure => omega
          case rel => exact ⟨k + 1, m + 1, c4, A4, false, out ++ [(x, y)], rfl, by omega, rfl, rfl, by go_num, by rw [List.length_append, ← HMO.out]; rfl, by rw [← HX.out]; exact HPT.out.on hlt (by rw [HX.out]; exact HLX.out), by rw [hv_snoc]; exact hown4, below_appendK1 hB2 hsz2 _ ho2 (Nat.le_refl _) hg4⟩
    · have i1 : ¬ (k : Int) < (xs.length : Int) := by omega
      cases dn with
      | true =>
        go_wp2_with (fail)
        go_ret
        exact HE.out out _ _ _ _ (HPT.out.done hlt) hown hB
      | false =>
        have hm0 : m ≤ k := by have := HPT.out.size0 hk; have := HMO.out; omega
        obtain ⟨hn0, hn1⟩ := HN.out wr hB
        go_wp2_with (at_builtin
                     refine wpList_append_slk _ rfl (.tmp 37) (.tmp 39) _ rfl (w.heap.size + 1) 80 2 16 Tryz.underlying72 hitE (by omega) (.slice A' m c') m (hv out) rfl (World.ownsRow.alloc (w := wr) hown _) _ _ 1 1 [.int .u64 n1, .int .i64 n2] rfl (Sl.lit wr _ _) rfl (hc_oneOf _ _) (by omega) (by unfold maxLen; omega) (by simp; omega) ?_
                     intro v4 w4 hown4 hg4 hat4
                     obtain ⟨A4, c4, rfl, hc4⟩ := own_slice hown4)
        go_ret
        exact HE.out (out ++ [(n1, n2)]) _ _ _ _ (HPT.out.last hlt) (by rw [hv_snoc]; exact hown4) (below_appendK1 hB hsz _ hown (Nat.le_refl _) hg4)
end Go.Proofs.YtgbjpobgjmkjgaaGreat.hit
/-
  The contracts of the document's Sort of hits, of hits.Ids, hits.Find and what it calls.
-/
namespace Go.Proofs.YtgbjpobgjmkjgaaGreat.hit
open Go.RowKit law bytes only flat Go.Sort Go.Shelf
set_option linter.unusedVariables false

/-! ### numbers -/
def idv (l : List Hit) : List Value := l.map fun x => .int .u64 x.1
theorem idv_length (l : List Hit) : (idv l).length = l.length := by simp [idv]
theorem idv_take (l : List Hit) (k : Nat) (hk : k < l.length) : idv (l.take (k + 1)) = idv (l.take k) ++ [.int .u64 l[k].1] := by
  unfold idv
  rw [List.take_succ_eq_append_getElem hk, List.map_append]
  rfl
theorem u64E : Elem Tryz.prog 32 (.int .u64 0) 8 := elem_mk (by kernel_rfl) rfl
/-- a row of the hits' numbers, and what there was is as it was -/
def IdRow (l : List Hit) (w : World) (e : Ending) (w' : World) : Prop := ∃ A c, e = .returned (.slice A l.length c) ∧ Sl w' w'.heap.size A (idv l) ∧ Below w.heap.size w w'
/-! ### the first one of a number -/
theorem find_none {p : Hit → Bool} {l : List Hit} {k : Nat} (h : (l.take k).find? p = none) (hk : k < l.length) (hp : p l[k] = false) : (l.take (k + 1)).find? p = none := by
  rw [List.take_succ_eq_append_getElem hk, List.find?_append, h, Option.none_or, List.find?_cons, hp]
  rfl
theorem find_here {p : Hit → Bool} {l : List Hit} {k : Nat} (h : (l.take k).find? p = none) (hk : k < l.length) (hp : p l[k] = true) : l.find? p = some l[k] := by
  have e : l = l.take k ++ l[k] :: l.drop (k + 1) := by rw [← List.drop_eq_getElem_cons hk, List.take_append_drop]
  have e2 : (l.take k ++ l[k] :: l.drop (k + 1)).find? p = some l[k] := by rw [List.find?_append, h, Option.none_or, List.find?_cons, hp]
  rwa [← e] at e2
theorem find_take {p : Hit → Bool} {l : List Hit} {k : Nat} {x : Hit} (h : (l.take k).find? p = some x) (hk : k < l.length) : (l.take (k + 1)).find? p = some x := by
  rw [List.take_succ_eq_append_getElem hk, List.find?_append, h]
  rfl
theorem find_first {p : Hit → Bool} {l : List Hit} {k : Nat} (h : (l.take k).find? p = none) (hk : k < l.length) (hp : p l[k] = true) : (l.take (k + 1)).find? p = some l[k] := by
  rw [List.take_succ_eq_append_getElem hk, List.find?_append, h, Option.none_or, List.find?_cons, hp]
/-- is it of this number? -/
def isId (id : Int) (x : Hit) : Bool := x.1 == id
/-- where the first one of a number stands -/
def Place (id : Int) (l : List Hit) (w : World) (e : Ending) (w' : World) : Prop :=
  ∃ r : Int, e = .returned (.int .i64 r) ∧ ((r = -1 ∧ l.find? (isId id) = none) ∨ ∃ i : Nat, ∃ h : i < l.length, r = i ∧ l.find? (isId id) = some l[i]) ∧ Below w.heap.size w w'
/-- a hit, or none -/
def opt : Option Hit → Hit × Bool
  | some x => (x, true)
  | none => ((0, 0), false)
/-- the first one of a number, if it is there -/
def Found (id : Int) (l : List Hit) (w : World) (e : Ending) (w' : World) : Prop :=
  ∃ x ok, e = .returned (.tuple #[.agg #[.int .u64 x.1, .int .i64 x.2], .bool ok]) ∧ opt (l.find? (isId id)) = (x, ok) ∧ Below w.heap.size w w'
end Go.Proofs.YtgbjpobgjmkjgaaGreat.hit
/-
  Rows of hits that came in.
-/
namespace Go.Proofs.YtgbjpobgjmkjgaaGreat.hit
open Go.RowKit law bytes only flat came Go.Sort Go.Shelf
open Go.ChangeShapes Go.WideShapes Go.Deep Go.ChangeAt
set_option linter.unusedVariables false
section
variable {H : Type} {enc : TypeId × Value → H} {P : Program} {w : World} {base : Nat} {held : Bool}
theorem cells_hit {fuel : Nat} {t : TypeId} {f0 f1 : Field} {cs : List Value} {y : DataW H × List MemPlace} (ht : P.underlying t = some (.struct #[f0, f1])) (hone : oneCellFields P #[f0, f1] = true) (hC : P.cellsOf t = 2)
    (k0 : P.underlying f0.type = some (.int .u64)) (k1 : P.underlying f1.type = some (.int .i64))
    (h : DataW.trod enc P w base (fun _ => true) held fuel t cs = some y) : ∃ a : Hit, cs = hc a ∧ True := by
  obtain ⟨xs, n, _, hx, hl, hlen, hg⟩ := DataW.trod_struct ht h
  obtain ⟨o0, q0⟩ := hone_of hone 0 f0 rfl
  obtain ⟨o1, q1⟩ := hone_of hone 1 f1 rfl
  match cs, hl.trans hC with
  | [c0, c1], _ =>
    match xs, hlen with
    | [y0, y1], _ =>
      have g0 : DataW.trod enc P w base (fun _ => true) held n f0.type [c0] = some y0 := by simpa [o0, q0] using hg 0 f0 rfl
      have g1 : DataW.trod enc P w base (fun _ => true) held n f1.type [c1] = some y1 := by simpa [o1, q1] using hg 1 f1 rfl
      obtain ⟨a, e0, -, -⟩ := DataW.trod_int k0 g0
      obtain rfl := List.singleton_inj.1 e0
      obtain ⟨b, e1, -, -⟩ := DataW.trod_int k1 g1
      obtain rfl := List.singleton_inj.1 e1
      exact ⟨(a, b), rfl, trivial⟩
end
/-- a row of hits that came in -/
theorem open_hits {H : Type} {enc : TypeId × Value → H} {W : World} {base : Nat} {r : Reach} {b0 : Nat} {v : Value} {d : DataW H} {p : List MemPlace} (hval : Value.okWide Tryz.prog W r b0 72 v) (h : DataW.Trod enc Tryz.prog W base (fun _ => true) true 72 v d p) :
    ∃ A c, ∃ l : List Hit, v = .slice A l.length c ∧ Sl W W.heap.size A (hv l) ∧ (l = [] ∨ ∃ el sp, d = .slice el sp ∧ l.length ≤ el.length + sp.length) := by
  have k : ∀ (fuel : Nat) (cs : List Value) (y : DataW H × List MemPlace), DataW.trod enc Tryz.prog W base (fun _ => true) true fuel 80 cs = some y → ∃ p : Hit, cs = hc p ∧ True := fun fuel cs y h =>
    cells_hit Tryz.underlying80 (by kernel_rfl) (by kernel_rfl) Tryz.underlying32 Tryz.underlying3 h
  obtain ⟨B, cap, l, rfl, hl, -, hr, hd⟩ := open_row (N := 2) Tryz.underlying72 (by kernel_rfl) k hval h
  exact ⟨B, cap, l, rfl, Came.sl hr (by decide) hc_len, hd⟩
/-- .. and its capacity -/
theorem open_hitsc {H : Type} {enc : TypeId × Value → H} {W : World} {base : Nat} {r : Reach} {b0 : Nat} {v : Value} {d : DataW H} {p : List MemPlace} (hval : Value.okWide Tryz.prog W r b0 72 v) (h : DataW.Trod enc Tryz.prog W base (fun _ => true) true 72 v d p) :
    ∃ A c, ∃ l : List Hit, v = .slice A l.length c ∧ l.length ≤ c ∧ Sl W W.heap.size A (hv l) ∧ (l = [] ∨ ∃ el sp, d = .slice el sp ∧ l.length ≤ el.length + sp.length) := by
  obtain ⟨A, c, l, rfl, hs, hd⟩ := open_hits hval h
  refine ⟨A, c, l, rfl, ?_, hs, hd⟩
  obtain ⟨fuel, hf⟩ := h
  rcases open_slice Tryz.underlying72 hf with ⟨hcs, hx⟩ | ⟨a, len', cap', m, n, D, Pl, hcs, _, hl, _⟩
  · simp [Value.cells] at hcs
    obtain ⟨_, h2, _⟩ := hcs
    subst h2
    exact Nat.zero_le _
  · simp [Value.cells] at hcs
    obtain ⟨_, h2, h3⟩ := hcs
    omega
/-- a hit by value that came in -/
theorem open_hit {H : Type} {enc : TypeId × Value → H} {W : World} {base : Nat} {r : Reach} {b0 : Nat} {v : Value} {d : DataW H} {p : List MemPlace} (hval : Value.okWide Tryz.prog W r b0 80 v) (h : DataW.Trod enc Tryz.prog W base (fun _ => true) true 80 v d p) :
    ∃ x : Hit, v = .agg #[.int .u64 x.1, .int .i64 x.2] := by
  obtain ⟨cs, rfl, hsz⟩ := okWide_struct Tryz.underlying80 hval
  obtain ⟨fuel, hf⟩ := h
  obtain ⟨x, e, -⟩ := cells_hit Tryz.underlying80 (by kernel_rfl) (by kernel_rfl) Tryz.underlying32 Tryz.underlying3 hf
  refine ⟨x, ?_⟩
  have e2 : cs.toList = hc x := by simpa [Value.cells] using e
  rw [show cs = (hc x).toArray from by rw [← e2]]
  rfl
end Go.Proofs.YtgbjpobgjmkjgaaGreat.hit
