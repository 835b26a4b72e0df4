/-
  Entries in order: the contract of laesa.compare, of slices.SortFunc at entries.
-/
import Derived.Test.YtgbjpobgjmkjgaaGreatGFro
import Derived.Test.YtgbjpobgjmkjgaaGreatShelg
import Derived.Shelf.SlSortCmp.NoneTotal
namespace Go.Proofs.YtgbjpobgjmkjgaaGreat.ens
open Go.RowKit law bytes only flat fro Go.Sort Go.Shelf
set_option linter.unusedVariables false

/-- the first of two that is none -/
def orI (a b : Int) : Int := if a = 0 then b else a
set_option maxHeartbeats 800000 in
theorem or_any (a b : Int) (g : Nat) (w : World) (h0 : w.cell? ⟨g, 0, none⟩ = some (.int .i64 a)) (h1 : w.cell? ⟨g, 1, none⟩ = some (.int .i64 b)) :
    Calls Tryz.prog 138 #[.slice (some ⟨g, 0, none⟩) 2 2] w fun e w' => e = .returned (.int .i64 (orI a b)) ∧ w = w' := by
  go_enter Tryz.func138, Tryz.ntmps138
  go_wp2_with (fail)
  go_loopg [8] 2 (fun gk i wr => ∃ k : Nat, k ≤ 2 ∧ gk = 2 - k ∧ i = .int .i64 k ∧ (0 < k → a = 0) ∧ (1 < k → b = 0) ∧ w = wr)
  case atStart => exact ⟨0, by omega, rfl, rfl, by omega, by omega, rfl⟩
  case round =>
    obtain ⟨k, hk, rfl, rfl, ha, hb, rfl⟩ := hrel
    rcases Nat.lt_or_ge k 2 with hlt | hge
    · rcases Nat.lt_or_ge k 1 with hl1 | hl1
      · obtain rfl : k = 0 := by omega
        by_cases hz : a = 0
        · subst hz
          go_wp2_with (fail)
          go_roundg 1
          case measure => omega
          case rel => exact ⟨1, by omega, rfl, by go_num, by simp, by omega, rfl⟩
        · have d1 : (a != 0) = true := by simpa using hz
          have d2 : (a == 0) = false := by simpa using hz
          have HO : Hid (orI a b = a) := Lib.hid (by unfold orI; rw [if_neg hz])
          clear ha hb
          go_wp2_with (fail)
          go_ret
          exact ⟨by rw [HO.out]; rfl, rfl⟩
      · obtain rfl : k = 1 := by omega
        have hz := ha (by omega)
        by_cases hy : b = 0
        · subst hy
          go_wp2_with (fail)
          go_roundg 0
          case measure => omega
          case rel => exact ⟨2, by omega, rfl, by go_num, fun _ => hz, by simp, rfl⟩
        · have d1 : (b != 0) = true := by simpa using hy
          have d2 : (b == 0) = false := by simpa using hy
          have HO : Hid (orI a b = b) := Lib.hid (by unfold orI; rw [if_pos hz])
          clear ha hb hz
          go_wp2_with (fail)
          go_ret
          exact ⟨by rw [HO.out]; rfl, rfl⟩
    · obtain rfl : k = 2 := by omega
      have HO : Hid (orI a b = 0) := Lib.hid (by unfold orI; rw [if_pos (ha (by omega)), hb (by omega)])
      clear ha hb
      go_wp2_with (fail)
      go_ret
      exact ⟨by rw [HO.out]; rfl, rfl⟩
/-- which is looked at first: by how low, then by number -/
def cl (x y : Ent) : Int := orI (cmpI x.1 y.1) (cmpI x.2.2 y.2.2)
def Lt (x y : Ent) : Prop := x.1 < y.1 ∨ (x.1 = y.1 ∧ x.2.2 < y.2.2)
theorem cl_neg (x y : Ent) : cl x y < 0 ↔ Lt x y := by
  unfold cl orI Lt
  by_cases h0 : cmpI x.1 y.1 = 0
  · have e := (cmpI_zero _ _).1 h0
    rw [if_pos h0, cmpI_neg]
    omega
  · have e : ¬ x.1 = y.1 := fun h => h0 ((cmpI_zero _ _).2 h)
    rw [if_neg h0, cmpI_neg]
    omega
theorem ltOf_cl (x y : Ent) : ltOf cl x y = true ↔ Lt x y := by
  unfold ltOf
  rw [decide_eq_true_iff, cl_neg]
theorem ltOf_cl' (x y : Ent) : ltOf cl x y = false ↔ ¬ Lt x y := by
  rw [← Bool.not_eq_true, ltOf_cl]
theorem swo : SWO (ltOf cl) where
  irrefl x := by rw [ltOf_cl']; unfold Lt; omega
  trans x y z h1 h2 := by rw [ltOf_cl] at *; unfold Lt at *; omega
  ntrans x y z h1 h2 := by rw [ltOf_cl'] at *; unfold Lt at *; omega
theorem ec_one (x : Ent) : ∀ v ∈ ec x, v.oneCell' = true := by
  intro u hu
  simp only [ec, List.mem_cons, List.not_mem_nil, or_false] at hu
  rcases hu with rfl | rfl | rfl <;> rfl
/-! ### worlds that are grown: draws, and new blocks -/
def Grew (w w' : World) : Prop := ∃ q os, w' = Sort.grow (w.drewN q) os
theorem Grew.refl (w : World) : Grew w w := ⟨0, #[], by rw [Sort.grow_empty]; rfl⟩
theorem Grew.alloc {w w' : World} (h : Grew w w') (o : Obj) : Grew w (w'.alloc o) := by
  obtain ⟨q, os, rfl⟩ := h
  exact ⟨q, os ++ #[o], by rw [Sort.alloc_eq_grow, Sort.grow_grow]⟩
theorem Grew.drewN {w w' : World} (h : Grew w w') (n : Nat) : Grew w (w'.drewN n) := by
  obtain ⟨q, os, rfl⟩ := h
  exact ⟨q + n, os, by rw [← World.drewN_drewN]; rfl⟩
theorem Grew.drew {w w' : World} (h : Grew w w') : Grew w w'.drew := h.drewN 1
theorem Grew.below {w w' : World} (h : Grew w w') : Below w.heap.size w w' := by
  obtain ⟨q, os, rfl⟩ := h
  refine ⟨rfl, rfl, rfl, by simp [Sort.grow], fun i hi => ?_⟩
  show (w.heap ++ os)[i]? = w.heap[i]?
  rw [Array.getElem?_append_left hi]
set_option maxRecDepth 100000 in
set_option maxHeartbeats 1600000 in
theorem cmp_grew (x y : Ent) (w : World) : Calls Tryz.prog 101 #[.agg (ec x).toArray, .agg (ec y).toArray] w fun e w' => e = .returned (.int .i64 (cl x y)) ∧ Grew w w' := by
  obtain ⟨x1, x2, x3⟩ := x
  obtain ⟨y1, y2, y3⟩ := y
  show Calls Tryz.prog 101 #[.agg #[.int .i64 x1, .int .i64 x2, .int .u64 x3], .agg #[.int .i64 y1, .int .i64 y2, .int .u64 y3]] w _
  have HE : Hid (orI (cmpI x1 y1) (cmpI x3 y3) = cl (x1, x2, x3) (y1, y2, y3)) := Lib.hid rfl
  have HC : Hid (∀ W, Calls Tryz.prog 130 #[.int .i64 x1, .int .i64 y1] W fun e w' => e = .returned (.int .i64 (cmpI x1 y1)) ∧ W = w') := Lib.hid fun W => cmp64_any _ _ W
  have HU : Hid (∀ W, Calls Tryz.prog 119 #[.int .u64 x3, .int .u64 y3] W fun e w' => e = .returned (.int .i64 (cmpI x3 y3)) ∧ W = w') := Lib.hid fun W => cmpU_any _ _ W
  have HO : Hid (∀ (a b : Int) (t : TypeId) (V : World) (g : Nat), g = V.heap.size → Calls Tryz.prog 138 #[.slice (some ⟨g, 0, none⟩) 2 2] (V.alloc (.cells #[.int .i64 a, .int .i64 b] t)).drew fun e w' => e = .returned (.int .i64 (orI a b)) ∧ (V.alloc (.cells #[.int .i64 a, .int .i64 b] t)).drew = w') := Lib.hid fun a b t V g hg => by
    subst hg
    exact or_any a b V.heap.size _ ((Blk.new V t #[.int .i64 a, .int .i64 b]).cell 0) ((Blk.new V t #[.int .i64 a, .int .i64 b]).cell 1)
  generalize cmpI x1 y1 = r at HE HC
  generalize cmpI x3 y3 = s at HE HU
  go_enter Tryz.func101, Tryz.ntmps101
  go_wp2_with (fail)
  obtain ⟨V, hV⟩ : ∃ V, V = (w.alloc (.cells #[.int .i64 x1, .int .i64 x2, .int .u64 x3] 126)).alloc (.cells #[.int .i64 y1, .int .i64 y2, .int .u64 y3] 126) := ⟨_, rfl⟩
  have hs0 : V.heap.size = w.heap.size + 2 := by rw [hV]; simp
  have hg0 : Grew w V := by rw [hV]; exact ((Grew.refl w).alloc _).alloc _
  have hb1 : Blk V w.heap.size 126 #[.int .i64 x1, .int .i64 x2, .int .u64 x3] := by rw [hV]; exact (Blk.new w _ _).alloc _
  have hb2 : Blk V (w.heap.size + 1) 126 #[.int .i64 y1, .int .i64 y2, .int .u64 y3] := by
    rw [hV]
    have h := Blk.new (w.alloc (.cells #[.int .i64 x1, .int .i64 x2, .int .u64 x3] 126)) 126 #[.int .i64 y1, .int .i64 y2, .int .u64 y3]
    rwa [show (w.alloc (.cells #[.int .i64 x1, .int .i64 x2, .int .u64 x3] 126)).heap.size = w.heap.size + 1 by simp] at h
  rw [← hV]
  clear hV
  have HS : Hid (∀ W, Below (w.heap.size + 2) V W → W.cell? ⟨w.heap.size, 0, none⟩ = some (.int .i64 x1) ∧ W.cell? ⟨w.heap.size, 2, none⟩ = some (.int .u64 x3) ∧ W.cell? ⟨w.heap.size + 1, 0, none⟩ = some (.int .i64 y1) ∧ W.cell? ⟨w.heap.size + 1, 2, none⟩ = some (.int .u64 y3)) := Lib.hid fun W hW =>
    ⟨(hb1.below hW (by omega)).cell 0, (hb1.below hW (by omega)).cell 2, (hb2.below hW (by omega)).cell 0, (hb2.below hW (by omega)).cell 2⟩
  have HZ : Hid (w.heap.size + 2 ≤ V.heap.size) := Lib.hid (by omega)
  have HG := Lib.hid hg0
  clear hb1 hb2 hg0 hs0
  go_region_held3 (fun W => W.cell? ⟨w.heap.size, 0, none⟩ = some (.int .i64 x1) ∧ W.cell? ⟨w.heap.size, 2, none⟩ = some (.int .u64 x3) ∧ W.cell? ⟨w.heap.size + 1, 0, none⟩ = some (.int .i64 y1) ∧ W.cell? ⟨w.heap.size + 1, 2, none⟩ = some (.int .u64 y3))
    ((refine HS.out _ ?_; repeat' (first | (with_reducible exact Below.refl _ _) | (with_reducible refine Below.drew ?_) | (with_reducible refine Below.alloc ?_ HZ.out _))))
    (first
    | (go_at_call 130; (with_reducible refine (HC.out _).mono ?_); rintro e w' ⟨rfl, rfl⟩)
    | (go_at_call 119; (with_reducible refine (HU.out _).mono ?_); rintro e w' ⟨rfl, rfl⟩)
    | (go_at_call 138; (refine (HO.out _ _ _ _ _ (by simp)).mono ?_); rintro e w' ⟨rfl, rfl⟩))
  go_wp2_with (fail)
  go_ret
  exact ⟨by rw [← HE.out]; rfl, by repeat' (first | (with_reducible exact HG.out) | (with_reducible refine Grew.drew ?_) | (with_reducible refine Grew.alloc ?_ _))⟩
theorem cmp_enters : Enters Tryz.prog 101 := enters_of Tryz.func101 (by kernel_rfl) rfl
theorem cmp_lays (blk off size : Nat) (w : World) : CmpLays Tryz.prog 101 #[] ec 3 cl blk off size w := fun _ _ _ _ x y => by
  have h := cmp_grew x y (sortWorldK ec 3 w blk off ‹_› ‹_› ‹_›)
  exact h
/-- in order, and the same ones -/
def Ord (l l' : List Ent) : Prop := l'.Perm l ∧ l'.Pairwise fun x y => ¬ Lt y x
theorem ord_of {l : List Ent} {R : Array Ent} (hp : PermIn 0 l.toArray.size l.toArray R) (hs : SortedIn (ltOf cl) 0 l.toArray.size R) : Ord l R.toList := by
  constructor
  · have h := hp.2.2
    have e1 : R.extract 0 l.toArray.size = R := by rw [← hp.1]; simp
    have e2 : l.toArray.extract 0 l.toArray.size = l.toArray := by simp
    rw [e1, e2] at h
    exact h
  · rw [List.pairwise_iff_getElem]
    intro i j hi hj hij
    have hi2 : i < R.size := by simpa using hi
    have hj2 : j < R.size := by simpa using hj
    have h := hs i j (Nat.zero_le _) hij (by rw [← hp.1]; exact hj2)
    rw [ltOf_cl'] at h
    rw [getElem!_pos R i hi2, getElem!_pos R j hj2] at h
    simpa using h
set_option maxHeartbeats 1000000 in
theorem sortFunc_any (A : Option Addr) (l : List Ent) (c base : Nat) (w : World) (hm : l.length * 24 ≤ 140737488355328) (ho : w.ownsRow base 126 3 (.slice A l.length c) l.length (l.flatMap ec)) :
    Calls Tryz.prog 100 #[.slice A l.length c, .func (.func 101) #[] #[]] w fun e w' => e = .returned (.tuple #[]) ∧ ∃ l', Ord l l' ∧ Sl w' w'.heap.size A (l'.flatMap ec) ∧ ∀ B w0, Below B w0 w → B ≤ base → B ≤ w.heap.size → Below B w0 w' := by
  rcases Nat.eq_zero_or_pos l.length with h0 | h0
  · obtain rfl := List.eq_nil_of_length_eq_zero h0
    have h := AnyF.slices_SortFunc_none Tryz.sortEnt A c (.func (.func 101) #[] #[]) w
    exact h.mono fun e w' ⟨he, hw⟩ => ⟨he, [], ⟨List.Perm.refl _, List.Pairwise.nil⟩, Sl.nil, fun B w0 hb _ _ => hw ▸ hb⟩
  · obtain ⟨g, c', hv', hg1, hg2, hc'⟩ := own_form ho h0
    injection hv' with e1 e2 e3
    subst e1 e3
    have hF : FRow ec 3 126 w base g c l.toArray := by
      unfold FRow
      exact ho
    have hcon := AnyQ.slices_SortFunc Tryz.sortEnt 3 Tryz.isAgg126 Tryz.sizeOf126 ec ec_len ec_one cl swo 101 #[] g 0 c l.toArray w cmp_enters (cmp_lays g 0 _ w) (holdsK_of_own ec_len hF) hg2 (by simp; omega)
    refine hcon.mono ?_
    rintro e w' ⟨he, d', n, os, hp, hs, rfl⟩
    have hd := ord_of hp hs
    have hH := holdsK_sortWorldK_c ec 3 w g 0 l.toArray d' n os (holdsK_of_own ec_len hF) hg2 hp.1
    refine ⟨he, d'.toList, hd, ?_, fun B w0 hb hB1 hB2 => below_sortK hb (by omega) hB2⟩
    exact Sl.of_holdsK ec_len hH (Nat.lt_of_lt_of_le hg2 (size_sortWorldK_c ec 3 w g 0 n d' os))
end Go.Proofs.YtgbjpobgjmkjgaaGreat.ens
