/-
  The contract of Heap.Pop at entries.
-/
import Derived.Test.YtjahgiplaogmlaaFPush
namespace Go.Proofs.Ytjahgiplaogmlaa.fro
open Go.RowKit law bytes only flat heapM Go.Sort Go.Shelf
set_option linter.unusedVariables false

set_option maxRecDepth 100000 in
set_option maxHeartbeats 1600000 in
theorem pop_ent_empty {w : World} {base hb : Nat} {v : Value} {K : Nat} {d : Array Ent} (h : EHp w base hb v K d) (h0 : d.size = 0) : Calls Try.prog 22 #[.pointer (some ⟨hb, 0, none⟩)] w fun e w' => e = .returned (.tuple #[tE (0, 0, 0), .bool false]) ∧ Below w.heap.size w w' := by
  have hb1 : Below w.heap.size w (w.alloc (.cells #[.int .i64 0, .int .i64 0, .int .u64 0] 44)) := (Below.refl _ _).alloc (Nat.le_refl _) _
  have HT := top_ent (h.below hb1 (Nat.le_refl _))
  unfold topE tE at HT
  unfold tE
  rw [if_pos h0] at HT
  have HT2 := Lib.hid HT
  clear HT h
  go_enter Try.func22, Try.ntmps22
  go_wp2_with (fail)
  refine HT2.out.mono ?_
  rintro e w1 ⟨rfl, hb2⟩
  have hz : w.heap.size < w1.heap.size := by have := hb2.size; simp at this; omega
  have hbl0 : Blk w1 w.heap.size 44 #[.int .i64 0, .int .i64 0, .int .u64 0] := (Blk.new w _ _).below hb2 (by simp)
  have hbl : Blk (w1.alloc (.cells #[.int .i64 0, .int .i64 0, .int .u64 0] 44)) w.heap.size 44 #[.int .i64 0, .int .i64 0, .int .u64 0] := hbl0.alloc _
  have hbm : Blk ((w1.setCell ⟨w.heap.size, 0, none⟩ (.int .i64 0)).alloc (.cells #[.int .i64 0, .int .i64 0, .int .u64 0] 44)) w.heap.size 44 #[.int .i64 0, .int .i64 0, .int .u64 0] := (hbl0.set_ 0 _).alloc _
  have hbn : Blk ((((w1.setCell ⟨w.heap.size, 0, none⟩ (.int .i64 0)).setCell ⟨w.heap.size, 1, none⟩ (.int .i64 0)).setCell ⟨w.heap.size, 2, none⟩ (.int .u64 0)).alloc (.cells #[.int .i64 0, .int .i64 0, .int .u64 0] 44)) w.heap.size 44 #[.int .i64 0, .int .i64 0, .int .u64 0] := (((hbl0.set_ 0 _).set_ 1 _).set_ 2 _).alloc _
  have e0 : (w1.alloc (.cells #[.int .i64 0, .int .i64 0, .int .u64 0] 44)).cell? ⟨w.heap.size, 0, none⟩ = some (.int .i64 0) := hbl.cell 0
  have e1 : ((w1.setCell ⟨w.heap.size, 0, none⟩ (.int .i64 0)).alloc (.cells #[.int .i64 0, .int .i64 0, .int .u64 0] 44)).cell? ⟨w.heap.size, 1, none⟩ = some (.int .i64 0) := hbm.cell 1
  have hbo : Blk (((w1.setCell ⟨w.heap.size, 0, none⟩ (.int .i64 0)).setCell ⟨w.heap.size, 1, none⟩ (.int .i64 0)).alloc (.cells #[.int .i64 0, .int .i64 0, .int .u64 0] 44)) w.heap.size 44 #[.int .i64 0, .int .i64 0, .int .u64 0] := ((hbl0.set_ 0 _).set_ 1 _).alloc _
  have e5 : (((w1.setCell ⟨w.heap.size, 0, none⟩ (.int .i64 0)).setCell ⟨w.heap.size, 1, none⟩ (.int .i64 0)).alloc (.cells #[.int .i64 0, .int .i64 0, .int .u64 0] 44)).cell? ⟨w.heap.size, 2, none⟩ = some (.int .u64 0) := hbo.cell 2
  have e6 : (((w1.setCell ⟨w.heap.size, 0, none⟩ (.int .i64 0)).setCell ⟨w.heap.size, 1, none⟩ (.int .i64 0)).alloc (.cells #[.int .i64 0, .int .i64 0, .int .u64 0] 44)).frozen? ⟨w.heap.size, 2, none⟩ = false := hbo.frozen 2
  have e7 : (w1.alloc (.cells #[.int .i64 0, .int .i64 0, .int .u64 0] 44)).frozen? ⟨w.heap.size, 2, none⟩ = false := hbl.frozen 2
  have e2 : (w1.alloc (.cells #[.int .i64 0, .int .i64 0, .int .u64 0] 44)).frozen? ⟨w.heap.size, 0, none⟩ = false := hbl.frozen 0
  have e3 : ((w1.setCell ⟨w.heap.size, 0, none⟩ (.int .i64 0)).alloc (.cells #[.int .i64 0, .int .i64 0, .int .u64 0] 44)).frozen? ⟨w.heap.size, 1, none⟩ = false := hbm.frozen 1
  have e4 : (w1.alloc (.cells #[.int .i64 0, .int .i64 0, .int .u64 0] 44)).frozen? ⟨w.heap.size, 1, none⟩ = false := hbl.frozen 1
  have hB : Below w.heap.size w ((((w1.setCell ⟨w.heap.size, 0, none⟩ (.int .i64 0)).setCell ⟨w.heap.size, 1, none⟩ (.int .i64 0)).setCell ⟨w.heap.size, 2, none⟩ (.int .u64 0)).alloc (.cells #[.int .i64 0, .int .i64 0, .int .u64 0] 44)) := ((((hb1.trans (hb2.mono (by simp))).setCell (p := ⟨w.heap.size, 0, none⟩) (Nat.le_refl _) _).setCell (p := ⟨w.heap.size, 1, none⟩) (Nat.le_refl _) _).setCell (p := ⟨w.heap.size, 2, none⟩) (Nat.le_refl _) _).alloc (by simp; omega) _
  have HB := Lib.hid hB
  have HL := Lib.hid hbn
  clear hB hbn hbm hbo hbl hbl0 hb2 hb1
  go_wp2_with (fail)
  obtain ⟨V, hV⟩ : ∃ V, V = ((((w1.setCell ⟨w.heap.size, 0, none⟩ (.int .i64 0)).setCell ⟨w.heap.size, 1, none⟩ (.int .i64 0)).setCell ⟨w.heap.size, 2, none⟩ (.int .u64 0)).alloc (.cells #[.int .i64 0, .int .i64 0, .int .u64 0] 44)) := ⟨_, rfl⟩
  rw [← hV] at HB HL
  rw [← hV]
  clear hV
  have z0 := HL.out.cell 0
  have z1 := HL.out.cell 1
  have z2 := HL.out.cell 2
  simp only [List.getElem?_toArray, List.getElem?_cons_succ, List.getElem?_cons_zero] at z0 z1 z2
  refine bodyPost_ret (v := .tuple #[.agg #[.int .i64 0, .int .i64 0, .int .u64 0], .bool false]) (by simp [results, Try.results22, go_sem, z0, z1, z2]) rfl ?_
  exact ⟨rfl, HB.out⟩
theorem ent_zero : ∀ w : World, (zeroValue 44).run Try.prog w = .ok (.agg #[.int .i64 0, .int .i64 0, .int .u64 0]) w := by
  intro w
  have h : (Try.prog.info? 44).map (fun i => (i.zero, i.size, i.bytes)) = some (some (.agg #[.int .i64 0, .int .i64 0, .int .u64 0]), 3, 24) := by kernel_rfl
  obtain ⟨i, hi, hz, _⟩ := info_parts h
  simp [zeroValue, typeInfo, hi, hz]
theorem ERow.alloc_ {w : World} {base g c : Nat} {d : Array Ent} (h : ERow w base g c d) (o : Obj) : ERow (w.alloc o) base g c d := World.ownsRow.alloc h o
theorem ec_cut (d : Array Ent) (x : Ent) (h0 : 0 < d.size) : (((d.setIfInBounds 0 d[d.size - 1]!).setIfInBounds (d.size - 1) x).toList.flatMap ec).take ((d.size - 1) * 3) = (cut d).toList.flatMap ec := by
  rw [flat_take ec_len, Array.toList_setIfInBounds, List.take_set, List.set_eq_of_length_le (by simp)]
  unfold cut
  rw [Array.toList_pop, List.dropLast_eq_take]
  simp
theorem ERow.cut {w : World} {base g c : Nat} {d : Array Ent} {x : Ent} (h : ERow w base g c ((d.setIfInBounds 0 d[d.size - 1]!).setIfInBounds (d.size - 1) x)) (h0 : 0 < d.size) : ERow w base g c (heapM.cut d) := by
  have h2 : w.ownsRow base 44 3 (.slice (some ⟨g, 0, none⟩) d.size c) d.size (((d.setIfInBounds 0 d[d.size - 1]!).setIfInBounds (d.size - 1) x).toList.flatMap ec) := by
    have := h
    unfold ERow FRow at this
    simpa using this
  have := own_takeK h2 (d.size - 1) (by omega)
  rw [ec_cut d x h0] at this
  unfold ERow FRow
  rw [cut_size]
  exact this
/-- behind Top: the first one stands in a new block; the last one is put in its place, the last place cleared, the row cut -/
theorem pop_worlds {w1 : World} {base hb g c last : Nat} {K : Nat} {d : Array Ent} {x y : Ent} (hs : Blk w1 hb 59 #[.func (.func K) #[] #[], .slice (some ⟨g, 0, none⟩) d.size c]) (hr : ERow w1 base g c d) (hne : hb ≠ g) (h0 : 0 < d.size) (hl : last = d.size - 1) (hy : d[last]! = y) :
    (Builtin.clear_ #[22] 0 #[.slice (some ⟨g, last * 3, none⟩) (d.size - last) (c - last)]).run Try.prog ((((w1.setCell ⟨g, 0, none⟩ (.int .i64 y.1)).setCell ⟨g, 1, none⟩ (.int .i64 y.2.1)).setCell ⟨g, 2, none⟩ (.int .u64 y.2.2)).alloc (.cells #[.int .i64 x.1, .int .i64 x.2.1, .int .u64 x.2.2] 44)) = .ok (.tuple #[]) (((((((w1.setCell ⟨g, 0, none⟩ (.int .i64 y.1)).setCell ⟨g, 1, none⟩ (.int .i64 y.2.1)).setCell ⟨g, 2, none⟩ (.int .u64 y.2.2)).setCell ⟨g, last * 3, none⟩ (.int .i64 0)).setCell ⟨g, last * 3 + 1, none⟩ (.int .i64 0)).setCell ⟨g, last * 3 + 2, none⟩ (.int .u64 0)).alloc (.cells #[.int .i64 x.1, .int .i64 x.2.1, .int .u64 x.2.2] 44)) ∧
    ((w1.setCell ⟨g, 0, none⟩ (.int .i64 y.1)).alloc (.cells #[.int .i64 x.1, .int .i64 x.2.1, .int .u64 x.2.2] 44)).cell? ⟨g, 1, none⟩ = some (.int .i64 d[0]!.2.1) ∧ (∀ i, ((w1.setCell ⟨g, 0, none⟩ (.int .i64 y.1)).alloc (.cells #[.int .i64 x.1, .int .i64 x.2.1, .int .u64 x.2.2] 44)).frozen? ⟨g, i, none⟩ = false) ∧ (((w1.setCell ⟨g, 0, none⟩ (.int .i64 y.1)).setCell ⟨g, 1, none⟩ (.int .i64 y.2.1)).alloc (.cells #[.int .i64 x.1, .int .i64 x.2.1, .int .u64 x.2.2] 44)).cell? ⟨g, 2, none⟩ = some (.int .u64 d[0]!.2.2) ∧ (∀ i, (((w1.setCell ⟨g, 0, none⟩ (.int .i64 y.1)).setCell ⟨g, 1, none⟩ (.int .i64 y.2.1)).alloc (.cells #[.int .i64 x.1, .int .i64 x.2.1, .int .u64 x.2.2] 44)).frozen? ⟨g, i, none⟩ = false) ∧
    (((((((w1.setCell ⟨g, 0, none⟩ (.int .i64 y.1)).setCell ⟨g, 1, none⟩ (.int .i64 y.2.1)).setCell ⟨g, 2, none⟩ (.int .u64 y.2.2)).setCell ⟨g, last * 3, none⟩ (.int .i64 0)).setCell ⟨g, last * 3 + 1, none⟩ (.int .i64 0)).setCell ⟨g, last * 3 + 2, none⟩ (.int .u64 0)).alloc (.cells #[.int .i64 x.1, .int .i64 x.2.1, .int .u64 x.2.2] 44)).cell? ⟨hb, 1, none⟩ = some (.slice (some ⟨g, 0, none⟩) d.size c) ∧ (((((((w1.setCell ⟨g, 0, none⟩ (.int .i64 y.1)).setCell ⟨g, 1, none⟩ (.int .i64 y.2.1)).setCell ⟨g, 2, none⟩ (.int .u64 y.2.2)).setCell ⟨g, last * 3, none⟩ (.int .i64 0)).setCell ⟨g, last * 3 + 1, none⟩ (.int .i64 0)).setCell ⟨g, last * 3 + 2, none⟩ (.int .u64 0)).alloc (.cells #[.int .i64 x.1, .int .i64 x.2.1, .int .u64 x.2.2] 44)).frozen? ⟨hb, 1, none⟩ = false ∧
    Blk ((((((((w1.setCell ⟨g, 0, none⟩ (.int .i64 y.1)).setCell ⟨g, 1, none⟩ (.int .i64 y.2.1)).setCell ⟨g, 2, none⟩ (.int .u64 y.2.2)).setCell ⟨g, last * 3, none⟩ (.int .i64 0)).setCell ⟨g, last * 3 + 1, none⟩ (.int .i64 0)).setCell ⟨g, last * 3 + 2, none⟩ (.int .u64 0)).setCell ⟨hb, 1, none⟩ (.slice (some ⟨g, 0, none⟩) last c)).alloc (.cells #[.int .i64 x.1, .int .i64 x.2.1, .int .u64 x.2.2] 44)) hb 59 #[.func (.func K) #[] #[], .slice (some ⟨g, 0, none⟩) last c] ∧ ERow ((((((((w1.setCell ⟨g, 0, none⟩ (.int .i64 y.1)).setCell ⟨g, 1, none⟩ (.int .i64 y.2.1)).setCell ⟨g, 2, none⟩ (.int .u64 y.2.2)).setCell ⟨g, last * 3, none⟩ (.int .i64 0)).setCell ⟨g, last * 3 + 1, none⟩ (.int .i64 0)).setCell ⟨g, last * 3 + 2, none⟩ (.int .u64 0)).setCell ⟨hb, 1, none⟩ (.slice (some ⟨g, 0, none⟩) last c)).alloc (.cells #[.int .i64 x.1, .int .i64 x.2.1, .int .u64 x.2.2] 44)) base g c (heapM.cut d) ∧
    Only (Mine hb (.slice (some ⟨g, 0, none⟩) d.size c)) w1 ((((((((w1.setCell ⟨g, 0, none⟩ (.int .i64 y.1)).setCell ⟨g, 1, none⟩ (.int .i64 y.2.1)).setCell ⟨g, 2, none⟩ (.int .u64 y.2.2)).setCell ⟨g, last * 3, none⟩ (.int .i64 0)).setCell ⟨g, last * 3 + 1, none⟩ (.int .i64 0)).setCell ⟨g, last * 3 + 2, none⟩ (.int .u64 0)).setCell ⟨hb, 1, none⟩ (.slice (some ⟨g, 0, none⟩) last c)).alloc (.cells #[.int .i64 x.1, .int .i64 x.2.1, .int .u64 x.2.2] 44)) ∧ Blk ((((((((w1.setCell ⟨g, 0, none⟩ (.int .i64 y.1)).setCell ⟨g, 1, none⟩ (.int .i64 y.2.1)).setCell ⟨g, 2, none⟩ (.int .u64 y.2.2)).setCell ⟨g, last * 3, none⟩ (.int .i64 0)).setCell ⟨g, last * 3 + 1, none⟩ (.int .i64 0)).setCell ⟨g, last * 3 + 2, none⟩ (.int .u64 0)).setCell ⟨hb, 1, none⟩ (.slice (some ⟨g, 0, none⟩) last c)).alloc (.cells #[.int .i64 x.1, .int .i64 x.2.1, .int .u64 x.2.2] 44)) w1.heap.size 44 #[.int .i64 x.1, .int .i64 x.2.1, .int .u64 x.2.2] := by
  have hgl := hr.lt
  have hhl := hs.lt
  have e2 : d.size - last = 1 := by omega
  have r1 : ERow (((w1.setCell ⟨g, 0, none⟩ (.int .i64 y.1)).setCell ⟨g, 1, none⟩ (.int .i64 y.2.1)).setCell ⟨g, 2, none⟩ (.int .u64 y.2.2)) base g c (d.setIfInBounds 0 y) := by
    have := hr.set 0 y h0
    simpa using this
  have r2 : ERow ((((((w1.setCell ⟨g, 0, none⟩ (.int .i64 y.1)).setCell ⟨g, 1, none⟩ (.int .i64 y.2.1)).setCell ⟨g, 2, none⟩ (.int .u64 y.2.2)).setCell ⟨g, last * 3, none⟩ (.int .i64 0)).setCell ⟨g, last * 3 + 1, none⟩ (.int .i64 0)).setCell ⟨g, last * 3 + 2, none⟩ (.int .u64 0)) base g c ((d.setIfInBounds 0 y).setIfInBounds last (0, 0, 0)) := r1.set last (0, 0, 0) (by simp; omega)
  have o1 : Only (Mine hb (.slice (some ⟨g, 0, none⟩) d.size c)) w1 ((((((w1.setCell ⟨g, 0, none⟩ (.int .i64 y.1)).setCell ⟨g, 1, none⟩ (.int .i64 y.2.1)).setCell ⟨g, 2, none⟩ (.int .u64 y.2.2)).setCell ⟨g, last * 3, none⟩ (.int .i64 0)).setCell ⟨g, last * 3 + 1, none⟩ (.int .i64 0)).setCell ⟨g, last * 3 + 2, none⟩ (.int .u64 0)) := Only.setCell (p := ⟨g, last * 3 + 2, none⟩) (Only.setCell (p := ⟨g, last * 3 + 1, none⟩) (Only.setCell (p := ⟨g, last * 3, none⟩) (Only.setCell (p := ⟨g, 2, none⟩) (Only.setCell (p := ⟨g, 1, none⟩) (Only.setCell (p := ⟨g, 0, none⟩) (Only.refl _ _) (.inl (.inr rfl)) _) (.inl (.inr rfl)) _) (.inl (.inr rfl)) _) (.inl (.inr rfl)) _) (.inl (.inr rfl)) _) (.inl (.inr rfl)) _
  have og : Only (· = g) w1 ((((((w1.setCell ⟨g, 0, none⟩ (.int .i64 y.1)).setCell ⟨g, 1, none⟩ (.int .i64 y.2.1)).setCell ⟨g, 2, none⟩ (.int .u64 y.2.2)).setCell ⟨g, last * 3, none⟩ (.int .i64 0)).setCell ⟨g, last * 3 + 1, none⟩ (.int .i64 0)).setCell ⟨g, last * 3 + 2, none⟩ (.int .u64 0)) := Only.setCell (S := (· = g)) (p := ⟨g, last * 3 + 2, none⟩) (Only.setCell (S := (· = g)) (p := ⟨g, last * 3 + 1, none⟩) (Only.setCell (S := (· = g)) (p := ⟨g, last * 3, none⟩) (Only.setCell (S := (· = g)) (p := ⟨g, 2, none⟩) (Only.setCell (S := (· = g)) (p := ⟨g, 1, none⟩) (Only.setCell (S := (· = g)) (p := ⟨g, 0, none⟩) (Only.refl _ _) (.inl rfl) _) (.inl rfl) _) (.inl rfl) _) (.inl rfl) _) (.inl rfl) _) (.inl rfl) _
  have s2 := Blk.only hs og hne
  have s3 := s2.set_ 1 (.slice (some ⟨g, 0, none⟩) last c)
  have hcm : ((((((w1.setCell ⟨g, 0, none⟩ (.int .i64 y.1)).setCell ⟨g, 1, none⟩ (.int .i64 y.2.1)).setCell ⟨g, 2, none⟩ (.int .u64 y.2.2)).setCell ⟨g, last * 3, none⟩ (.int .i64 0)).setCell ⟨g, last * 3 + 1, none⟩ (.int .i64 0)).setCell ⟨g, last * 3 + 2, none⟩ (.int .u64 0)).alloc (.cells #[.int .i64 x.1, .int .i64 x.2.1, .int .u64 x.2.2] 44) = ((((w1.setCell ⟨g, 0, none⟩ (.int .i64 y.1)).setCell ⟨g, 1, none⟩ (.int .i64 y.2.1)).setCell ⟨g, 2, none⟩ (.int .u64 y.2.2)).alloc (.cells #[.int .i64 x.1, .int .i64 x.2.1, .int .u64 x.2.2] 44)).setCells g (last * 3) [.int .i64 0, .int .i64 0, .int .u64 0] := by
    show _ = ((((((w1.setCell ⟨g, 0, none⟩ (.int .i64 y.1)).setCell ⟨g, 1, none⟩ (.int .i64 y.2.1)).setCell ⟨g, 2, none⟩ (.int .u64 y.2.2)).alloc (.cells #[.int .i64 x.1, .int .i64 x.2.1, .int .u64 x.2.2] 44)).setCell ⟨g, last * 3, none⟩ _).setCell ⟨g, last * 3 + 1, none⟩ _).setCell ⟨g, last * 3 + 2, none⟩ _
    rw [World.setCell_alloc_past _ _ _ _ (by simp [World.setCell]; exact hgl), World.setCell_alloc_past _ _ _ _ (by simp [World.setCell]; exact hgl), World.setCell_alloc_past _ _ _ _ (by simp [World.setCell]; exact hgl)]
  refine ⟨?_, ?_, ?_, ?_, ?_, ?_, ?_, ?_, ?_, ?_, ?_⟩
  · rw [e2, hcm]
    exact run_clear_k (P := Try.prog) ((((w1.setCell ⟨g, 0, none⟩ (.int .i64 y.1)).setCell ⟨g, 1, none⟩ (.int .i64 y.2.1)).setCell ⟨g, 2, none⟩ (.int .u64 y.2.2)).alloc (.cells #[.int .i64 x.1, .int .i64 x.2.1, .int .u64 x.2.2] 44)) 22 44 0 (.agg #[.int .i64 0, .int .i64 0, .int .u64 0]) Try.underlying22 ent_zero (by simp [Value.cells, Value.oneCell']) g (last * 3) (c - last)
      (fun j hj => by
        have hj2 : j < 3 := hj
        have := FRow.cell (r1.alloc_ (.cells #[.int .i64 x.1, .int .i64 x.2.1, .int .u64 x.2.2] 44)) ec_len last j (by simp; omega) hj2
        rw [this]
        simp [ec, hj2]) (fun j hj => (r1.alloc_ (.cells #[.int .i64 x.1, .int .i64 x.2.1, .int .u64 x.2.2] 44)).frozen _)
  · have b := hr.c2 0 h0
    simp only [Nat.zero_mul, Nat.zero_add] at b
    rw [World.cell?_alloc_lt _ _ _ (by simp [World.setCell]; exact hgl), World.cell?_setCell_other _ _ _ _ (by simp)]
    exact b
  · intro i
    have := hr.frozen i
    rw [World.frozen?_alloc_past _ _ _ (by simp [World.setCell]; exact hgl), World.frozen?_setCell]
    exact this
  · have b := hr.c3 0 h0
    simp only [Nat.zero_mul, Nat.zero_add] at b
    rw [World.cell?_alloc_lt _ _ _ (by simp [World.setCell]; exact hgl), World.cell?_setCell_other _ _ _ _ (by simp), World.cell?_setCell_other _ _ _ _ (by simp)]
    exact b
  · intro i
    have := hr.frozen i
    rw [World.frozen?_alloc_past _ _ _ (by simp [World.setCell]; exact hgl), World.frozen?_setCell, World.frozen?_setCell]
    exact this
  · exact (s2.alloc (.cells #[.int .i64 x.1, .int .i64 x.2.1, .int .u64 x.2.2] 44)).cell 1
  · exact (s2.alloc (.cells #[.int .i64 x.1, .int .i64 x.2.1, .int .u64 x.2.2] 44)).frozen 1
  · exact s3.alloc _
  · refine ERow.alloc_ (ERow.only (S := fun i => i = hb) ?_ (Only.setCell (S := fun i => i = hb) (p := ⟨hb, 1, none⟩) (Only.refl _ _) (.inl rfl) _) (fun e => hne e.symm)) _
    have r3 := r2
    rw [← hy, hl] at r3
    have := ERow.cut (x := (0, 0, 0)) r3 h0
    rw [← hl, hy] at this
    exact this
  · exact (Only.setCell (p := ⟨hb, 1, none⟩) o1 (.inl (.inl rfl)) _).alloc _
  · have := Blk.new (((((((w1.setCell ⟨g, 0, none⟩ (.int .i64 y.1)).setCell ⟨g, 1, none⟩ (.int .i64 y.2.1)).setCell ⟨g, 2, none⟩ (.int .u64 y.2.2)).setCell ⟨g, last * 3, none⟩ (.int .i64 0)).setCell ⟨g, last * 3 + 1, none⟩ (.int .i64 0)).setCell ⟨g, last * 3 + 2, none⟩ (.int .u64 0)).setCell ⟨hb, 1, none⟩ (.slice (some ⟨g, 0, none⟩) last c)) 44 #[.int .i64 x.1, .int .i64 x.2.1, .int .u64 x.2.2]
    rwa [show (((((((w1.setCell ⟨g, 0, none⟩ (.int .i64 y.1)).setCell ⟨g, 1, none⟩ (.int .i64 y.2.1)).setCell ⟨g, 2, none⟩ (.int .u64 y.2.2)).setCell ⟨g, last * 3, none⟩ (.int .i64 0)).setCell ⟨g, last * 3 + 1, none⟩ (.int .i64 0)).setCell ⟨g, last * 3 + 2, none⟩ (.int .u64 0)).setCell ⟨hb, 1, none⟩ (.slice (some ⟨g, 0, none⟩) last c)).heap.size = w1.heap.size by simp] at this
set_option maxRecDepth 100000 in
set_option maxHeartbeats 800000 in
theorem pop_ent {base hb : Nat} {v : Value} {K : Nat} {d : Array Ent} (cf : Ent → Ent → Int) (hK : Enters Try.prog K) (hO : Ordr K tE cf) (hS : SWO (lf cf)) (w : World) (h : EHp w base hb v K d) (hH : Heap (lf cf) d) (h0 : 0 < d.size) (hsz : d.size < 2305843009213693952) :
    Calls Try.prog 22 #[.pointer (some ⟨hb, 0, none⟩)] w fun e w' =>
      e = .returned (.tuple #[tE d[0]!, .bool true]) ∧ Only (Mine hb v) w w' ∧ ∃ v' d', EHp w' base hb v' K d' ∧ Heap (lf cf) d' ∧ (d[0]! :: d'.toList).Perm d.toList ∧ v'.ownBlock = v.ownBlock := by
  have hb1 : Below w.heap.size w (w.alloc (.cells #[.int .i64 0, .int .i64 0, .int .u64 0] 44)) := (Below.refl _ _).alloc (Nat.le_refl _) _
  have h1 := h.below hb1 (Nat.le_refl _)
  have HT := top_ent h1
  unfold topE tE at HT
  rw [if_neg (by omega)] at HT
  have HT2 := Lib.hid HT
  have hl1 : Blk (w.alloc (.cells #[.int .i64 0, .int .i64 0, .int .u64 0] 44)) w.heap.size 44 #[.int .i64 0, .int .i64 0, .int .u64 0] := Blk.new _ _ _
  have hhl := h.lt
  obtain ⟨g, c, rfl, hr, hne⟩ := h1.form h0
  obtain ⟨hs, -, -⟩ := h1
  have hgw : g < w.heap.size := (own_lt h.2.1 (g := g) rfl).2
  have hR := fun W v => sink_ent K hb v cf hK hO hS base g c (cut d) W
  rw [cut_size] at hR
  have HR := Lib.hid hR
  have HCD := Lib.hid (cut_down hH)
  have HCP := Lib.hid (cut_perm h0)
  have hcap := own_cap hr
  obtain ⟨last, hlast⟩ : ∃ last, last = d.size - 1 := ⟨_, rfl⟩
  have i0 : IntKind.i64.wrap ((d.size : Int) - 1) = (last : Int) := by rw [IntKind.wrap_i64]; omega
  have i1 : (0 : Int) < (d.size : Int) := by omega
  have i2 : (last : Int) < (d.size : Int) := by omega
  have i3 : (last : Int) ≤ (d.size : Int) := by omega
  have i5 : (last : Int) ≤ (c : Int) := by omega
  have hnc : ¬ c = last := by omega
  have hnd : decide (c = last) = false := decide_eq_false hnc
  obtain ⟨x, hx⟩ : ∃ x, d[0]! = x := ⟨_, rfl⟩
  obtain ⟨y, hy⟩ : ∃ y, d[last]! = y := ⟨_, rfl⟩
  have hpw := fun (w1 : World) (hs : Blk w1 hb 59 #[.func (.func K) #[] #[], .slice (some ⟨g, 0, none⟩) d.size c]) (hr : ERow w1 base g c d) => pop_worlds (w1 := w1) (base := base) (x := x) (y := y) hs hr hne h0 hlast hy
  have hq := fun (w1 : World) (hr : ERow w1 base g c d) => And.intro (hr.c1 0 h0) (And.intro (hr.c1 last (by omega)) (And.intro (hr.c2 last (by omega)) (And.intro (hr.c3 last (by omega)) hr.frozen)))
  rw [hx] at HT2 HCP hpw hq ⊢
  rw [hy] at hq
  rw [← hlast] at HR
  unfold tE
  have HPW := Lib.hid hpw
  have HQ := Lib.hid hq
  have HHS := Lib.hid hs
  have HHR := Lib.hid hr
  have HHL := Lib.hid hl1
  have HB1 := Lib.hid hb1
  have HX := Lib.hid hx
  have HY := Lib.hid hy
  have HLA := Lib.hid hlast
  clear hx hy hlast HT hR hK hO hpw hq hs hr hl1 hb1 h hcap
  go_enter Try.func22, Try.ntmps22
  go_wp2_with (fail)
  refine HT2.out.mono ?_
  rintro e w1 ⟨rfl, hb2⟩
  have hs1 := HHS.out.below hb2 (HHS.out.lt)
  have hr1 := HHR.out.below hb2 (Nat.le_refl _)
  have hg1 : g < w1.heap.size := hr1.lt
  have hh1 : hb < w1.heap.size := hs1.lt
  obtain ⟨k1, k2, k3, kA, kB, k4, k5, k6, k7, k8, k9⟩ := HPW.out w1 hs1 hr1
  obtain ⟨q0, q1, q2, qA, q3⟩ := HQ.out (w1.alloc (.cells #[.int .i64 x.1, .int .i64 x.2.1, .int .u64 x.2.2] 44)) (hr1.alloc_ _)
  have q4 : (w1.alloc (.cells #[.int .i64 x.1, .int .i64 x.2.1, .int .u64 x.2.2] 44)).cell? ⟨hb, 1, none⟩ = some (.slice (some ⟨g, 0, none⟩) d.size c) := (hs1.alloc _).cell 1
  have fa := q3 0
  have fb := q3 1
  have fd := q3 2
  have fc := k3 1
  have fe := k3 2
  have ff := kB 2
  have d1 := k6.cell 1
  simp only [List.getElem?_toArray, List.getElem?_cons_succ, List.getElem?_cons_zero] at d1
  simp only [Nat.zero_mul] at q0
  have hbl1 := HHL.out.below hb2 HHL.out.lt
  have hz : w.heap.size < w1.heap.size := hbl1.lt
  have how1 : Only (Mine hb (.slice (some ⟨g, 0, none⟩) d.size c)) w w1 := (Only.of_below HB1.out (Nat.le_refl _) _).on hb2
  obtain ⟨V, hV⟩ : ∃ V, V = (((((((w1.setCell ⟨g, 0, none⟩ (.int .i64 y.1)).setCell ⟨g, 1, none⟩ (.int .i64 y.2.1)).setCell ⟨g, 2, none⟩ (.int .u64 y.2.2)).setCell ⟨g, last * 3, none⟩ (.int .i64 0)).setCell ⟨g, last * 3 + 1, none⟩ (.int .i64 0)).setCell ⟨g, last * 3 + 2, none⟩ (.int .u64 0)).setCell ⟨hb, 1, none⟩ (.slice (some ⟨g, 0, none⟩) last c)).alloc (.cells #[.int .i64 x.1, .int .i64 x.2.1, .int .u64 x.2.2] 44) := ⟨_, rfl⟩
  have HVV := Lib.hid hV
  rw [← hV] at k6 k7 k8 k9
  clear hV
  have hnw : ¬ Mine hb (.slice (some ⟨g, 0, none⟩) d.size c) w.heap.size := fun e => by
    rcases e with e | e
    · omega
    · simp only [Value.ownBlock, Option.some.injEq] at e; omega
  have hbl2 := Blk.only hbl1 k8 hnw
  have hoV := how1.trans k8 fun i e => .inl e
  have HE : Hid (∀ W, Only (· = g) V W → Only (Mine hb (.slice (some ⟨g, 0, none⟩) d.size c)) w W ∧ Blk W hb 59 #[.func (.func K) #[] #[], .slice (some ⟨g, 0, none⟩) last c] ∧ Blk W w.heap.size 44 #[.int .i64 0, .int .i64 0, .int .u64 0] ∧ Blk W w1.heap.size 44 #[.int .i64 x.1, .int .i64 x.2.1, .int .u64 x.2.2]) := Lib.hid fun W hW =>
    ⟨hoV.trans hW fun i e => .inl (.inr (by rw [e]; rfl)), Blk.only k6 hW hne, Blk.only hbl2 hW (by omega), Blk.only k9 hW (by omega)⟩
  have HR2 := Lib.hid (HR.out _ _ k6 k7 hne HCD.out (by omega))
  clear k3 kB k6 k7 k8 k9 q3 hs1 hr1 hb2 hbl1 how1 hnw hbl2 hoV HR
  go_wp2_with (fail)
  rw [← HVV.out]
  clear k1 k2 kA k4 k5 q0 q1 q2 qA q4 fa fb fc fd fe ff d1 HVV
  refine HR2.out.mono ?_
  rintro e w5 ⟨rfl, ho, d', hd', hp', hH', hr'⟩
  obtain ⟨m1, m2, m3, m4⟩ := HE.out w5 ho
  have z0 := m3.cell 0
  have z1 := m3.cell 1
  have z2 := m3.cell 2
  have y0 := m4.cell 0
  have y1 := m4.cell 1
  have y2 := m4.cell 2
  have f0 := m3.frozen 0
  have f1 := m3.frozen 1
  have f2 := m3.frozen 2
  simp only [List.getElem?_toArray, List.getElem?_cons_succ, List.getElem?_cons_zero] at z0 z1 z2 y0 y1 y2
  have hh5 := m2.lt
  have o6 : Only (Mine hb (.slice (some ⟨g, 0, none⟩) d.size c)) w (((w5.setCell ⟨w.heap.size, 0, none⟩ (.int .i64 x.1)).setCell ⟨w.heap.size, 1, none⟩ (.int .i64 x.2.1)).setCell ⟨w.heap.size, 2, none⟩ (.int .u64 x.2.2)) :=
    Only.setCell (p := ⟨w.heap.size, 2, none⟩) (Only.setCell (p := ⟨w.heap.size, 1, none⟩) (Only.setCell (p := ⟨w.heap.size, 0, none⟩) m1 (.inr (Nat.le_refl _)) _) (.inr (Nat.le_refl _)) _) (.inr (Nat.le_refl _)) _
  have b6 := ((m3.set_ 0 (.int .i64 x.1)).set_ 1 (.int .i64 x.2.1)).set_ 2 (.int .u64 x.2.2)
  have h6 : EHp (((w5.setCell ⟨w.heap.size, 0, none⟩ (.int .i64 x.1)).setCell ⟨w.heap.size, 1, none⟩ (.int .i64 x.2.1)).setCell ⟨w.heap.size, 2, none⟩ (.int .u64 x.2.2)) base hb (.slice (some ⟨g, 0, none⟩) last c) K d' := by
    refine EHp.only (S := (· = w.heap.size)) (w := w5) ⟨m2, by rw [← hd']; exact hr', by simp only [Value.ownBlock]; intro e; exact hne (by injection e with e; exact e.symm)⟩ (Only.setCell (S := (· = w.heap.size)) (p := ⟨w.heap.size, 2, none⟩) (Only.setCell (S := (· = w.heap.size)) (p := ⟨w.heap.size, 1, none⟩) (Only.setCell (S := (· = w.heap.size)) (p := ⟨w.heap.size, 0, none⟩) (Only.refl _ _) (.inl rfl) _) (.inl rfl) _) (.inl rfl) _) fun i e => ?_
    rcases e with e | e
    · omega
    · simp only [Value.ownBlock, Option.some.injEq] at e; omega
  have k3 : (x :: d'.toList).Perm d.toList := (List.Perm.cons x hp').trans HCP.out
  have w0 : (((w5.setCell ⟨w.heap.size, 0, none⟩ (.int .i64 x.1)).setCell ⟨w.heap.size, 1, none⟩ (.int .i64 x.2.1)).setCell ⟨w.heap.size, 2, none⟩ (.int .u64 x.2.2)).cell? ⟨w.heap.size, 0, none⟩ = some (.int .i64 x.1) := b6.cell 0
  have w1' : (((w5.setCell ⟨w.heap.size, 0, none⟩ (.int .i64 x.1)).setCell ⟨w.heap.size, 1, none⟩ (.int .i64 x.2.1)).setCell ⟨w.heap.size, 2, none⟩ (.int .u64 x.2.2)).cell? ⟨w.heap.size, 1, none⟩ = some (.int .i64 x.2.1) := b6.cell 1
  have w2' : (((w5.setCell ⟨w.heap.size, 0, none⟩ (.int .i64 x.1)).setCell ⟨w.heap.size, 1, none⟩ (.int .i64 x.2.1)).setCell ⟨w.heap.size, 2, none⟩ (.int .u64 x.2.2)).cell? ⟨w.heap.size, 2, none⟩ = some (.int .u64 x.2.2) := b6.cell 2
  have KK := Lib.hid (And.intro o6 (And.intro h6 (And.intro k3 (And.intro w0 (And.intro w1' w2')))))
  clear o6 h6 k3 b6 w0 w1' w2' hp' hr' ho m1 m2 m3 m4 HE
  go_wp2_with (fail)
  obtain ⟨V6, hV6⟩ : ∃ V6, V6 = (((w5.setCell ⟨w.heap.size, 0, none⟩ (.int .i64 x.1)).setCell ⟨w.heap.size, 1, none⟩ (.int .i64 x.2.1)).setCell ⟨w.heap.size, 2, none⟩ (.int .u64 x.2.2)) := ⟨_, rfl⟩
  rw [← hV6] at KK ⊢
  clear hV6
  obtain ⟨o6, h6, k3, w0, w1', w2'⟩ := KK.out
  refine bodyPost_ret (v := .tuple #[.agg #[.int .i64 x.1, .int .i64 x.2.1, .int .u64 x.2.2], .bool true]) (by simp [results, Try.results22, go_sem, w0, w1', w2']) rfl ?_
  exact ⟨rfl, o6, _, d', h6, hH', k3, rfl⟩
end Go.Proofs.Ytjahgiplaogmlaa.fro
