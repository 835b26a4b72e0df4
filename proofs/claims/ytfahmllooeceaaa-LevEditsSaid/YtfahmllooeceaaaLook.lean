/-
  The columns of a part; the contract of lev.look.
-/
import Derived.Test.YtfahmllooeceaaaClimb
import Derived.Test.YtfahmllooeceaaaLevT
namespace Go.Proofs.Ytfahmllooeceaaa.lev
open Go.RowKit law bytes
set_option linter.unusedVariables false

/-- block g holds the columns of a part, from a place on -/
def Cols (w : World) (g n lo : Nat) (tx a' b : List UInt8) : Prop := ∃ (t : TypeId) (cs : Array Value), Blk w g t cs ∧ cs.size = n * 3 ∧
  ∀ j, lo ≤ j → j < n → ∃ s m l : BitVec 64, cs[j * 3]? = some (.int .u64 (U s)) ∧ cs[j * 3 + 1]? = some (.int .u64 (U m)) ∧ cs[j * 3 + 2]? = some (.int .u64 (U l)) ∧ Col tx a' b j m l ∧ Same tx a' b j s
section
variable {w w' : World} {g n lo : Nat} {tx a' b : List UInt8}
theorem Cols.lt (h : Cols w g n lo tx a' b) : g < w.heap.size := by obtain ⟨t, cs, h, _⟩ := h; exact h.lt
theorem Cols.keep (h : Cols w g n lo tx a' b) (e : w'.heap[g]? = w.heap[g]?) : Cols w' g n lo tx a' b := by obtain ⟨t, cs, h, r⟩ := h; exact ⟨t, cs, h.keep e, r⟩
theorem Cols.grown {row : Option Nat} (h : Cols w g n lo tx a' b) (hb : w.grownBy w' row) (hg : some g ≠ row) : Cols w' g n lo tx a' b := h.keep (hb.block g h.lt hg)
theorem Cols.frozen (h : Cols w g n lo tx a' b) (i : Nat) : w.frozen? ⟨g, i, none⟩ = false := by obtain ⟨t, cs, h, _⟩ := h; exact h.frozen i
theorem Cols.there (h : Cols w g n lo tx a' b) {i : Nat} (hi : i < n * 3) : ∃ v, w.cell? ⟨g, i, none⟩ = some v := by
  obtain ⟨t, cs, h, hs, _⟩ := h
  exact ⟨_, (h.cell i).trans (Array.getElem?_eq_getElem (by omega))⟩
theorem Cols.set_ (h : Cols w g n lo tx a' b) {j : Nat} (hlo : lo = j + 1) (hj : j < n) (s m l : BitVec 64) (hc : Col tx a' b j m l) (hs : Same tx a' b j s) :
    Cols (((w.setCell ⟨g, j * 3, none⟩ (.int .u64 (U s))).setCell ⟨g, j * 3 + 1, none⟩ (.int .u64 (U m))).setCell ⟨g, j * 3 + 2, none⟩ (.int .u64 (U l))) g n j tx a' b := by
  obtain ⟨t, cs, h, hsz, hd⟩ := h
  refine ⟨t, _, ((h.set_ _ _).set_ _ _).set_ _ _, by simpa using hsz, fun k hk hkn => ?_⟩
  by_cases e : k = j
  · subst e
    refine ⟨s, m, l, ?_, ?_, ?_, hc, hs⟩
    · rw [Array.getElem?_setIfInBounds, if_neg (by omega), Array.getElem?_setIfInBounds, if_neg (by omega), Array.getElem?_setIfInBounds, if_pos rfl, if_pos (by omega)]
    · rw [Array.getElem?_setIfInBounds, if_neg (by omega), Array.getElem?_setIfInBounds, if_pos rfl, if_pos (by simp; omega)]
    · rw [Array.getElem?_setIfInBounds, if_pos rfl, if_pos (by simp; omega)]
  · obtain ⟨s', m', l', h1, h2, h3, r⟩ := hd k (by omega) hkn
    refine ⟨s', m', l', ?_, ?_, ?_, r⟩
    · rw [Array.getElem?_setIfInBounds, if_neg (by omega), Array.getElem?_setIfInBounds, if_neg (by omega), Array.getElem?_setIfInBounds, if_neg (by omega)]; exact h1
    · rw [Array.getElem?_setIfInBounds, if_neg (by omega), Array.getElem?_setIfInBounds, if_neg (by omega), Array.getElem?_setIfInBounds, if_neg (by omega)]; exact h2
    · rw [Array.getElem?_setIfInBounds, if_neg (by omega), Array.getElem?_setIfInBounds, if_neg (by omega), Array.getElem?_setIfInBounds, if_neg (by omega)]; exact h3
end
/-- the columns were looked at -/
def Looked (gc n : Nat) (tx a' b : List UInt8) (w : World) (e : Ending) (w' : World) : Prop :=
  e = .returned (.tuple #[]) ∧ w.grownBy w' (some gc) ∧ Cols w' gc n 0 tx a' b

set_option maxHeartbeats 1600000 in
set_option maxRecDepth 100000 in
theorem look_any (text b : ByteArray) (a' : List UInt8) (h1 : 0 < text.size) (h64 : text.size ≤ 64) (hb : b.size ≤ 1048576) (gr gc : Nat) (hne : gr ≠ gc) (w : World) (hr : Row w gr b.size (dl a' b.data.toList))
    (hc : Cols w gc b.size b.size text.data.toList a' b.data.toList) :
    Calls Try.prog 28 #[.string text, .string b, .slice (some ⟨gr, 0, none⟩) b.size b.size, .slice (some ⟨gc, 0, none⟩) b.size b.size] w (Looked gc b.size text.data.toList a' b.data.toList w) := by
  obtain ⟨zc, hzc⟩ : ∃ zc, zc = zcl := ⟨_, rfl⟩
  have hz := (zero_of_info zero_cl).1
  have hs := zcl_size
  rw [← hzc] at hz hs
  clear hzc
  have hlt := hr.lt
  have hlt2 := hc.lt
  have hst := start_any w.heap.size text h1 h64 zc (w.alloc (.cells zc 59)) (Blk.new w _ _) hs
  have HST := Lib.hid hst
  have HR := Lib.hid hr
  have HC := Lib.hid hc
  have HZ := Lib.hid hs
  clear hst hr hs hc
  go_enter Try.func28, Try.ntmps28
  go_wp2_with (fail)
  refine HST.out.mono ?_
  rintro e w1 ⟨rfl, hg1, hcl1⟩
  have hg1' : w.grownBy w1 (some w.heap.size) := ⟨hg1.os, hg1.tape, hg1.output, by have := hg1.size; simp at this; omega, fun i hi hne => by rw [hg1.block i (by simp; omega) hne, Below.heap_alloc w _ i hi]⟩
  have hgw : w.grownBy w1 (some gc) := ⟨hg1'.os, hg1'.tape, hg1'.output, hg1'.size, fun i hi _ => hg1'.block i hi (by simp; omega)⟩
  have hr1 := HR.out.grown hg1' (by simp; omega)
  have hc1 := HC.out.grown hg1' (by simp; omega)
  have HCL := Lib.hid hcl1
  have HR1 := Lib.hid hr1
  have HC1 := Lib.hid hc1
  have HGW := Lib.hid hgw
  have hlen : b.data.toList.length = b.size := Array.length_toList
  have htl : text.data.toList.length = text.size := Array.length_toList
  have HLEN := Lib.hid hlen
  have HTL := Lib.hid htl
  clear hcl1 hr1 hc1 hgw hg1 hg1' HST HR HC HZ hz hlen htl
  go_wp2_with (fail)
  go_loopw [9] (fun x wr => ∃ (j : Nat) (s m l : BitVec 64), j ≤ b.size ∧ x = .int .i64 ((j : Int) - 1) ∧ Cl wr w.heap.size s m l (pls text (text.size - 1) text.size) (text.size - 1) ∧
    Col text.data.toList a' b.data.toList j m l ∧ Row wr gr b.size (dl a' b.data.toList) ∧ Cols wr gc b.size j text.data.toList a' b.data.toList ∧ w.grownBy wr (some gc)) (fun x _ => (intOf x + 1).toNat)
  case atStart =>
    refine ⟨b.size, _, _, _, Nat.le_refl _, rfl, HCL.out, ?_, HR1.out, HC1.out, HGW.out⟩
    rw [← HLEN.out]
    exact Col.start (by rw [HTL.out]; exact h64)
  case round =>
    obtain ⟨j, s, m, l, hj, rfl, hcl, hcol, hrow, hcols, hgw⟩ := hrel
    rcases j with _ | j
    · rw [show (((0 : Nat) : Int) - 1) = -1 from rfl]
      go_wp2_with (fail)
      refine bodyPost_end (results_none rfl _ _ _) rfl ?_
      exact ⟨rfl, hgw, hcols⟩
    · rw [show (((j + 1 : Nat) : Int) - 1) = (j : Int) from by omega]
      have hjl : j < b.data.toList.length := by rw [HLEN.out]; omega
      have hst := step_any w.heap.size s m l (pls text (text.size - 1) text.size) (text.size - 1) (b[j]'(by omega)).toNat (b[j]'(by omega)).toNat_lt (by omega) (blOf a' b.data.toList j) (bmOf a' b.data.toList j) (blm _ _ _)
      have hbe : belowOf (blOf a' b.data.toList j) (bmOf a' b.data.toList j) = dl a' b.data.toList j := (dl_below _ _ _ hjl).symm
      rw [hbe] at hst
      have hcell : wr.cell? ⟨gr, j, none⟩ = some (.int .i8 (dl a' b.data.toList j)) := hrow.cell (by omega)
      have heq : ∀ k, k < text.data.toList.length → (pls text (text.size - 1) text.size (b[j]'(by omega)).toNat).getLsbD k = eqs text.data.toList (b.data.toList[j]'hjl).toNat k := fun k hk => pls_eqs text _ k h64 hk
      have hcs := hcol.step (by rw [HTL.out]; exact h64) hjl heq
      have HCS := Lib.hid hcs
      have HST2 := Lib.hid (hst wr.drew (hcl.keep rfl))
      have HROW := Lib.hid hrow
      have HCOLS := Lib.hid hcols
      clear hst hbe hcol hrow hcl heq hcs hcols
      generalize dl a' b.data.toList j = x at *
      go_wp2_with (fail)
      go_region_with ((go_at_call 34; (with_reducible refine HST2.out.mono ?_); rintro e w2 ⟨rfl, hg2, hcl2⟩))
      all_goals
        have hr2 := Row.grown (w := wr.drew) (HROW.out.drewN 1) hg2 (by simp; omega)
        have hc2 := Cols.grown (w := wr.drew) (HCOLS.out.keep rfl) hg2 (by simp; omega)
        have hgw2 : w.grownBy w2 (some gc) := only_two hgw hg2
        have hf2 := hc2.frozen
        obtain ⟨v0, hv0⟩ := hc2.there (i := j * 3) (by omega)
        obtain ⟨v1, hv1⟩ := hc2.there (i := j * 3 + 1) (by omega)
        obtain ⟨v2, hv2⟩ := hc2.there (i := j * 3 + 2) (by omega)
        have HR2 := Lib.hid hr2
        have HC2 := Lib.hid hc2
        have HCL2 := Lib.hid hcl2
        obtain ⟨cs, hblk, hsz, k0, k1, k2, _, _⟩ := hcl2
        have c0 : w2.cell? ⟨w.heap.size, 0, none⟩ = some _ := (hblk.cell 0).trans k0
        have c1 : w2.cell? ⟨w.heap.size, 1, none⟩ = some _ := (hblk.cell 1).trans k1
        have c2 : w2.cell? ⟨w.heap.size, 2, none⟩ = some _ := (hblk.cell 2).trans k2
        clear hr2 hc2 hblk k0 k1 k2 hsz HST2 HROW HCOLS HCL HR1 HC1
        go_wp2_with (fail)
        go_roundw
        case rel =>
          refine ⟨j, _, _, _, by omega, rfl, ((HCL2.out.keep (Below.heap_setCell _ _ _ _ ?_)).keep (Below.heap_setCell _ _ _ _ ?_)).keep (Below.heap_setCell _ _ _ _ ?_), HCS.out.1, ((HR2.out.far ?_ _).far ?_ _).far ?_ _, HC2.out.set_ rfl (by omega) _ _ _ HCS.out.1 HCS.out.2,
            only_setCell (g := gc) (only_setCell (g := gc) (only_setCell (g := gc) hgw2 (p := ⟨gc, j * 3, none⟩) (.inl rfl) _) (p := ⟨gc, j * 3 + 1, none⟩) (.inl rfl) _) (p := ⟨gc, j * 3 + 2, none⟩) (.inl rfl) _⟩ <;> (show (_ : Nat) ≠ gc; omega)
        case measure => simp [intOf]
end Go.Proofs.Ytfahmllooeceaaa.lev
