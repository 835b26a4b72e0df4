/-
  A row of numbers of one byte; the contracts of climb.
-/
import Derived.Test.YtdfakjpchgomdaaStart
import Derived.Test.YtdfakjpchgomdaaLevV
import Derived.Deep.RegionWith
namespace Go.Proofs.Ytdfakjpchgomdaa.lev
open Go.RowKit law bytes
set_option linter.unusedVariables false

/-- block g holds just n numbers -/
def Row (w : World) (g n : Nat) (f : Nat → Int) : Prop := ∃ (t : TypeId) (cs : Array Value), Blk w g t cs ∧ cs.size = n ∧ ∀ i, i < n → cs[i]? = some (.int .i8 (f i))
section
variable {w w' : World} {g n : Nat} {f f' : Nat → Int}
theorem Row.lt (h : Row w g n f) : g < w.heap.size := by obtain ⟨t, cs, h, _⟩ := h; exact h.lt
theorem Row.keep (h : Row w g n f) (e : w'.heap[g]? = w.heap[g]?) : Row w' g n f := by obtain ⟨t, cs, h, r⟩ := h; exact ⟨t, cs, h.keep e, r⟩
theorem Row.alloc (h : Row w g n f) (o : Obj) : Row (w.alloc o) g n f := h.keep (Below.heap_alloc w o g h.lt)
theorem Row.grown {row : Option Nat} (h : Row w g n f) (hb : w.grownBy w' row) (hg : some g ≠ row) : Row w' g n f := h.keep (hb.block g h.lt hg)
theorem Row.drewN (h : Row w g n f) (k : Nat) : Row (w.drewN k) g n f := h
theorem Row.congr (h : Row w g n f) (hf : ∀ i, i < n → f i = f' i) : Row w g n f' := by
  obtain ⟨t, cs, h, hs, hc⟩ := h; exact ⟨t, cs, h, hs, fun i hi => by rw [← hf i hi]; exact hc i hi⟩
theorem Row.cell (h : Row w g n f) {i : Nat} (hi : i < n) : w.cell? ⟨g, i, none⟩ = some (.int .i8 (f i)) := by
  obtain ⟨t, cs, h, hs, hc⟩ := h; exact (h.cell i).trans (hc i hi)
theorem Row.frozen (h : Row w g n f) (i : Nat) : w.frozen? ⟨g, i, none⟩ = false := by obtain ⟨t, cs, h, _⟩ := h; exact h.frozen i
theorem Row.set_ (h : Row w g n f) {i : Nat} (hi : i < n) (x : Int) (hf : ∀ k, k ≠ i → f' k = f k) (hx : f' i = x) : Row (w.setCell ⟨g, i, none⟩ (.int .i8 x)) g n f' := by
  obtain ⟨t, cs, h, hs, hc⟩ := h
  refine ⟨t, _, h.set_ i _, by simpa using hs, fun k hk => ?_⟩
  rw [Array.getElem?_setIfInBounds]
  by_cases e : i = k
  · subst e; rw [if_pos rfl, if_pos (by omega), hx]
  · rw [if_neg e, hf k (fun h => e h.symm)]; exact hc k hk
theorem Row.far (h : Row w g n f) {p : Addr} (hp : g ≠ p.block) (u : Value) : Row (w.setCell p u) g n f := h.keep (Below.heap_setCell w p u g hp)
end
theorem tl_at {s : ByteArray} {k : Nat} (hk : k < s.size) : s.data.toList[k]? = some (s[k]'hk) := by
  rw [List.getElem?_eq_getElem (by simpa using hk)]; rfl
theorem pls_eqs (text : ByteArray) (c k : Nat) (h64 : text.size ≤ 64) (hk : k < text.data.toList.length) : (pls text (text.size - 1) text.size c).getLsbD k = eqs text.data.toList c k := by
  have hl : text.data.toList.length = text.size := Array.length_toList
  rw [hl] at hk
  rw [pls_bit text _ c (by omega) _ (by omega) k (by omega), eqs, hl, decide_eq_decide]
  exact ⟨fun h => h.2, fun h => ⟨by omega, h⟩⟩

theorem only_two {w wr w2 : World} {g : Nat} (h : w.grownBy wr (some g)) (h2 : wr.drew.grownBy w2 (some w.heap.size)) : w.grownBy w2 (some g) :=
  only_step (b := wr) h h2.os h2.tape h2.output h2.size fun i hi _ => h2.block i (by show i < wr.heap.size; have := h.size; omega) (by simp; omega)
/-- a row was climbed -/
def Climbed (gr n : Nat) (f : Nat → Int) (w : World) (e : Ending) (w' : World) : Prop :=
  e = .returned (.tuple #[]) ∧ w.grownBy w' (some gr) ∧ Row w' gr n f
def mix (old new : Nat → Int) (j i : Nat) : Int := if i < j then old i else new i

set_option maxHeartbeats 1600000 in
set_option maxRecDepth 100000 in
theorem climb_any (text b : ByteArray) (a' : List UInt8) (h1 : 0 < text.size) (h64 : text.size ≤ 64) (hb : b.size ≤ 1048576) (gr c : Nat) (hc : b.size ≤ c) (w : World) (hr : Row w gr b.size (dl a' b.data.toList)) :
    Calls Try.prog 40 #[.string text, .string b, .slice (some ⟨gr, 0, none⟩) b.size c] w (Climbed gr b.size (dl (text.data.toList ++ a') b.data.toList) w) := by
  obtain ⟨zc, hzc⟩ : ∃ zc, zc = zcl := ⟨_, rfl⟩
  have hz := (zero_of_info zero_cl).1
  have hs := zcl_size
  rw [← hzc] at hz hs
  clear hzc
  have hlt := hr.lt
  have hst := start_any w.heap.size text h1 h64 zc (w.alloc (.cells zc 78)) (Blk.new w _ _) hs
  have HST := Lib.hid hst
  have HR := Lib.hid hr
  have HZ := Lib.hid hs
  clear hst hr hs
  go_enter Try.func40, Try.ntmps40
  go_wp2_with (fail)
  refine HST.out.mono ?_
  rintro e w1 ⟨rfl, hg1, hcl1⟩
  have hgw : w.grownBy w1 (some gr) := by
    refine ⟨hg1.os, hg1.tape, hg1.output, by have := hg1.size; simp at this; omega, fun i hi _ => ?_⟩
    rw [hg1.block i (by simp; omega) (by simp; omega), Below.heap_alloc w _ i hi]
  have hr1 := HR.out.grown (row := some w.heap.size) (w' := w1) ⟨hg1.os, hg1.tape, hg1.output, by have := hg1.size; simp at this; omega, fun i hi hne => by rw [hg1.block i (by simp; omega) hne, Below.heap_alloc w _ i hi]⟩ (by simp; omega)
  have HCL := Lib.hid hcl1
  have HR1 := Lib.hid hr1
  have HGW := Lib.hid hgw
  have hlen : b.data.toList.length = b.size := Array.length_toList
  have htl : text.data.toList.length = text.size := Array.length_toList
  have HLEN := Lib.hid hlen
  have HTL := Lib.hid htl
  clear hcl1 hr1 hgw hg1 HST HR HZ hz hlen htl
  go_wp2_with (fail)
  go_loopw [7] (fun x wr => ∃ (j : Nat) (s m l : BitVec 64), j ≤ b.size ∧ x = .int .i64 ((j : Int) - 1) ∧ Cl wr w.heap.size s m l (pls text (text.size - 1) text.size) (text.size - 1) ∧
    Col text.data.toList a' b.data.toList j m l ∧ Row wr gr b.size (mix (dl a' b.data.toList) (dl (text.data.toList ++ a') b.data.toList) j) ∧ w.grownBy wr (some gr)) (fun x _ => (intOf x + 1).toNat)
  case atStart =>
    refine ⟨b.size, _, _, _, Nat.le_refl _, rfl, HCL.out, ?_, HR1.out.congr (fun i hi => by unfold mix; rw [if_pos hi]), HGW.out⟩
    rw [← HLEN.out]
    exact Col.start (by rw [HTL.out]; exact h64)
  case round =>
    obtain ⟨j, s, m, l, hj, rfl, hcl, hcol, hrow, hgw⟩ := hrel
    rcases j with _ | j
    · rw [show (((0 : Nat) : Int) - 1) = -1 from rfl]
      go_wp2_with (fail)
      refine bodyPost_end (results_none rfl _ _ _) rfl ?_
      exact ⟨rfl, hgw, hrow.congr (fun i hi => by unfold mix; rw [if_neg (by omega)])⟩
    · rw [show (((j + 1 : Nat) : Int) - 1) = (j : Int) from by omega]
      have hjl : j < b.data.toList.length := by rw [HLEN.out]; omega
      have hst := step_any w.heap.size s m l (pls text (text.size - 1) text.size) (text.size - 1) (b[j]'(by omega)).toNat (b[j]'(by omega)).toNat_lt (by omega) (blOf a' b.data.toList j) (bmOf a' b.data.toList j) (blm _ _ _)
      have hbe : belowOf (blOf a' b.data.toList j) (bmOf a' b.data.toList j) = dl a' b.data.toList j := (dl_below _ _ _ hjl).symm
      rw [hbe] at hst
      have hcell : wr.cell? ⟨gr, j, none⟩ = some (.int .i8 (dl a' b.data.toList j)) := by rw [hrow.cell (by omega)]; unfold mix; rw [if_pos (by omega)]
      have hfr : ∀ i, wr.frozen? ⟨gr, i, none⟩ = false := hrow.frozen
      have heq : ∀ k, k < text.data.toList.length → (pls text (text.size - 1) text.size (b[j]'(by omega)).toNat).getLsbD k = eqs text.data.toList (b.data.toList[j]'hjl).toNat k := fun k hk => pls_eqs text _ k h64 hk
      have HEQ := Lib.hid heq
      clear heq
      have HST2 := Lib.hid (hst wr.drew (hcl.keep rfl))
      have HCOL := Lib.hid hcol
      have HROW := Lib.hid hrow
      clear hst hbe hcol hrow hcl
      generalize dl a' b.data.toList j = x at *
      go_wp2_with (fail)
      have hne : some gr ≠ some w.heap.size := by simp; omega
      go_region_with ((go_at_call 50; (with_reducible refine HST2.out.mono ?_); rintro e w2 ⟨rfl, hg2, hcl2⟩; have hr2 := Row.grown (w := wr.drew) (HROW.out.drewN 1) hg2 hne; have hc2 := hr2.cell (i := j) (by omega); have hf2 := hr2.frozen; have HR2 := Lib.hid hr2; clear hr2))
      all_goals
        go_wp2_with (fail)
        go_roundw
        case rel =>
          have hcs := HCOL.out.step (by rw [HTL.out]; exact h64) hjl HEQ.out
          have hup : upD (sR (pls text (text.size - 1) text.size (b[j]'(by omega)).toNat) m l (blOf a' b.data.toList j)) (sL (pls text (text.size - 1) text.size (b[j]'(by omega)).toNat) m l (blOf a' b.data.toList j)) (text.size - 1) = dl (text.data.toList ++ a') b.data.toList j := by
            rw [← HCOL.out.above (by rw [HTL.out]; exact h1) (by rw [HTL.out]; exact h64) hjl HEQ.out, HTL.out]
            rfl
          rw [hup]
          exact ⟨j, _, _, _, by omega, rfl, hcl2.keep (Below.heap_setCell _ _ _ _ (by simp; omega)), hcs.1, HR2.out.set_ (by omega) _ (fun k hk => by unfold mix; by_cases h : k < j <;> simp [h] <;> omega) (by unfold mix; rw [if_neg (by omega)]),
            only_setCell (g := gr) (only_two hgw hg2) (p := ⟨gr, j, none⟩) (.inl rfl) _⟩
        case measure => simp [intOf]
end Go.Proofs.Ytdfakjpchgomdaa.lev
