/-
  The contract of lev.rowsBelow for texts of one part, or of none.
-/
import Derived.Test.YtfahmllooeceaaaCut
namespace Go.Proofs.Ytfahmllooeceaaa.lev
open Go.RowKit law bytes
set_option linter.unusedVariables false

theorem src_row {w : World} {g m : Nat} {f : Nat → Int} (h : Row w g m f) (hf : ∀ j, j < m → f j = 1) (j : Nat) (v : Value) (hj : (List.replicate m (Value.int .i8 1))[j]? = some v) :
    w.cell? ((⟨g, 0, none⟩ : Addr).add j) = some v := by
  rw [List.getElem?_replicate] at hj
  split at hj
  · rename_i hlt
    injection hj with hj
    have hadd : (⟨g, 0, none⟩ : Addr).add j = ⟨g, j, none⟩ := by unfold Addr.add; split <;> simp_all
    rw [hadd, h.cell hlt, hf j hlt, hj]
  · cases hj
theorem wpList_copy_only {Pr : Program} {w : World} {ops : Array Oper} {rest : List Oper} {o : Oper} {a : Act} {Q : Exit → Act → World → Prop} (hgd : o.guard = none) (d s : Operand) (T : TypeId)
    (ho : o.op = .call { callee := .builtin .copy, args := #[d, s], argTypes := #[T, T] }) (elem : TypeId) (hu : Pr.underlying T = some (.slice elem)) (hsz : (Pr.info? elem).map (·.size) = some 1)
    (g n c c' : Nat) (ad : Addr) (hd : a.eval d = .slice (some ⟨g, 0, none⟩) n c) (hs : a.eval s = .slice (some ad) n c')
    (cur : List Value) (t : TypeId) (hg : Blk w g t cur.toArray) (cs : List Value) (hcur : cur.length = n) (hn : cs.length = n)
    (hsrc : ∀ j v, cs[j]? = some v → w.cell? (ad.add j) = some v) (h1 : ∀ v ∈ cs, v.oneCell' = true)
    (h : ∀ w', Hid (Blk w' g t cs.toArray) → w.grownBy w' (some g) → wpList Pr ops Q rest (a.put o.dst (goInt n)) w') : wpList Pr ops Q (o :: rest) a w := by
  by_cases h0 : n = 0
  · subst h0
    obtain rfl : cs = [] := List.eq_nil_of_length_eq_zero hn
    obtain rfl : cur = [] := List.eq_nil_of_length_eq_zero hcur
    exact wpList_copy_nothing hgd d s T T ho elem hu hsz _ _ _ _ _ _ hd hs (by simp) (h w (Lib.hid hg) (only_refl w _))
  · refine wpList_copy_own hgd d s T T ho elem hu hsz g 0 n c ad n c' hd hs cur.toArray t hg cs (by simp [hn]) hsrc (by simp; omega) h1 ?_
    rw [hn]
    refine h _ (Lib.hid ?_) (only_setRow _)
    have e : (cur.toArray.toList.take 0 ++ (cs ++ cur.toArray.toList.drop (0 + cs.length))) = cs := by simp [List.drop_eq_nil_of_le (show cur.length ≤ cs.length by omega)]
    rw [← hn, e]
    exact setRow_heap w g _ _ t _ hg
theorem row_ones {w : World} {g m : Nat} {t : TypeId} {f : Nat → Int} (h : Blk w g t (List.replicate m (Value.int .i8 1)).toArray) (hf : ∀ j, j < m → f j = 1) : Row w g m f :=
  ⟨t, _, h, by simp, fun i hi => by rw [hf i hi]; simp [hi]⟩

set_option maxRecDepth 100000 in
theorem rows_none (b : ByteArray) (hb : b.size ≤ 1048576) (w : World) : Calls Try.prog 27 #[.string ByteArray.empty, .string b] w (NoRow w) := by
  have h0 : ∀ W, Calls Try.prog 22 #[.string ByteArray.empty] W fun e w' => e = .returned (.int .i64 0) ∧ W = w' := fun W => parts_any ByteArray.empty (by decide) W
  have h1 := cut_none b.size hb w
  have h2 := fun W => last_any b hb W
  have H0 := Lib.hid h0
  have H1 := Lib.hid h1
  have H2 := Lib.hid h2
  clear h0 h1 h2
  go_enter Try.func27, Try.ntmps27
  go_wp2_with (fail)
  refine (H0.out _).mono ?_
  rintro e w1 ⟨rfl, rfl⟩
  go_wp2_with (fail)
  refine H1.out.mono ?_
  rintro e w1 ⟨g, rfl, hb1⟩
  go_wp2_with (fail)
  refine (H2.out _).mono ?_
  rintro e w2 ⟨g2, rfl, hg2, hr2, hb2⟩
  have hB : Below w.heap.size w w2 := hb1.trans (hb2.mono hb1.size)
  clear hb1 hb2 hr2 H0 H1 H2
  go_wp2_with (fail)
  go_loop [7] (fun i => i = .int .i64 (-1)) (fun _ => 0)
  case atStart => rfl
  case round =>
    subst hrel
    go_wp2_with (fail)
    go_ret
    exact ⟨_, rfl, hB⟩
/-- the row below the one part -/
def RowBelow (b : ByteArray) (w : World) (e : Ending) (w' : World) : Prop := ∃ g ga, e = .returned (.slice (some ⟨g, 0, none⟩) 1 1) ∧ w.heap.size ≤ g ∧ w.heap.size ≤ ga ∧
  w'.cell? ⟨g, 0, none⟩ = some (.slice (some ⟨ga, 0, none⟩) b.size b.size) ∧ Row w' ga b.size (dl [] (bl b)) ∧ Below w.heap.size w w'
theorem pt_zero (a : ByteArray) (h : a.size ≤ 64) : pt a 0 = a := by
  apply bl_ext
  unfold pt
  rw [bl_extract, Nat.min_eq_right (by omega), Nat.zero_mul, List.drop_zero, List.take_of_length_le (by rw [bl_len]; exact Nat.le_refl _)]

set_option maxHeartbeats 800000 in
set_option maxRecDepth 100000 in
theorem rows_one (a b : ByteArray) (ha : 0 < a.size) (ha64 : a.size ≤ 64) (hb : b.size ≤ 1048576) (w : World) : Calls Try.prog 27 #[.string a, .string b] w (RowBelow b w) := by
  have h0 : ∀ W, Calls Try.prog 22 #[.string a] W fun e w' => e = .returned (.int .i64 1) ∧ W = w' := fun W => by
    have := parts_any a (by omega) W
    rwa [show (a.size + 63) / 64 = 1 from by omega] at this
  have h1 := cut_one b.size hb w
  have h2 := fun W => last_any b hb W
  have h3 : ∀ W, Calls Try.prog 24 #[.string a, .int .i64 0] W fun e w' => e = .returned (.string a) ∧ W = w' := fun W => by
    have := part_any a (by omega) 0 (by omega) W
    rwa [pt_zero a ha64] at this
  have h4 := fun gr W hr => climb_any a b [] ha ha64 hb gr b.size (Nat.le_refl _) W hr
  have hone : ∀ j, j < b.size → dl [] (bl b) j = 1 := fun j hj => dl_nil _ _ (by rw [bl_len]; exact hj)
  have H0 := Lib.hid h0
  have H1 := Lib.hid h1
  have H2 := Lib.hid h2
  have H3 := Lib.hid h3
  have H4 := Lib.hid h4
  have HO := Lib.hid hone
  clear h0 h1 h2 h3 h4 hone
  go_enter Try.func27, Try.ntmps27
  go_wp2_with (fail)
  refine (H0.out _).mono ?_
  rintro e w1 ⟨rfl, rfl⟩
  go_wp2_with (fail)
  refine H1.out.mono ?_
  rintro e w1 ⟨g, ga, rfl, hg, hga, hne, hc1, hblk1, hgl, hb1⟩
  have HC1 := Lib.hid hc1
  have HBLK1 := Lib.hid hblk1
  clear hc1 hblk1
  go_wp2_with (fail)
  refine (H2.out _).mono ?_
  rintro e w2 ⟨gr, rfl, hgr, hr2, hb2⟩
  have hgal := HBLK1.out.lt
  have hB : Below w.heap.size w w2 := hb1.trans (hb2.mono hb1.size)
  have hc2 : w2.cell? ⟨g, 0, none⟩ = some (.slice (some ⟨ga, 0, none⟩) b.size b.size) := (hb2.cell (p := ⟨g, 0, none⟩) hgl).trans HC1.out
  have hblk2 := HBLK1.out.below hb2 hgal
  have hr2' : Row w2 gr b.size (dl [] (bl b)) := hr2.congr fun i hi => (HO.out i hi).symm
  have hgrga : gr ≠ ga := by omega
  have hgrg : gr ≠ g := by omega
  have hgrw : w.heap.size ≤ gr := by have := hb1.size; omega
  have hgl2 : g < w2.heap.size := by have := hb2.size; omega
  have HC2 := Lib.hid hc2
  have HBLK2 := Lib.hid hblk2
  have HR2 := Lib.hid hr2'
  have HB2 := Lib.hid hB
  clear hb1 hb2 hr2 hr2' hB hc2 hblk2 H0 H1 H2 HC1 HBLK1
  go_wp2_with (fail)
  go_loopw [7] (fun x wr => ∃ k : Nat, k ≤ 1 ∧ x = .int .i64 ((k : Int) - 1) ∧ wr.cell? ⟨g, 0, none⟩ = some (.slice (some ⟨ga, 0, none⟩) b.size b.size) ∧ Below w.heap.size w wr ∧ g < wr.heap.size ∧
    Hid (k = 1 → Blk wr ga 41 (List.replicate b.size (Value.int .i8 0)).toArray ∧ Row wr gr b.size (dl [] (bl b))) ∧ Hid (k = 0 → Row wr ga b.size (dl [] (bl b)))) (fun x _ => (intOf x + 1).toNat)
  case atStart => exact ⟨1, Nat.le_refl _, rfl, HC2.out, HB2.out, hgl2, Lib.hid (fun _ => ⟨HBLK2.out, HR2.out⟩), Lib.hid (fun h => by omega)⟩
  case round =>
    obtain ⟨k, hk, rfl, hc, hB, hgl3, HK1, HK0⟩ := hrel
    rcases Nat.eq_zero_or_pos k with hk0 | hk0
    · subst hk0
      rw [show (((0 : Nat) : Int) - 1) = -1 from rfl]
      have HR := Lib.hid (HK0.out rfl)
      have HC := Lib.hid hc
      clear hc
      go_wp2_with (fail)
      go_ret
      exact ⟨_, _, rfl, hg, hga, HC.out, HR.out, hB⟩
    · obtain rfl : k = 1 := by omega
      rw [show (((1 : Nat) : Int) - 1) = 0 from rfl]
      obtain ⟨hblk, hrow⟩ := HK1.out rfl
      have hsrc := src_row hrow HO.out
      have HSRC := Lib.hid hsrc
      have HBL := Lib.hid hblk
      have HRW := Lib.hid hrow
      have HB := Lib.hid hB
      have hgrl := hrow.lt
      have hgal3 := hblk.lt
      clear hsrc hblk hrow hB HK1 HK0 HC2 HBLK2 HR2 HB2
      go_wp2_with (refine wpList_copy_only rfl (.tmp 25) (.tmp 26) 36 rfl 41 Try.underlying36 (by kernel_rfl) ga b.size b.size b.size ⟨gr, 0, none⟩ rfl rfl (List.replicate b.size (Value.int .i8 0)) 41 HBL.out (List.replicate b.size (Value.int .i8 1)) (by simp) (by simp) HSRC.out (fun v hv => by rw [List.eq_of_mem_replicate hv]; rfl) ?_; intro w5 HG5 hg5)
      refine (H3.out _).mono ?_
      rintro e w6 ⟨rfl, rfl⟩
      have hr5 := HRW.out.grown hg5 (by simp; omega)
      have hcl := H4.out gr w5 hr5
      have hc5 : w5.cell? ⟨g, 0, none⟩ = some (.slice (some ⟨ga, 0, none⟩) b.size b.size) := (World.cell?_of_block (hg5.block g hgl3 (by simp; omega))).trans hc
      have hB5 := HB.out.grown hg5 HB.out.size (fun k hk => by injection hk with hk; omega)
      have ha5 : Row w5 ga b.size (dl [] (bl b)) := row_ones HG5.out HO.out
      have hgl5 : g < w5.heap.size := Nat.lt_of_lt_of_le hgl3 hg5.size
      have HCL := Lib.hid hcl
      have HC5 := Lib.hid hc5
      have HB5 := Lib.hid hB5
      have HA5 := Lib.hid ha5
      clear hr5 hcl hc5 hB5 ha5 hc hg5 HG5 HBL HRW HSRC H4
      go_wp2_with (fail)
      refine HCL.out.mono ?_
      rintro e w7 ⟨rfl, hg7, hr7⟩
      have hc7 : w7.cell? ⟨g, 0, none⟩ = some (.slice (some ⟨ga, 0, none⟩) b.size b.size) := (World.cell?_of_block (hg7.block g hgl5 (by simp; omega))).trans HC5.out
      have hB7 := HB5.out.grown hg7 HB5.out.size (fun k hk => by injection hk with hk; omega)
      have ha7 := HA5.out.grown hg7 (by simp; omega)
      have hgl7 : g < w7.heap.size := Nat.lt_of_lt_of_le hgl5 hg7.size
      have HC7 := Lib.hid hc7
      have HA7 := Lib.hid ha7
      clear hc7 ha7 hr7 hg7
      go_wp2_with (fail)
      go_roundw
      case rel => exact ⟨0, by omega, rfl, HC7.out, hB7, hgl7, Lib.hid (fun h => by omega), Lib.hid (fun _ => HA7.out)⟩
      case measure => simp [intOf]
end Go.Proofs.Ytfahmllooeceaaa.lev
