/-
  The contracts of package code's writer, part by part; rows of parts in memory; the document's own bytes of parts.
-/
import Derived.Test.YtlgjbdgolchadaaWriter
namespace Go.Proofs.Ytlgjbdgolchadaa.code
open Go.RowKit law bytes nums
set_option linter.unusedVariables false

theorem int_any (g : Nat) (i : Int) (h1 : -9223372036854775808 ≤ i) (h2 : i ≤ 9223372036854775807) (xs : List UInt8) (w : World) (hw : Wr w g xs) (hl : xs.length + 10 ≤ 140737488355328) :
    Calls Try.prog 35 #[.pointer (some ⟨g, 0, none⟩), .int .i64 i] w (Wrote g (xs ++ encB (encI i)) w) := by
  have hx := numberOf_any i h1 h2
  have hy := num_any g (encI i) (encI_lt h1 h2) xs
  go_enter Try.func35, Try.ntmps35
  go_wp2_with (first
    | (go_at_call 50; (with_reducible refine (hx _).mono ?_); rintro e w' ⟨rfl, rfl⟩)
    | (go_at_call 36; (with_reducible refine (hy _ hw hl).mono ?_); rintro e w' ⟨rfl, hb, hw'⟩))
  go_end0
  exact ⟨rfl, hb, hw'⟩
theorem str_bv (s : ByteArray) : Lib.strCells s = bv (tl s) := by simp [Lib.strCells, bv, tl]
set_option maxHeartbeats 400000 in
theorem text_any (g : Nat) (s : ByteArray) (xs : List UInt8) (w : World) (hw : Wr w g xs) (hl : xs.length + 10 + s.size ≤ 140737488355328) :
    Calls Try.prog 37 #[.pointer (some ⟨g, 0, none⟩), .string s] w (Wrote g (xs ++ (encB s.size ++ tl s)) w) := by
  have hu : U64 s.size := by unfold U64; omega
  have hy := num_any g s.size hu xs w hw (by omega)
  have hel := encB_len hu
  obtain ⟨i0, hi, hz0, hz1, hz2, _⟩ := byteE
  go_enter Try.func37, Try.ntmps37
  go_wp2_with (first
    | (go_at_call 36; (with_reducible refine hy.mono ?_); rintro e w1 ⟨rfl, hb, v, hblk, hown⟩
       have hg := hblk.lt
       have hxl : (xs ++ encB s.size).length = xs.length + (encB s.size).length := List.length_append
       rw [hxl] at hown
       clear hxl
       have hc : w1.cell? ⟨g, 0, none⟩ = some v := hblk.cell 0
       have hf : w1.frozen? ⟨g, 0, none⟩ = false := hblk.frozen 0)
    | (at_builtin
       refine Lib.wpList_append_own_string _ rfl (.tmp 15) (.tmp 16) _ _ rfl (g + 1) 5 i0 Try.underlying32 Try.underlying9 hi hz0 hz1 hz2 v (xs.length + (encB s.size).length) (bv (xs ++ encB s.size)) rfl hown s rfl (by unfold maxLen; omega) (by omega) hg ?_
       intro v1 w2 hown1 hg1 hat1
       obtain ⟨A1, c1, rfl, hc1⟩ := own_slice hown1
       have hblk1 := hblk.grown hg1 (fun e => by have := (hown.lt _ e.symm).1; omega)
       have hd1 : w2.cell? ⟨g, 0, none⟩ = some v := hblk1.cell 0
       have hf1 : w2.frozen? ⟨g, 0, none⟩ = false := hblk1.frozen 0))
  go_end0
  refine ⟨rfl, below_put0 hb hg hown hg1, wr_put hblk1 hown1 ?_ ?_⟩
  · rw [str_bv, ← List.append_assoc, bv_append (xs ++ encB s.size)]
  · simp only [List.length_append, tl_len]; omega
theorem bytes_any (g : Nat) (xs : List UInt8) (w : World) (hw : Wr w g xs) (hl : xs.length ≤ 140737488355328) :
    Calls Try.prog 21 #[.pointer (some ⟨g, 0, none⟩)] w (ByteMade xs w) := by
  obtain ⟨v, hblk, hown⟩ := hw
  obtain ⟨A, c, rfl, hc⟩ := own_slice hown
  have hx := clone_any A xs xs.length c w.heap.size w rfl hl (Nat.le_refl _) (Sl.of_own hown)
  have hc : w.cell? ⟨g, 0, none⟩ = some (.slice A xs.length c) := hblk.cell 0
  go_enter Try.func21, Try.ntmps21
  go_wp2_with (go_at_call 38; (with_reducible refine hx.mono ?_); rintro e w' ⟨A', c', rfl, hc', hs', hb'⟩)
  go_ret
  exact ⟨A', c', rfl, hc', hs', hb'⟩
theorem bytes_nil (w : World) : Calls Try.prog 21 #[.pointer none] w fun e w' => e = .returned (.slice none 0 0) ∧ w = w' := by
  go_enter Try.func21, Try.ntmps21
  go_wp2
  go_ret
  exact ⟨rfl, rfl⟩
theorem int_nil (i : Int) (h1 : -9223372036854775808 ≤ i) (h2 : i ≤ 9223372036854775807) (w : World) : Calls Try.prog 35 #[.pointer none, .int .i64 i] w fun e w' => e = .returned (.tuple #[]) ∧ w = w' := by
  have hx := numberOf_any i h1 h2
  go_enter Try.func35, Try.ntmps35
  go_wp2_with (first
    | (go_at_call 50; (with_reducible refine (hx _).mono ?_); rintro e w' ⟨rfl, rfl⟩)
    | (go_at_call 36; (with_reducible refine (num_nil _ _).mono ?_); rintro e w' ⟨rfl, rfl⟩))
  go_end0
  exact ⟨rfl, rfl⟩
theorem text_nil (s : ByteArray) (w : World) : Calls Try.prog 37 #[.pointer none, .string s] w fun e w' => e = .returned (.tuple #[]) ∧ w = w' := by
  go_enter Try.func37, Try.ntmps37
  go_wp2
  exact bodyPost_ret (results_none rfl _ _ _) rfl ⟨rfl, rfl⟩

/-! ### parts in memory -/
def pcs (p : Part) : List Value := [.int .i64 p.kind, .int .u64 p.n, .int .i64 p.i, .bool p.f, .string p.t, .int .i64 p.low, .int .i64 p.high, .int .i64 p.most]
def pcl (l : List Part) : List Value := l.flatMap pcs
theorem pcl_append (l m : List Part) : pcl (l ++ m) = pcl l ++ pcl m := by simp [pcl]
theorem pcl_len (l : List Part) : (pcl l).length = l.length * 8 := by
  induction l with
  | nil => rfl
  | cons p r ih =>
    have e : pcl (p :: r) = pcs p ++ pcl r := by simp [pcl]
    rw [e, List.length_append, ih]
    simp [pcs]
    omega
theorem pcl_at (l : List Part) (k j : Nat) (hk : k < l.length) (hj : j < 8) : (pcl l)[k * 8 + j]? = (pcs l[k])[j]? := by
  induction l generalizing k with
  | nil => simp at hk
  | cons p r ih =>
    have e : pcl (p :: r) = pcs p ++ pcl r := by simp [pcl]
    rw [e]
    cases k with
    | zero =>
      rw [List.getElem?_append_left (by simp [pcs]; omega)]
      simp
    | succ k =>
      rw [List.getElem?_append_right (by simp [pcs]; omega)]
      have h1 := ih k (by simpa using hk)
      have h2 : (k + 1) * 8 + j - (pcs p).length = k * 8 + j := by simp [pcs]; omega
      rw [h2, h1]
      rfl
section
variable {w : World} {B : Nat} {A : Option Addr} {l : List Part}
theorem Sl.part {k : Nat} (h : Sl w B A (pcl l)) (hk : k < l.length) : ∃ ad, A = some ad ∧ ad.block < B ∧
    w.cell? (ad.add (k * 8)) = some (.int .i64 l[k].kind) ∧ w.cell? ⟨(ad.add (k * 8)).block, (ad.add (k * 8)).off + 1, none⟩ = some (.int .u64 l[k].n) ∧ w.cell? ⟨(ad.add (k * 8)).block, (ad.add (k * 8)).off + 2, none⟩ = some (.int .i64 l[k].i) ∧ w.cell? ⟨(ad.add (k * 8)).block, (ad.add (k * 8)).off + 3, none⟩ = some (.bool l[k].f) ∧
    w.cell? ⟨(ad.add (k * 8)).block, (ad.add (k * 8)).off + 4, none⟩ = some (.string l[k].t) ∧ w.cell? ⟨(ad.add (k * 8)).block, (ad.add (k * 8)).off + 5, none⟩ = some (.int .i64 l[k].low) ∧ w.cell? ⟨(ad.add (k * 8)).block, (ad.add (k * 8)).off + 6, none⟩ = some (.int .i64 l[k].high) ∧ w.cell? ⟨(ad.add (k * 8)).block, (ad.add (k * 8)).off + 7, none⟩ = some (.int .i64 l[k].most) := by
  have hat : ∀ j, j < 8 → (pcl l)[k * 8 + j]? = (pcs l[k])[j]? := fun j hj => pcl_at l k j hk hj
  obtain ⟨ad, rfl, hb, h0⟩ := h (k * 8 + 0) _ (hat 0 (by omega))
  refine ⟨ad, rfl, hb, by simpa using h0, ?_⟩
  have hc : ∀ j u, j < 8 → (pcs l[k])[j]? = some u → w.cell? ((ad.add (k * 8)).add j) = some u := fun j u hj hu => by
    obtain ⟨ad', e, _, hc⟩ := h (k * 8 + j) u ((hat j hj).trans hu)
    injection e with e
    subst e
    rw [add_two]
    exact hc
  exact ⟨hc 1 _ (by omega) rfl, hc 2 _ (by omega) rfl, hc 3 _ (by omega) rfl, hc 4 _ (by omega) rfl, hc 5 _ (by omega) rfl, hc 6 _ (by omega) rfl, hc 7 _ (by omega) rfl⟩
end

end Go.Proofs.Ytlgjbdgolchadaa.code
