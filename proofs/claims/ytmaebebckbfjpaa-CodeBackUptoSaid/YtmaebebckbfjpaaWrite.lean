/-
  The contracts of package code's writer, part by part; rows of parts in memory; the document's own bytes of parts.
-/
import Derived.Test.YtmaebebckbfjpaaWriter
namespace Go.Proofs.Ytmaebebckbfjpaa.code
open Go.RowKit law bytes nums
set_option linter.unusedVariables false

theorem int_any (g : Nat) (i : Int) (h1 : -9223372036854775808 ≤ i) (h2 : i ≤ 9223372036854775807) (xs : List UInt8) (w : World) (hw : Wr w g xs) (hl : xs.length + 10 ≤ 140737488355328) :
    Calls Try.prog 20 #[.pointer (some ⟨g, 0, none⟩), .int .i64 i] w (Wrote g (xs ++ encB (encI i)) w) := by
  have hx := numberOf_any i h1 h2
  have hy := num_any g (encI i) (encI_lt h1 h2) xs
  go_enter Try.func20, Try.ntmps20
  go_wp2_with (first
    | (go_at_call 31; (with_reducible refine (hx _).mono ?_); rintro e w' ⟨rfl, rfl⟩)
    | (go_at_call 19; (with_reducible refine (hy _ hw hl).mono ?_); rintro e w' ⟨rfl, hb, hw'⟩))
  go_end0
  exact ⟨rfl, hb, hw'⟩
theorem flag_any (g : Nat) (f : Bool) (xs : List UInt8) (w : World) (hw : Wr w g xs) (hl : xs.length + 10 ≤ 140737488355328) :
    Calls Try.prog 21 #[.pointer (some ⟨g, 0, none⟩), .bool f] w (Wrote g (xs ++ encB (bit f)) w) := by
  have h0 := num_any g 0 (by unfold U64; omega) xs w hw hl
  have h1 := num_any g 1 (by unfold U64; omega) xs w hw hl
  rw [show ((0 : Nat) : Int) = 0 from rfl] at h0
  rw [show ((1 : Nat) : Int) = 1 from rfl] at h1
  cases f
  · go_enter Try.func21, Try.ntmps21
    go_wp2_with (go_at_call 19; (with_reducible refine h0.mono ?_); rintro e w' ⟨rfl, hb, hw'⟩)
    go_end0
    exact ⟨rfl, hb, hw'⟩
  · go_enter Try.func21, Try.ntmps21
    go_wp2_with (go_at_call 19; (with_reducible refine h1.mono ?_); rintro e w' ⟨rfl, hb, hw'⟩)
    go_end0
    exact ⟨rfl, hb, hw'⟩
theorem str_bv (s : ByteArray) : Lib.strCells s = bv (tl s) := by simp [Lib.strCells, bv, tl]
set_option maxHeartbeats 400000 in
theorem text_any (g : Nat) (s : ByteArray) (xs : List UInt8) (w : World) (hw : Wr w g xs) (hl : xs.length + 10 + s.size ≤ 140737488355328) :
    Calls Try.prog 22 #[.pointer (some ⟨g, 0, none⟩), .string s] w (Wrote g (xs ++ (encB s.size ++ tl s)) w) := by
  have hu : U64 s.size := by unfold U64; omega
  have hy := num_any g s.size hu xs w hw (by omega)
  have hel := encB_len hu
  obtain ⟨i0, hi, hz0, hz1, hz2, _⟩ := byteE
  go_enter Try.func22, Try.ntmps22
  go_wp2_with (first
    | (go_at_call 19; (with_reducible refine hy.mono ?_); rintro e w1 ⟨rfl, hb, v, hblk, hown⟩
       have hg := hblk.lt
       have hxl : (xs ++ encB s.size).length = xs.length + (encB s.size).length := List.length_append
       rw [hxl] at hown
       clear hxl
       have hc : w1.cell? ⟨g, 0, none⟩ = some v := hblk.cell 0
       have hf : w1.frozen? ⟨g, 0, none⟩ = false := hblk.frozen 0)
    | (at_builtin
       refine Lib.wpList_append_own_string _ rfl (.tmp 15) (.tmp 16) _ _ rfl (g + 1) 5 i0 Try.underlying27 Try.underlying9 hi hz0 hz1 hz2 v (xs.length + (encB s.size).length) (bv (xs ++ encB s.size)) rfl hown s rfl (by unfold maxLen; omega) (by omega) hg ?_
       intro v1 w2 hown1 hg1 hat1
       obtain ⟨A1, c1, rfl, hc1⟩ := own_slice hown1
       have hblk1 := hblk.grown hg1 (fun e => by have := (hown.lt _ e.symm).1; omega)
       have hd1 : w2.cell? ⟨g, 0, none⟩ = some v := hblk1.cell 0
       have hf1 : w2.frozen? ⟨g, 0, none⟩ = false := hblk1.frozen 0))
  go_end0
  refine ⟨rfl, below_put0 hb hg hown hg1, wr_put hblk1 hown1 ?_ ?_⟩
  · rw [str_bv, ← List.append_assoc, bv_append (xs ++ encB s.size)]
  · simp only [List.length_append, tl_len]; omega
theorem bytes_any (g : Nat) (xs : List UInt8) (w : World) (hw : Wr w g xs) (hl : xs.length ≤ 140737488355328) :
    Calls Try.prog 10 #[.pointer (some ⟨g, 0, none⟩)] w (ByteMade xs w) := by
  obtain ⟨v, hblk, hown⟩ := hw
  obtain ⟨A, c, rfl, hc⟩ := own_slice hown
  have hx := clone_any A xs xs.length c w.heap.size w rfl hl (Nat.le_refl _) (Sl.of_own hown)
  have hc : w.cell? ⟨g, 0, none⟩ = some (.slice A xs.length c) := hblk.cell 0
  go_enter Try.func10, Try.ntmps10
  go_wp2_with (go_at_call 23; (with_reducible refine hx.mono ?_); rintro e w' ⟨A', c', rfl, hc', hs', hb'⟩)
  go_ret
  exact ⟨A', c', rfl, hc', hs', hb'⟩
theorem bytes_nil (w : World) : Calls Try.prog 10 #[.pointer none] w fun e w' => e = .returned (.slice none 0 0) ∧ w = w' := by
  go_enter Try.func10, Try.ntmps10
  go_wp2
  go_ret
  exact ⟨rfl, rfl⟩
theorem int_nil (i : Int) (h1 : -9223372036854775808 ≤ i) (h2 : i ≤ 9223372036854775807) (w : World) : Calls Try.prog 20 #[.pointer none, .int .i64 i] w fun e w' => e = .returned (.tuple #[]) ∧ w = w' := by
  have hx := numberOf_any i h1 h2
  go_enter Try.func20, Try.ntmps20
  go_wp2_with (first
    | (go_at_call 31; (with_reducible refine (hx _).mono ?_); rintro e w' ⟨rfl, rfl⟩)
    | (go_at_call 19; (with_reducible refine (num_nil _ _).mono ?_); rintro e w' ⟨rfl, rfl⟩))
  go_end0
  exact ⟨rfl, rfl⟩
theorem flag_nil (f : Bool) (w : World) : Calls Try.prog 21 #[.pointer none, .bool f] w fun e w' => e = .returned (.tuple #[]) ∧ w = w' := by
  cases f
  all_goals
    go_enter Try.func21, Try.ntmps21
    go_wp2_with (go_at_call 19; (with_reducible refine (num_nil _ _).mono ?_); rintro e w' ⟨rfl, rfl⟩)
    go_end0
    exact ⟨rfl, rfl⟩
theorem text_nil (s : ByteArray) (w : World) : Calls Try.prog 22 #[.pointer none, .string s] w fun e w' => e = .returned (.tuple #[]) ∧ w = w' := by
  go_enter Try.func22, Try.ntmps22
  go_wp2
  exact bodyPost_ret (results_none rfl _ _ _) rfl ⟨rfl, rfl⟩

/-! ### parts in memory -/
def pcs (p : Part) : List Value := [.int .i64 p.kind, .int .u64 p.n, .int .i64 p.i, .bool p.f, .string p.t, .int .i64 p.low, .int .i64 p.high, .int .i64 p.most]
def pcl (l : List Part) : List Value := l.flatMap pcs
theorem pcl_append (l m : List Part) : pcl (l ++ m) = pcl l ++ pcl m := by simp [pcl]
theorem pcl_len (l : List Part) : (pcl l).length = l.length * 8 := by
  induction l with
  | nil => rfl
  | cons p r ih =>
    have e : pcl (p :: r) = pcs p ++ pcl r := by simp [pcl]
    rw [e, List.length_append, ih]
    simp [pcs]
    omega
theorem pcl_at (l : List Part) (k j : Nat) (hk : k < l.length) (hj : j < 8) : (pcl l)[k * 8 + j]? = (pcs l[k])[j]? := by
  induction l generalizing k with
  | nil => simp at hk
  | cons p r ih =>
    have e : pcl (p :: r) = pcs p ++ pcl r := by simp [pcl]
    rw [e]
    cases k with
    | zero =>
      rw [List.getElem?_append_left (by simp [pcs]; omega)]
      simp
    | succ k =>
      rw [List.getElem?_append_right (by simp [pcs]; omega)]
      have h1 := ih k (by simpa using hk)
      have h2 : (k + 1) * 8 + j - (pcs p).length = k * 8 + j := by simp [pcs]; omega
      rw [h2, h1]
      rfl
section
variable {w : World} {B : Nat} {A : Option Addr} {l : List Part}
theorem Sl.part {k : Nat} (h : Sl w B A (pcl l)) (hk : k < l.length) : ∃ ad, A = some ad ∧ ad.block < B ∧
    w.cell? (ad.add (k * 8)) = some (.int .i64 l[k].kind) ∧ w.cell? ⟨(ad.add (k * 8)).block, (ad.add (k * 8)).off + 1, none⟩ = some (.int .u64 l[k].n) ∧ w.cell? ⟨(ad.add (k * 8)).block, (ad.add (k * 8)).off + 2, none⟩ = some (.int .i64 l[k].i) ∧ w.cell? ⟨(ad.add (k * 8)).block, (ad.add (k * 8)).off + 3, none⟩ = some (.bool l[k].f) ∧
    w.cell? ⟨(ad.add (k * 8)).block, (ad.add (k * 8)).off + 4, none⟩ = some (.string l[k].t) ∧ w.cell? ⟨(ad.add (k * 8)).block, (ad.add (k * 8)).off + 5, none⟩ = some (.int .i64 l[k].low) ∧ w.cell? ⟨(ad.add (k * 8)).block, (ad.add (k * 8)).off + 6, none⟩ = some (.int .i64 l[k].high) ∧ w.cell? ⟨(ad.add (k * 8)).block, (ad.add (k * 8)).off + 7, none⟩ = some (.int .i64 l[k].most) := by
  have hat : ∀ j, j < 8 → (pcl l)[k * 8 + j]? = (pcs l[k])[j]? := fun j hj => pcl_at l k j hk hj
  obtain ⟨ad, rfl, hb, h0⟩ := h (k * 8 + 0) _ (hat 0 (by omega))
  refine ⟨ad, rfl, hb, by simpa using h0, ?_⟩
  have hc : ∀ j u, j < 8 → (pcs l[k])[j]? = some u → w.cell? ((ad.add (k * 8)).add j) = some u := fun j u hj hu => by
    obtain ⟨ad', e, _, hc⟩ := h (k * 8 + j) u ((hat j hj).trans hu)
    injection e with e
    subst e
    rw [add_two]
    exact hc
  exact ⟨hc 1 _ (by omega) rfl, hc 2 _ (by omega) rfl, hc 3 _ (by omega) rfl, hc 4 _ (by omega) rfl, hc 5 _ (by omega) rfl, hc 6 _ (by omega) rfl, hc 7 _ (by omega) rfl⟩
end

/-! ### many parts -/
set_option maxHeartbeats 1000000 in
theorem write_any (g : Nat) (A : Option Addr) (l : List Part) (c B : Nat) (w : World) (hw : Wr w g []) (hB : B ≤ g) (hs : Sl w B A (pcl l)) (hok : ∀ q ∈ l, Ok q) (hlen : ∀ k, k ≤ l.length → (encL (l.take k)).length + 20 ≤ 140737488355000)
    (hll : l.length ≤ 140737488355328) (htx : ∀ k (h : k < l.length), (encL (l.take k)).length + 20 + l[k].t.size ≤ 140737488355000) :
    Calls Try.prog 8 #[.pointer (some ⟨g, 0, none⟩), .slice A l.length c] w (Wrote g (encL l) w) := by
  go_enter Try.func8, Try.ntmps8
  go_wp2
  go_loopw [4] (fun i wr => ∃ k : Nat, k ≤ l.length ∧ i = .int .i64 k ∧ Wr wr g (encL (l.take k)) ∧ Below g w wr) (fun i _ => l.length - (intOf i).toNat)
  case atStart => exact ⟨0, Nat.zero_le _, rfl, by simpa [encL] using hw, Below.refl _ _⟩
  case round =>
    obtain ⟨k, hk, rfl, hwr, hb⟩ := hrel
    by_cases hlt : k < l.length
    · obtain ⟨ad, rfl, had, f0, f1, f2, f3, f4, -, -, -⟩ := Sl.part ((hs.below (hb.mono hB))) hlt
      obtain ⟨ho1, ho2, ho3⟩ := hok l[k] (List.getElem_mem hlt)
      have hle := hlen k hk
      have hte := htx k hlt
      have HS := Lib.hid (encL_snoc l k hlt)
      generalize hp : l[k] = p at *
      clear hp hlen htx hok hs hw
      by_cases k0 : p.kind = 0
      · rw [k0] at f0
        have hE : encP p = encB p.n := by unfold encP; rw [if_pos k0]
        have HE := Lib.hid hE
        clear hE k0
        go_wp2_with (fail)
        refine (num_any g p.n ho1 _ _ hwr (by omega)).mono ?_
        rintro e w1 ⟨rfl, hb1, hw1⟩
        go_wp2_with (fail)
        go_roundw
        case rel => exact ⟨k + 1, by omega, by go_num, by rw [HS.out, HE.out]; exact hw1, hb.trans hb1⟩
        case measure => simp [intOf]; omega
      have n0 : (p.kind == 0) = false := by simpa using k0
      by_cases k1 : p.kind = 1
      · rw [k1] at f0
        have hE : encP p = encB (encI p.i) := by unfold encP; rw [if_neg k0, if_pos k1]
        have HE := Lib.hid hE
        clear hE k0 k1 n0
        go_wp2_with (fail)
        refine (int_any g p.i ho2 ho3 _ _ hwr (by omega)).mono ?_
        rintro e w1 ⟨rfl, hb1, hw1⟩
        go_wp2_with (fail)
        go_roundw
        case rel => exact ⟨k + 1, by omega, by go_num, by rw [HS.out, HE.out]; exact hw1, hb.trans hb1⟩
        case measure => simp [intOf]; omega
      have n1 : (p.kind == 1) = false := by simpa using k1
      by_cases k2 : p.kind = 2
      · rw [k2] at f0
        have hE : encP p = encB (bit p.f) := by unfold encP; rw [if_neg k0, if_neg k1, if_pos k2]
        have HE := Lib.hid hE
        clear hE k0 k1 n0 n1 k2
        go_wp2_with (fail)
        refine (flag_any g p.f _ _ hwr (by omega)).mono ?_
        rintro e w1 ⟨rfl, hb1, hw1⟩
        go_wp2_with (fail)
        go_roundw
        case rel => exact ⟨k + 1, by omega, by go_num, by rw [HS.out, HE.out]; exact hw1, hb.trans hb1⟩
        case measure => simp [intOf]; omega
      have n2 : (p.kind == 2) = false := by simpa using k2
      have hE : encP p = encB p.t.size ++ tl p.t := by unfold encP; rw [if_neg k0, if_neg k1, if_neg k2]
      have HE := Lib.hid hE
      clear hE k0 k1 k2
      go_wp2_with (fail)
      refine (text_any g p.t _ _ hwr (by omega)).mono ?_
      rintro e w1 ⟨rfl, hb1, hw1⟩
      go_wp2_with (fail)
      go_roundw
      case rel => exact ⟨k + 1, by omega, by go_num, by rw [HS.out, HE.out]; exact hw1, hb.trans hb1⟩
      case measure => simp [intOf]; omega
    · go_wp2
      go_end0
      have e : l.take k = l := List.take_of_length_le (by omega)
      rw [e] at hwr
      exact ⟨rfl, hb, hwr⟩
end Go.Proofs.Ytmaebebckbfjpaa.code
