/-
  The contract of split.middle at longer rows, as soon as Nth does as told at shorter rows.
-/
import Derived.Test.YtikdnpfnijhkkaaFarM
namespace Go.Proofs.Ytikdnpfnijhkkaa.far
open Go.RowKit law bytes only flat hit spl Go.Sort Go.Shelf
set_option linter.unusedVariables false

theorem fv_drop (l : List Hit) : ∀ k, (fv l).drop (k * 2) = fv (l.drop k) := by
  induction l with
  | nil => intro k; simp [fv]
  | cons x t ih =>
    intro k
    cases k with
    | zero => simp
    | succ k =>
      have e : fv (x :: t) = fc x ++ fv t := rfl
      rw [e, show (k + 1) * 2 = (fc x).length + k * 2 by rw [fc_len]; omega, List.drop_append, List.drop_eq_nil_of_le (by omega), List.nil_append, show (fc x).length + k * 2 - (fc x).length = k * 2 by omega, ih]
      rfl
theorem fv_take2 (l : List Hit) : ∀ k, (fv l).take (k * 2) = fv (l.take k) := by
  induction l with
  | nil => intro k; simp [fv]
  | cons x t ih =>
    intro k
    cases k with
    | zero => simp [fv]
    | succ k =>
      have e : fv (x :: t) = fc x ++ fv t := rfl
      have e2 : fv ((x :: t).take (k + 1)) = fc x ++ fv (t.take k) := rfl
      rw [e, e2, show (k + 1) * 2 = (fc x).length + k * 2 by rw [fc_len]; omega, List.take_append, List.take_of_length_le (by omega), show (fc x).length + k * 2 - (fc x).length = k * 2 by omega, ih]
/-- a part of a row -/
theorem Sl.part {w : World} {B b o : Nat} {l : List Hit} (h : Sl w B (some ⟨b, o, none⟩) (fv l)) (k n : Nat) : Sl w B (some ⟨b, o + k * 2, none⟩) (fv ((l.drop k).take n)) := by
  have h1 := h.drop (k * 2)
  have h2 := h1.take (n * 2)
  rw [fv_drop, fv_take2] at h2
  have e : (Option.map (fun x => Addr.add x (k * 2)) (some (⟨b, o, none⟩ : Addr))) = some ⟨b, o + k * 2, none⟩ := by
    simp only [Option.map_some, Addr.add]
    split
    · rename_i h0; rw [h0]; simp
    · rfl
  rw [e] at h2
  exact h2
set_option maxRecDepth 100000 in
set_option maxHeartbeats 3200000 in
theorem mid_large (l : List Hit) (h5 : 5 < l.length) (HP : ∀ m : List Hit, m.length < l.length → NthC m) : MidC l := by
  intro A c B w hm hB hc hs
  obtain ⟨b, o, rfl, -, -⟩ := Sl.far hs (by omega)
  obtain ⟨W0, hW0⟩ : ∃ W, W = w.alloc (.cells #[.int .i64 0, .int .i64 0] 26) := ⟨_, rfl⟩
  have hz0 : W0.heap.size = w.heap.size + 1 := by rw [hW0]; simp
  have hb0 : Below w.heap.size w W0 := by rw [hW0]; exact (Below.refl _ w).alloc (Nat.le_refl _) _
  have hbx : Blk W0 w.heap.size 26 #[.int .i64 0, .int .i64 0] := by rw [hW0]; exact Blk.new w _ _
  have HW : Hid (∀ W, Below (w.heap.size + 1) W0 W → Blk W w.heap.size 26 #[.int .i64 0, .int .i64 0] ∧ Sl W (w.heap.size + 1) (some ⟨b, o, none⟩) (fv l) ∧ Below w.heap.size w W ∧ w.heap.size + 1 ≤ W.heap.size) := Lib.hid fun W hW =>
    ⟨hbx.below hW (by omega), ((hs.below (hb0.mono hB)).more (by omega)).below hW, hb0.trans (hW.mono (by omega)), by have := hW.size; omega⟩
  have HM : Hid (∀ (a n : Nat) (W : World), 0 < n → n ≤ 5 → a + n ≤ l.length → Below (w.heap.size + 1) W0 W → Calls Try.prog 14 #[.slice (some ⟨b, o + a * 2, none⟩) n (c - a)] W (Mid l W)) := Lib.hid fun a n W h0 h1 h2 hW => by
    have hl : ((l.drop a).take n).length = n := by simp; omega
    have h := mid_small ((l.drop a).take n) (by omega) (by omega) (some ⟨b, o + a * 2, none⟩) (c - a) (w.heap.size + 1) W (by omega) (HW.out W hW).2.2.2 (by omega) (Sl.part (HW.out W hW).2.1 a n)
    rw [hl] at h
    exact h.mono fun e w' ⟨x, hx, he, hb⟩ => ⟨x, List.mem_of_mem_drop (List.mem_of_mem_take hx), he, hb⟩
  have HQ : Hid (∀ (m : List Hit) (j : Nat) (A1 : Option Addr) (c1 : Nat) (W : World), m.length = j → 0 < j → j < l.length → j ≤ c1 → (∀ x ∈ m, x ∈ l) → Below (w.heap.size + 1) W0 W → Sl W W.heap.size A1 (fv m) → Calls Try.prog 7 #[.slice A1 j c1, .int .i64 ((j : Int) / 2)] W fun e w' => ∃ x ∈ l, e = .returned (.tuple #[.agg #[.int .i64 x.1, .int .i64 x.2], .bool true]) ∧ Below W.heap.size W w') := Lib.hid fun m j A1 c1 W hj h0 h1 h2 hx hW hs1 => by
    subst hj
    have h := HP m h1 A1 c1 _ ((m.length : Int) / 2) W (by omega) (Nat.le_refl _) h2 hs1
    refine h.mono ?_
    rintro e w' ⟨x, ok, he, ho, hb⟩
    obtain ⟨y, hy⟩ := kth_some (l := m) (k := m.length / 2) (by omega)
    rw [show ((m.length : Int) / 2) = ((m.length / 2 : Nat) : Int) by omega, nth_in, hy] at ho
    obtain ⟨rfl, rfl⟩ := Prod.mk.inj ho
    exact ⟨_, hx _ (kth_mem hy), he, hb⟩
  have d5 : decide ((l.length : Int) ≤ 5) = false := decide_eq_false (by omega)
  have d6 : ¬ ((l.length : Int) ≤ 5) := by omega
  have HZ : Hid (W0.heap.size = w.heap.size + 1) := Lib.hid hz0
  clear hs hz0 hb0 hbx HP
  go_enter Try.func14, Try.ntmps14
  go_wp2_with (fail)
  rw [← hW0]
  clear hW0
  go_loopg [4, 5] l.length (fun gk s4 s5 wr => ∃ (j a c1 : Nat) (A1 : Option Addr) (m : List Hit), gk = l.length - a ∧ a = 5 * j ∧ a < l.length + 5 ∧ s4 = .slice A1 j c1 ∧ s5 = .int .i64 a ∧ m.length = j ∧ (∀ x ∈ m, x ∈ l) ∧ wr.ownsRow (w.heap.size + 1) 26 2 (.slice A1 j c1) j (fv m) ∧ Below (w.heap.size + 1) W0 wr)
  case atStart => exact ⟨0, 0, 0, none, [], rfl, rfl, by omega, rfl, rfl, rfl, by simp, World.ownsRow_nil _ _ _ _, Below.refl _ _⟩
  case round =>
    obtain ⟨j, a, c1, A1, m, rfl, haj, hal, rfl, rfl, hmj, hmem, hown, hb⟩ := hrel
    have HAJ := Lib.hid haj
    have HMJ := Lib.hid hmj
    have HMEM := Lib.hid hmem
    have hjl : j < l.length := by omega
    clear haj hmj hmem
    by_cases hlt : a < l.length
    · obtain ⟨h, hh⟩ : ∃ h, h = min (a + 5) l.length := ⟨_, rfl⟩
      have hmin : min ((a : Int) + 5) (l.length : Int) = (h : Int) := by omega
      have q1 : (a : Int) ≤ (h : Int) := by omega
      have q2 : (h : Int) ≤ (c : Int) := by omega
      have q3 : a ≤ h := by omega
      have q4 : h ≤ c := by omega
      have i1 : (a : Int) < (l.length : Int) := by omega
      have HC := Lib.hid (HM.out a (h - a) wr (by omega) (by omega) (by omega) hb)
      have hwr := (HW.out wr hb).2.2.2
      have HH : Hid (0 < h - a) := Lib.hid (by omega)
      have HON : Hid (∀ w2, Below wr.heap.size wr w2 → w2.ownsRow (w.heap.size + 1) 26 2 (.slice A1 j c1) j (fv m) ∧ Below (w.heap.size + 1) W0 w2 ∧ w.heap.size + 1 ≤ w2.heap.size) := Lib.hid fun w2 h2 =>
        ⟨own_below hown h2 (Nat.le_refl _), hb.trans (h2.mono hwr), Nat.le_trans hwr h2.size⟩
      clear hh hown hb hwr
      go_wp2_with (fail)
      refine HC.out.mono ?_
      rintro e w2 ⟨⟨x, y⟩, hx, rfl, h2⟩
      obtain ⟨ho, hb2, hsz2⟩ := HON.out w2 h2
      have HX := Lib.hid hx
      clear HC HON h2 hx
      go_wp2_with (at_builtin
                   refine wpList_append_slk _ rfl (.tmp 27) (.tmp 37) _ rfl (w.heap.size + 1) 26 2 16 Try.underlying29 farE (by omega) (.slice A1 j c1) j (fv m) rfl (World.ownsRow.alloc (w := w2) ho _) _ _ 1 1 [.int .i64 x, .int .i64 y] rfl (Sl.lit w2 _ _) rfl (fc_oneOf _ _) (by omega) (by unfold maxLen; omega) (by simp; omega) ?_
                   intro v4 w4 hown4 hg4 hat4
                   obtain ⟨A4, c4, rfl, hc4⟩ := own_slice hown4)
      go_roundg (l.length - (a + 5))
      case measure => omega
      case rel => exact ⟨j + 1, a + 5, c4, A4, m ++ [(x, y)], rfl, by have := HAJ.out; omega, by omega, rfl, by go_num, by simp [HMJ.out], fun z hz => by
          rcases List.mem_append.1 hz with hz | hz
          · exact HMEM.out z hz
          · rw [List.mem_singleton.1 hz]; exact HX.out, by rw [fv_snoc]; exact hown4, below_appendK1 hb2 hsz2 _ ho (Nat.le_refl _) hg4⟩
    · have i1 : ¬ (a : Int) < (l.length : Int) := by omega
      have hj0 : 0 < j := by have := HAJ.out; omega
      have HC := Lib.hid (HQ.out m j A1 c1 wr HMJ.out hj0 hjl (own_cap2 hown) HMEM.out hb (Sl.of_ownK hown))
      have HON : Hid (∀ w2, Below wr.heap.size wr w2 → Below (w.heap.size + 1) W0 w2) := Lib.hid fun w2 h2 => hb.trans (h2.mono (HW.out wr hb).2.2.2)
      clear hown hb HQ HM
      go_wp2_with (fail)
      refine HC.out.mono ?_
      rintro e w2 ⟨⟨x, y⟩, hx, rfl, h2⟩
      obtain ⟨hbk, -, hbw, hsz⟩ := HW.out w2 (HON.out w2 h2)
      have hbk1 : Blk (w2.alloc (.cells #[.int .i64 x, .int .i64 y] 26)) w.heap.size 26 #[.int .i64 0, .int .i64 0] := hbk.alloc _
      have hbw1 : Below w.heap.size w (w2.alloc (.cells #[.int .i64 x, .int .i64 y] 26)) := hbw.alloc hbw.size _
      have e0 : (w2.alloc (.cells #[.int .i64 x, .int .i64 y] 26)).cell? ⟨w.heap.size, 0, none⟩ = some (.int .i64 0) := hbk1.cell 0
      have e1 : (w2.alloc (.cells #[.int .i64 x, .int .i64 y] 26)).cell? ⟨w.heap.size, 1, none⟩ = some (.int .i64 0) := hbk1.cell 1
      have g0 := hbk1.frozen 0
      have g1 := hbk1.frozen 1
      have HX := Lib.hid hx
      have HB := Lib.hid hbw1
      clear hx hbw hbw1 h2 HC HON HMEM
      go_wp2_with (fail)
      obtain ⟨p0, p1⟩ := put_two hbk1 (.int .i64 x) (.int .i64 y)
      refine bodyPost_ret (v := .agg #[.int .i64 x, .int .i64 y]) (by simp [results, Try.results14, go_sem, p0, p1]) rfl ?_
      exact ⟨(x, y), HX.out, rfl, (HB.out.setCell (Nat.le_refl _) _).setCell (Nat.le_refl _) _⟩
end Go.Proofs.Ytikdnpfnijhkkaa.far
