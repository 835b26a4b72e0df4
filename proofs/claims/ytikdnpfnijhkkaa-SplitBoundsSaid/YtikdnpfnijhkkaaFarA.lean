/-
  The contract of split.around.
-/
import Derived.Test.YtikdnpfnijhkkaaFarC
namespace Go.Proofs.Ytikdnpfnijhkkaa.far
open Go.RowKit law bytes only flat hit spl Go.Sort Go.Shelf
set_option linter.unusedVariables false

theorem cf_cases (y x : Hit) : (lt y x = true ∧ lt x y = false ∧ cf y x = -1) ∨ (lt y x = false ∧ lt x y = true ∧ cf y x = 1) ∨ (lt y x = false ∧ lt x y = false ∧ cf y x = 0) := by
  unfold cf
  cases h1 : lt y x
  · cases h2 : lt x y
    · exact .inr (.inr ⟨rfl, rfl, rfl⟩)
    · exact .inr (.inl ⟨rfl, rfl, rfl⟩)
  · exact .inl ⟨rfl, lt_asymm h1, rfl⟩
theorem filter_yes {p : Hit → Bool} {l : List Hit} {k : Nat} (hk : k < l.length) (h : p l[k] = true) : (l.take (k + 1)).filter p = (l.take k).filter p ++ [l[k]] := by
  rw [List.take_succ_eq_append_getElem hk, List.filter_append]
  simp [h]
theorem filter_no {p : Hit → Bool} {l : List Hit} {k : Nat} (hk : k < l.length) (h : p l[k] = false) : (l.take (k + 1)).filter p = (l.take k).filter p := by
  rw [List.take_succ_eq_append_getElem hk, List.filter_append]
  simp [h]
theorem filter_size (p : Hit → Bool) (l : List Hit) (k : Nat) : ((l.take k).filter p).length ≤ k := by
  have h1 := List.length_filter_le p (l.take k)
  rw [List.length_take] at h1
  omega
set_option maxRecDepth 100000 in
set_option maxHeartbeats 3200000 in
theorem around_any (A : Option Addr) (l : List Hit) (c B : Nat) (x : Hit) (w : World) (hm : l.length * 16 ≤ 70368744177664) (hB : B ≤ w.heap.size) (hs : Sl w B A (fv l)) :
    Calls Try.prog 15 #[.slice A l.length c, .agg #[.int .i64 x.1, .int .i64 x.2]] w (Rows2 (lesser x l) (greater x l) w) := by
  obtain ⟨W0, hW0⟩ : ∃ W, W = w.alloc (.cells #[.int .i64 x.1, .int .i64 x.2] 26) := ⟨_, rfl⟩
  have hz0 : W0.heap.size = w.heap.size + 1 := by rw [hW0]; simp
  have hb0 : Below w.heap.size w W0 := by rw [hW0]; exact (Below.refl _ w).alloc (Nat.le_refl _) _
  have hbx : Blk W0 w.heap.size 26 #[.int .i64 x.1, .int .i64 x.2] := by rw [hW0]; exact Blk.new w _ _
  have HN : Hid (∀ W, Below (w.heap.size + 1) W0 W → W.cell? ⟨w.heap.size, 0, none⟩ = some (.int .i64 x.1) ∧ W.cell? ⟨w.heap.size, 1, none⟩ = some (.int .i64 x.2)) := Lib.hid fun W hW =>
    ⟨(hbx.below hW (by omega)).cell 0, (hbx.below hW (by omega)).cell 1⟩
  have HS : Hid (∀ W, Below (w.heap.size + 1) W0 W → Sl W (w.heap.size + 1) A (fv l)) := Lib.hid fun W hW => ((hs.below (hb0.mono hB)).more (Nat.le_succ_of_le hB)).below hW
  have HE : Hid (∀ A1 A2 n1 n2 c1 c2 wr, Two (w.heap.size + 1) 26 wr (.slice A1 n1 c1) (.slice A2 n2 c2) n1 n2 (lesser x l) (greater x l) → Below (w.heap.size + 1) W0 wr → Rows2 (lesser x l) (greater x l) w (.returned (.tuple #[.slice A1 n1 c1, .slice A2 n2 c2])) wr) := Lib.hid fun A1 A2 n1 n2 c1 c2 wr h hb =>
    h.rows (hb0.trans (hb.mono (Nat.le_succ _)))
  have HZ : Hid (W0.heap.size = w.heap.size + 1) := Lib.hid hz0
  have HO : Hid (∀ y W, Calls Try.prog 18 #[.agg #[.int .i64 y.1, .int .i64 y.2], .agg #[.int .i64 x.1, .int .i64 x.2]] W fun e w' => e = .returned (.int .i64 (cf y x)) ∧ Below W.heap.size W w') := Lib.hid fun y W => cmp_any y x W
  obtain ⟨⟨x1, x2⟩, hx⟩ : ∃ x', x' = x := ⟨_, rfl⟩
  rw [← hx] at hW0 HN HO ⊢
  have HX := Lib.hid hx
  clear hs hb0 hbx hz0 hx
  dsimp only at hW0 HN HO ⊢
  go_enter Try.func15, Try.ntmps15
  go_wp2_with (fail)
  rw [← hW0]
  clear hW0
  go_loopg [6, 7, 13] l.length (fun gk s6 s7 s13 wr => ∃ (k n1 n2 c1 c2 : Nat) (A1 A2 : Option Addr), gk = l.length - k ∧ k ≤ l.length ∧ s6 = .slice A1 n1 c1 ∧ s7 = .slice A2 n2 c2 ∧ s13 = .int .i64 k ∧ n1 ≤ k ∧ n2 ≤ k ∧ Two (w.heap.size + 1) 26 wr (.slice A1 n1 c1) (.slice A2 n2 c2) n1 n2 (lesser x (l.take k)) (greater x (l.take k)) ∧ Below (w.heap.size + 1) W0 wr)
  case atStart => exact ⟨0, 0, 0, 0, 0, none, none, rfl, Nat.zero_le _, rfl, rfl, rfl, Nat.zero_le _, Nat.zero_le _, Two.start _ _ _, Below.refl _ _⟩
  case round =>
    obtain ⟨k, n1, n2, c1, c2, A1, A2, rfl, hk, rfl, rfl, rfl, hn1, hn2, htw, hb⟩ := hrel
    by_cases hlt : k < l.length
    · obtain ⟨b, o, rfl, hb1, hc0, hc1⟩ := Sl.farAt (HS.out wr hb) hlt
      obtain ⟨⟨y1, y2⟩, hy⟩ : ∃ y, l[k] = y := ⟨_, rfl⟩
      rw [hy] at hc0 hc1
      dsimp only at hc0 hc1
      have i1 : (k : Int) < (l.length : Int) := by omega
      have hsz : w.heap.size + 1 ≤ wr.heap.size := by have := hb.size; have := HZ.out; omega
      obtain ⟨V, hV⟩ : ∃ V, V = wr.alloc (.cells #[.int .i64 y1, .int .i64 y2] 26) := ⟨_, rfl⟩
      have hVz : V.heap.size = wr.heap.size + 1 := by rw [hV]; simp
      have hVb : Below (w.heap.size + 1) W0 V := by rw [hV]; exact hb.alloc hsz _
      have hVk : Blk V wr.heap.size 26 #[.int .i64 y1, .int .i64 y2] := by rw [hV]; exact Blk.new wr _ _
      have hVt : Two (w.heap.size + 1) 26 V (.slice A1 n1 c1) (.slice A2 n2 c2) n1 n2 (lesser x (l.take k)) (greater x (l.take k)) := by rw [hV]; exact htw.alloc _
      obtain ⟨f0, f1⟩ := HN.out V hVb
      rw [hV] at f0 f1
      have HV : Hid (∀ w2, Below V.heap.size V w2 → w2.cell? ⟨wr.heap.size, 0, none⟩ = some (.int .i64 y1) ∧ w2.cell? ⟨wr.heap.size, 1, none⟩ = some (.int .i64 y2) ∧ Below (w.heap.size + 1) W0 w2 ∧ w.heap.size + 1 ≤ w2.heap.size ∧ Two (w.heap.size + 1) 26 w2 (.slice A1 n1 c1) (.slice A2 n2 c2) n1 n2 (lesser x (l.take k)) (greater x (l.take k))) := Lib.hid fun w2 h2 =>
        ⟨(hVk.below h2 (by omega)).cell 0, (hVk.below h2 (by omega)).cell 1, hVb.trans (h2.mono (by omega)), by have := h2.size; omega, hVt.on h2⟩
      have HC := Lib.hid (HO.out (y1, y2) V)
      have HY := Lib.hid hy
      have HV2 := Lib.hid hV
      clear hy htw hb hVt hVb hVk hVz
      go_wp2_with (fail)
      rw [← HV2.out]
      clear hV HV2 hc0 hc1
      refine HC.out.mono ?_
      rintro e w2 ⟨rfl, h2⟩
      obtain ⟨p0, p1, hb2, hsz2, htw2⟩ := HV.out w2 h2
      clear HC HV h2 f0 f1
      rcases cf_cases (y1, y2) x with ⟨q1, q2, q3⟩ | ⟨q1, q2, q3⟩ | ⟨q1, q2, q3⟩
      · have HT : Hid (lesser x (l.take (k + 1)) = lesser x (l.take k) ++ [(y1, y2)] ∧ greater x (l.take (k + 1)) = greater x (l.take k)) := Lib.hid ⟨by
          unfold lesser; rw [filter_yes hlt (by rw [HY.out]; exact q1), HY.out], by
          unfold greater; rw [filter_no hlt (by rw [HY.out]; exact q2)]⟩
        rw [HX.out, q3]
        have ho := htw2.one
        clear q1 q2 q3 HY
        go_wp2_with (at_builtin
                     refine wpList_append_slk _ rfl (.tmp 22) (.tmp 24) _ rfl (w.heap.size + 1) 26 2 16 Try.underlying29 farE (by omega) (.slice A1 n1 c1) n1 (fv (lesser x (l.take k))) rfl (World.ownsRow.alloc (w := w2) ho _) _ _ 1 1 [.int .i64 y1, .int .i64 y2] rfl (Sl.lit w2 _ _) rfl (fc_oneOf _ _) (by omega) (by unfold maxLen; omega) (by simp; omega) ?_
                     intro v4 w4 hown4 hg4 hat4
                     obtain ⟨A4, c4, rfl, hc4⟩ := own_slice hown4)
        go_roundg (l.length - (k + 1))
        case measure => omega
        case rel => exact ⟨k + 1, n1 + 1, n2, c4, c2, A4, A2, rfl, by omega, rfl, rfl, by go_num, by omega, by omega, by rw [HT.out.1, HT.out.2]; exact htw2.more (x := (y1, y2)) _ hown4 hg4 hat4, below_appendK1 hb2 hsz2 _ ho (Nat.le_refl _) hg4⟩
      · have HT : Hid (lesser x (l.take (k + 1)) = lesser x (l.take k) ∧ greater x (l.take (k + 1)) = greater x (l.take k) ++ [(y1, y2)]) := Lib.hid ⟨by
          unfold lesser; rw [filter_no hlt (by rw [HY.out]; exact q1)], by
          unfold greater; rw [filter_yes hlt (by rw [HY.out]; exact q2), HY.out]⟩
        rw [HX.out, q3]
        have ho := htw2.two
        clear q1 q2 q3 HY
        go_wp2_with (at_builtin
                     refine wpList_append_slk _ rfl (.tmp 28) (.tmp 30) _ rfl (w.heap.size + 1) 26 2 16 Try.underlying29 farE (by omega) (.slice A2 n2 c2) n2 (fv (greater x (l.take k))) rfl (World.ownsRow.alloc (w := w2) ho _) _ _ 1 1 [.int .i64 y1, .int .i64 y2] rfl (Sl.lit w2 _ _) rfl (fc_oneOf _ _) (by omega) (by unfold maxLen; omega) (by simp; omega) ?_
                     intro v4 w4 hown4 hg4 hat4
                     obtain ⟨A4, c4, rfl, hc4⟩ := own_slice hown4)
        go_roundg (l.length - (k + 1))
        case measure => omega
        case rel => exact ⟨k + 1, n1, n2 + 1, c1, c4, A1, A4, rfl, by omega, rfl, rfl, by go_num, by omega, by omega, by rw [HT.out.1, HT.out.2]; exact (htw2.swap.more (x := (y1, y2)) _ hown4 hg4 hat4).swap, below_appendK1 hb2 hsz2 _ ho (Nat.le_refl _) hg4⟩
      · have HT : Hid (lesser x (l.take (k + 1)) = lesser x (l.take k) ∧ greater x (l.take (k + 1)) = greater x (l.take k)) := Lib.hid ⟨by
          unfold lesser; rw [filter_no hlt (by rw [HY.out]; exact q1)], by
          unfold greater; rw [filter_no hlt (by rw [HY.out]; exact q2)]⟩
        rw [HX.out, q3]
        clear q1 q2 q3 HY
        go_wp2_with (fail)
        go_roundg (l.length - (k + 1))
        case measure => omega
        case rel => exact ⟨k + 1, n1, n2, c1, c2, A1, A2, rfl, by omega, rfl, rfl, by go_num, by omega, by omega, by rw [HT.out.1, HT.out.2]; exact htw2, hb2⟩
    · obtain rfl : k = l.length := by omega
      have i1 : ¬ (l.length : Int) < (l.length : Int) := by omega
      have HF : Hid (Rows2 (lesser x l) (greater x l) w (.returned (.tuple #[.slice A1 n1 c1, .slice A2 n2 c2])) wr) := Lib.hid (HE.out _ _ _ _ _ _ _ (by rw [List.take_length] at htw; exact htw) hb)
      clear htw hb
      go_wp2_with (fail)
      refine bodyPost_ret (v := .tuple #[.slice A1 n1 c1, .slice A2 n2 c2]) (by simp [results, Try.results15, go_sem]) rfl ?_
      rw [HX.out]
      exact HF.out
end Go.Proofs.Ytikdnpfnijhkkaa.far
