/-
  The contracts of the document's Nth and Halve.
-/
import Derived.Test.YtikdnpfnijhkkaaFarR
namespace Go.Proofs.Ytikdnpfnijhkkaa.far
open Go.RowKit law bytes only flat hit spl Go.Sort Go.Shelf
set_option linter.unusedVariables false

theorem find_none {p : Hit → Bool} {l : List Hit} {k : Nat} (h : (l.take k).find? p = none) (hk : k < l.length) (hp : p l[k] = false) : (l.take (k + 1)).find? p = none := by
  rw [List.take_succ_eq_append_getElem hk, List.find?_append, h, Option.none_or, List.find?_cons, hp]
  rfl
theorem find_here {p : Hit → Bool} {l : List Hit} {k : Nat} (h : (l.take k).find? p = none) (hk : k < l.length) (hp : p l[k] = true) : l.find? p = some l[k] := by
  have e : l = l.take k ++ l[k] :: l.drop (k + 1) := by rw [← List.drop_eq_getElem_cons hk, List.take_append_drop]
  have e2 : (l.take k ++ l[k] :: l.drop (k + 1)).find? p = some l[k] := by rw [List.find?_append, h, Option.none_or, List.find?_cons, hp]
  rwa [← e] at e2
set_option maxRecDepth 100000 in
set_option maxHeartbeats 3200000 in
theorem rnth_any (A : Option Addr) (l : List Hit) (c B : Nat) (K : Int) (w : World) (hm : l.length * 16 ≤ 70368744177664) (hB : B ≤ w.heap.size) (hs : Sl w B A (fv l)) :
    Calls Try.prog 9 #[.slice A l.length c, .int .i64 K] w (Got (l.find? (isR l K)) w) := by
  obtain ⟨W0, hW0⟩ : ∃ W, W = w.alloc (.cells #[.int .i64 0, .int .i64 0] 31) := ⟨_, rfl⟩
  have hz0 : W0.heap.size = w.heap.size + 1 := by rw [hW0]; simp
  have hb0 : Below w.heap.size w W0 := by rw [hW0]; exact (Below.refl _ w).alloc (Nat.le_refl _) _
  have hbx : Blk W0 w.heap.size 31 #[.int .i64 0, .int .i64 0] := by rw [hW0]; exact Blk.new w _ _
  have HN : Hid (∀ W, Below (w.heap.size + 1) W0 W → Blk W w.heap.size 31 #[.int .i64 0, .int .i64 0] ∧ Sl W (w.heap.size + 1) A (fv l) ∧ Below w.heap.size w W ∧ w.heap.size + 1 ≤ W.heap.size) := Lib.hid fun W hW =>
    ⟨hbx.below hW (by omega), ((hs.below (hb0.mono hB)).more (Nat.le_succ_of_le hB)).below hW, hb0.trans (hW.mono (Nat.le_succ _)), by have := hW.size; omega⟩
  have HR : Hid (∀ y W, Below (w.heap.size + 1) W0 W → Calls Try.prog 16 #[.slice A l.length c, .agg #[.int .i64 y.1, .int .i64 y.2]] W fun e w' => e = .returned (.int .i64 (rank l y)) ∧ Below (w.heap.size + 1) W0 w') := Lib.hid fun y W hW =>
    (rank_any A l c (w.heap.size + 1) y W hm (HN.out W hW).2.2.2 (HN.out W hW).2.1).mono fun e w' ⟨he, h2⟩ => ⟨he, hW.trans (h2.mono (HN.out W hW).2.2.2)⟩
  clear hs hb0 hbx hz0
  go_enter Try.func9, Try.ntmps9
  go_wp2_with (fail)
  rw [← hW0]
  clear hW0
  go_loopg [6] l.length (fun gk s6 wr => ∃ (k : Nat), gk = l.length - k ∧ k ≤ l.length ∧ s6 = .int .i64 k ∧ (l.take k).find? (isR l K) = none ∧ Below (w.heap.size + 1) W0 wr)
  case atStart => exact ⟨0, rfl, Nat.zero_le _, rfl, rfl, Below.refl _ _⟩
  case round =>
    obtain ⟨k, rfl, hk, rfl, hf, hb⟩ := hrel
    by_cases hlt : k < l.length
    · obtain ⟨hbk, hsl, hbw, hsz⟩ := HN.out wr hb
      obtain ⟨b, o, rfl, hb1, hc0, hc1⟩ := Sl.farAt hsl hlt
      have HC := Lib.hid (HR.out l[k] wr hb)
      obtain ⟨⟨y1, y2⟩, hy⟩ : ∃ y, l[k] = y := ⟨_, rfl⟩
      rw [hy] at hc0 hc1 HC
      dsimp only at hc0 hc1 HC
      have i1 : (k : Int) < (l.length : Int) := by omega
      have HF := Lib.hid hf
      have HY := Lib.hid hy
      have HK : Hid (∀ W, Below (w.heap.size + 1) W0 W → W.cell? ⟨b, o + k * 2, none⟩ = some (.int .i64 y1) ∧ W.cell? ⟨b, o + k * 2 + 1, none⟩ = some (.int .i64 y2)) := Lib.hid fun W hW => by
        obtain ⟨b', o', e, _, h0, h1⟩ := Sl.farAt (HN.out W hW).2.1 hlt
        injection e with e
        injection e with e1 e2
        subst e1 e2
        rw [HY.out] at h0 h1
        exact ⟨h0, h1⟩
      clear hf hy hb hbk hsl hbw hsz
      go_wp2_with (fail)
      refine HC.out.mono ?_
      rintro e w2 ⟨rfl, h2⟩
      obtain ⟨hbk, -, hbw, -⟩ := HN.out w2 h2
      obtain ⟨k0, k1⟩ := HK.out w2 h2
      obtain ⟨q, hq⟩ : ∃ q, ((rank l (y1, y2) : Int) == K) = q := ⟨_, rfl⟩
      have HQ : Hid (isR l K l[k] = q) := Lib.hid (by rw [HY.out]; exact hq)
      obtain ⟨r, hr⟩ : ∃ r, rank l (y1, y2) = r := ⟨_, rfl⟩
      rw [hr] at hq ⊢
      have HB := Lib.hid (And.intro h2 hbw)
      clear HC hc0 hc1 HK h2 hbw hr
      cases q with
      | true =>
        have e0 := hbk.cell 0
        have e1 := hbk.cell 1
        have g0 := hbk.frozen 0
        have g1 := hbk.frozen 1
        have HG : Hid (l.find? (isR l K) = some (y1, y2)) := Lib.hid (by rw [find_here HF.out hlt HQ.out, HY.out])
        go_wp2_with (fail)
        obtain ⟨p0, p1⟩ := put_two hbk (.int .i64 y1) (.int .i64 y2)
        refine bodyPost_ret (v := .tuple #[.agg #[.int .i64 y1, .int .i64 y2], .bool true]) (by simp [results, Try.results9, go_sem, p0, p1]) rfl ?_
        exact ⟨(y1, y2), true, rfl, by rw [HG.out]; rfl, (HB.out.2.setCell (Nat.le_refl _) _).setCell (Nat.le_refl _) _⟩
      | false =>
        clear hbk k0 k1
        go_wp2_with (fail)
        go_roundg (l.length - (k + 1))
        case measure => omega
        case rel => exact ⟨k + 1, rfl, by omega, by go_num, find_none HF.out hlt HQ.out, HB.out.1⟩
    · obtain rfl : k = l.length := by omega
      have i1 : ¬ (l.length : Int) < (l.length : Int) := by omega
      obtain ⟨hbk, -, hbw, -⟩ := HN.out wr hb
      have e0 := hbk.cell 0
      have e1 := hbk.cell 1
      have g0 := hbk.frozen 0
      have g1 := hbk.frozen 1
      have HF : Hid (l.find? (isR l K) = none) := Lib.hid (by rw [List.take_length] at hf; exact hf)
      have HB := Lib.hid hbw
      clear hf hb hbw
      go_wp2_with (fail)
      obtain ⟨p0, p1⟩ := put_two hbk (.int .i64 0) (.int .i64 0)
      refine bodyPost_ret (v := .tuple #[.agg #[.int .i64 0, .int .i64 0], .bool false]) (by simp [results, Try.results9, go_sem, p0, p1]) rfl ?_
      exact ⟨(0, 0), false, rfl, by rw [HF.out]; rfl, (HB.out.setCell (Nat.le_refl _) _).setCell (Nat.le_refl _) _⟩

set_option maxRecDepth 100000 in
set_option maxHeartbeats 3200000 in
theorem rhalve_any (A : Option Addr) (l : List Hit) (c B : Nat) (K : Int) (w : World) (hm : l.length * 16 ≤ 70368744177664) (hB : B ≤ w.heap.size) (hs : Sl w B A (fv l)) :
    Calls Try.prog 11 #[.slice A l.length c, .int .i64 K] w (Rows2 (l.filter (fewer l K)) (l.filter fun x => !fewer l K x) w) := by
  have HN : Hid (∀ W, Below w.heap.size w W → Sl W w.heap.size A (fv l) ∧ w.heap.size ≤ W.heap.size) := Lib.hid fun W hW =>
    ⟨(hs.more hB).below hW, hW.size⟩
  have HR : Hid (∀ y W, Below w.heap.size w W → Calls Try.prog 16 #[.slice A l.length c, .agg #[.int .i64 y.1, .int .i64 y.2]] W fun e w' => e = .returned (.int .i64 (rank l y)) ∧ Below W.heap.size W w') := Lib.hid fun y W hW =>
    (rank_any A l c w.heap.size y W hm hW.size (HN.out W hW).1).mono fun e w' ⟨he, h2⟩ => ⟨he, h2⟩
  clear hs
  go_enter Try.func11, Try.ntmps11
  go_wp2_with (fail)
  go_loopg [6, 7, 8] l.length (fun gk s6 s7 s8 wr => ∃ (k n1 n2 c1 c2 : Nat) (A1 A2 : Option Addr), gk = l.length - k ∧ k ≤ l.length ∧ s6 = .slice A1 n1 c1 ∧ s7 = .slice A2 n2 c2 ∧ s8 = .int .i64 k ∧ n1 ≤ k ∧ n2 ≤ k ∧ Two w.heap.size 31 wr (.slice A1 n1 c1) (.slice A2 n2 c2) n1 n2 ((l.take k).filter (fewer l K)) ((l.take k).filter fun x => !fewer l K x) ∧ Below w.heap.size w wr)
  case atStart => exact ⟨0, 0, 0, 0, 0, none, none, rfl, Nat.zero_le _, rfl, rfl, rfl, Nat.zero_le _, Nat.zero_le _, Two.start _ _ _, Below.refl _ _⟩
  case round =>
    obtain ⟨k, n1, n2, c1, c2, A1, A2, rfl, hk, rfl, rfl, rfl, hn1, hn2, htw, hb⟩ := hrel
    by_cases hlt : k < l.length
    · obtain ⟨b, o, rfl, hb1, hc0, hc1⟩ := Sl.farAt (HN.out wr hb).1 hlt
      have HC := Lib.hid (HR.out l[k] wr hb)
      obtain ⟨⟨y1, y2⟩, hy⟩ : ∃ y, l[k] = y := ⟨_, rfl⟩
      rw [hy] at hc0 hc1 HC
      dsimp only at hc0 hc1 HC
      have i1 : (k : Int) < (l.length : Int) := by omega
      have HY := Lib.hid hy
      have HK : Hid (∀ W, Below w.heap.size w W → W.cell? ⟨b, o + k * 2, none⟩ = some (.int .i64 y1) ∧ W.cell? ⟨b, o + k * 2 + 1, none⟩ = some (.int .i64 y2)) := Lib.hid fun W hW => by
        obtain ⟨b', o', e, _, h0, h1⟩ := Sl.farAt (HN.out W hW).1 hlt
        injection e with e
        injection e with e1 e2
        subst e1 e2
        rw [HY.out] at h0 h1
        exact ⟨h0, h1⟩
      have HT := Lib.hid htw
      have HB := Lib.hid hb
      clear hy hb htw
      go_wp2_with (fail)
      refine HC.out.mono ?_
      rintro e w2 ⟨rfl, h2⟩
      have hb2 := HB.out.trans (h2.mono (HN.out wr HB.out).2)
      obtain ⟨k0, k1⟩ := HK.out w2 hb2
      have hsz2 := hb2.size
      obtain ⟨q, hq⟩ : ∃ q, decide ((rank l (y1, y2) : Int) < K) = q := ⟨_, rfl⟩
      have HQ : Hid (fewer l K l[k] = q) := Lib.hid (by rw [HY.out]; exact hq)
      obtain ⟨r, hr⟩ : ∃ r, rank l (y1, y2) = r := ⟨_, rfl⟩
      rw [hr] at hq ⊢
      have htw2 := HT.out.on h2
      clear HC hc0 hc1 HK h2 hr HT HB
      cases q with
      | true =>
        have HF : Hid ((l.take (k + 1)).filter (fewer l K) = (l.take k).filter (fewer l K) ++ [(y1, y2)] ∧ ((l.take (k + 1)).filter fun x => !fewer l K x) = (l.take k).filter fun x => !fewer l K x) := Lib.hid
          ⟨by rw [filter_yes hlt HQ.out, HY.out], by rw [filter_no hlt (by rw [HQ.out]; rfl)]⟩
        have ho := htw2.one
        go_wp2_with (at_builtin
                     refine wpList_append_slk _ rfl (.tmp 23) (.tmp 28) _ rfl w.heap.size 31 2 16 Try.underlying22 refE (by omega) (.slice A1 n1 c1) n1 _ rfl (World.ownsRow.alloc (w := w2) ho _) _ _ 1 1 [.int .i64 y1, .int .i64 y2] rfl (Sl.lit w2 _ _) rfl (fc_oneOf _ _) (by omega) (by unfold maxLen; omega) (by simp; omega) ?_
                     intro v4 w4 hown4 hg4 hat4
                     obtain ⟨A4, c4, rfl, hc4⟩ := own_slice hown4)
        go_roundg (l.length - (k + 1))
        case measure => omega
        case rel => exact ⟨k + 1, n1 + 1, n2, c4, c2, A4, A2, rfl, by omega, rfl, rfl, by go_num, by omega, by omega, by rw [HF.out.1, HF.out.2]; exact htw2.more (x := (y1, y2)) _ hown4 hg4 hat4, below_appendK1 hb2 hsz2 _ ho (Nat.le_refl _) hg4⟩
      | false =>
        have HF : Hid ((l.take (k + 1)).filter (fewer l K) = (l.take k).filter (fewer l K) ∧ ((l.take (k + 1)).filter fun x => !fewer l K x) = ((l.take k).filter fun x => !fewer l K x) ++ [(y1, y2)]) := Lib.hid
          ⟨by rw [filter_no hlt HQ.out], by rw [filter_yes hlt (by rw [HQ.out]; rfl), HY.out]⟩
        have ho := htw2.two
        go_wp2_with (at_builtin
                     refine wpList_append_slk _ rfl (.tmp 30) (.tmp 35) _ rfl w.heap.size 31 2 16 Try.underlying22 refE (by omega) (.slice A2 n2 c2) n2 _ rfl (World.ownsRow.alloc (w := w2) ho _) _ _ 1 1 [.int .i64 y1, .int .i64 y2] rfl (Sl.lit w2 _ _) rfl (fc_oneOf _ _) (by omega) (by unfold maxLen; omega) (by simp; omega) ?_
                     intro v4 w4 hown4 hg4 hat4
                     obtain ⟨A4, c4, rfl, hc4⟩ := own_slice hown4)
        go_roundg (l.length - (k + 1))
        case measure => omega
        case rel => exact ⟨k + 1, n1, n2 + 1, c1, c4, A1, A4, rfl, by omega, rfl, rfl, by go_num, by omega, by omega, by rw [HF.out.1, HF.out.2]; exact (htw2.swap.more (x := (y1, y2)) _ hown4 hg4 hat4).swap, below_appendK1 hb2 hsz2 _ ho (Nat.le_refl _) hg4⟩
    · obtain rfl : k = l.length := by omega
      have i1 : ¬ (l.length : Int) < (l.length : Int) := by omega
      have HF : Hid (Rows2 (l.filter (fewer l K)) (l.filter fun x => !fewer l K x) w (.returned (.tuple #[.slice A1 n1 c1, .slice A2 n2 c2])) wr) := Lib.hid (by rw [List.take_length] at htw; exact htw.rows hb)
      clear htw hb
      go_wp2_with (fail)
      refine bodyPost_ret (v := .tuple #[.slice A1 n1 c1, .slice A2 n2 c2]) (by simp [results, Try.results11, go_sem]) rfl ?_
      exact HF.out
end Go.Proofs.Ytikdnpfnijhkkaa.far
