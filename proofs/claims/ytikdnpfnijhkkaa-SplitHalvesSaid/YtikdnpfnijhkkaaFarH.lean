/-
  The contract of split.Halve.
-/
import Derived.Test.YtikdnpfnijhkkaaFarT
namespace Go.Proofs.Ytikdnpfnijhkkaa.far
open Go.RowKit law bytes only flat hit spl Go.Sort Go.Shelf
set_option linter.unusedVariables false

theorem Own.two {t : TypeId} {l : List Hit} {w w1 w' : World} {e : Ending} (h : Own t l w1 e w') (hb : Below w.heap.size w w1) : ∃ A c, e = .returned (.slice A l.length c) ∧ Rows2 [] l w (.returned (.tuple #[.slice none 0 0, .slice A l.length c])) w' := by
  obtain ⟨A, c, rfl, ho, h2⟩ := h
  exact ⟨A, c, rfl, none, 0, A, c, rfl, Nat.le_refl _, own_cap2 ho, Sl.nil, Sl.of_ownK ho, hb.trans (h2.mono hb.size)⟩
set_option maxRecDepth 100000 in
set_option maxHeartbeats 1600000 in
theorem halve_any (A : Option Addr) (l : List Hit) (c B : Nat) (K : Int) (w : World) (hm : l.length * 16 ≤ 70368744177664) (hB : B ≤ w.heap.size) (hc : l.length ≤ c) (hs : Sl w B A (fv l)) :
    Calls Try.prog 10 #[.slice A l.length c, .int .i64 K] w (Rows2 (cut l K).1 (cut l K).2 w) := by
  obtain ⟨q, hq⟩ : ∃ q : Nat, min (max K 0) (l.length : Int) = (q : Int) := ⟨(min (max K 0) (l.length : Int)).toNat, by omega⟩
  have hql : q ≤ l.length := by omega
  have hcall := nth_any l A c B ((q : Int) - 1) w hm hB hc hs
  have HCL : Hid (∀ W, Below w.heap.size w W → Calls Try.prog 17 #[.slice A l.length c] W fun e w' => ∃ A1 c1, e = .returned (.slice A1 l.length c1) ∧ Rows2 [] l w (.returned (.tuple #[.slice none 0 0, .slice A1 l.length c1])) w') := Lib.hid fun W hW =>
    (clone_any A l c B W (by omega) (Nat.le_trans hB hW.size) (hs.below (hW.mono hB))).mono fun e w' h => h.two hW
  have HSL : Hid (∀ W, Below w.heap.size w W → Sl W w.heap.size A (fv l)) := Lib.hid fun W hW => (hs.more hB).below hW
  obtain ⟨R, hR⟩ : ∃ R, Rows2 (cut l K).1 (cut l K).2 w = R := ⟨_, rfl⟩
  have HR : Hid ((∀ e w', nth l ((q : Int) - 1) = none → Rows2 [] l w e w' → R e w') ∧ (∀ b e w', nth l ((q : Int) - 1) = some b → Rows2 (l.filter fun x => !lt b x) (l.filter fun x => lt b x) w e w' → R e w')) := Lib.hid (by
    rw [← hR]
    unfold cut
    rw [hq]
    refine ⟨fun e w' h1 h2 => by rw [h1]; exact h2, fun b e w' h1 h2 => by rw [h1]; exact h2⟩)
  rw [hR]
  have HC := Lib.hid hcall
  clear hcall hs hR
  go_enter Try.func10, Try.ntmps10
  go_wp2_with (fail)
  refine HC.out.mono ?_
  rintro e w2 ⟨⟨x1, x2⟩, ok, rfl, ho, hb2⟩
  obtain ⟨W0, hW0⟩ : ∃ W, W = w2.alloc (.cells #[.int .i64 x1, .int .i64 x2] 26) := ⟨_, rfl⟩
  have hz0 : W0.heap.size = w2.heap.size + 1 := by rw [hW0]; simp
  have hb0 : Below w.heap.size w W0 := by rw [hW0]; exact hb2.alloc hb2.size _
  have hbx : Blk W0 w2.heap.size 26 #[.int .i64 x1, .int .i64 x2] := by rw [hW0]; exact Blk.new w2 _ _
  cases ok with
  | false =>
    have hn : nth l ((q : Int) - 1) = none := by
      cases h : nth l ((q : Int) - 1) with
      | none => rfl
      | some b => rw [h] at ho; cases (Prod.mk.inj ho).2
    have HK := Lib.hid (HCL.out W0 hb0)
    have HE := Lib.hid fun e w' => HR.out.1 e w' hn
    have HW0 := Lib.hid hW0
    clear ho hn hb2 hz0 hb0 hbx HC HCL HR HSL hW0
    go_wp2_with (fail)
    rw [← HW0.out]
    refine HK.out.mono ?_
    rintro e w3 ⟨A1, c1, rfl, h3⟩
    have HF := Lib.hid (HE.out _ _ h3)
    clear h3 HK HE HW0
    go_wp2_with (fail)
    exact HF.out
  | true =>
    have hn : nth l ((q : Int) - 1) = some (x1, x2) := by
      cases h : nth l ((q : Int) - 1) with
      | none => rw [h] at ho; cases (Prod.mk.inj ho).2
      | some b => rw [h] at ho; rw [(Prod.mk.inj ho).1]
    have hsz0 : w.heap.size ≤ w2.heap.size := hb2.size
    have HN : Hid (∀ W, Below (w2.heap.size + 1) W0 W → W.cell? ⟨w2.heap.size, 0, none⟩ = some (.int .i64 x1) ∧ W.cell? ⟨w2.heap.size, 1, none⟩ = some (.int .i64 x2)) := Lib.hid fun W hW =>
      ⟨(hbx.below hW (by omega)).cell 0, (hbx.below hW (by omega)).cell 1⟩
    have HS : Hid (∀ W, Below (w2.heap.size + 1) W0 W → Sl W (w2.heap.size + 1) A (fv l)) := Lib.hid fun W hW => (HSL.out W (hb0.trans (hW.mono (by omega)))).more (by omega)
    have HE : Hid (∀ A1 A2 n1 n2 c1 c2 wr, Two (w2.heap.size + 1) 26 wr (.slice A1 n1 c1) (.slice A2 n2 c2) n1 n2 (l.filter fun x => !lt (x1, x2) x) (l.filter fun x => lt (x1, x2) x) → Below (w2.heap.size + 1) W0 wr → R (.returned (.tuple #[.slice A1 n1 c1, .slice A2 n2 c2])) wr) := Lib.hid fun A1 A2 n1 n2 c1 c2 wr h hb =>
      HR.out.2 _ _ _ hn (h.rows (hb0.trans (hb.mono (by omega))))
    have HZ : Hid (W0.heap.size = w2.heap.size + 1) := Lib.hid hz0
    have HO : Hid (∀ (y : Hit) W, Calls Try.prog 18 #[.agg #[.int .i64 y.1, .int .i64 y.2], .agg #[.int .i64 x1, .int .i64 x2]] W fun e w' => e = .returned (.int .i64 (cf y (x1, x2))) ∧ Below W.heap.size W w') := Lib.hid fun y W => cmp_any y (x1, x2) W
    have HW0 := Lib.hid hW0
    clear ho hn hb2 hz0 hb0 hbx HC HCL HR HSL hW0 hsz0
    go_wp2_with (fail)
    rw [← HW0.out]
    clear HW0
    go_loopg [8, 9, 30] l.length (fun gk s8 s9 s30 wr => ∃ (k n1 n2 c1 c2 : Nat) (A1 A2 : Option Addr), gk = l.length - k ∧ k ≤ l.length ∧ s8 = .slice A1 n1 c1 ∧ s9 = .slice A2 n2 c2 ∧ s30 = .int .i64 k ∧ n1 ≤ k ∧ n2 ≤ k ∧ Two (w2.heap.size + 1) 26 wr (.slice A1 n1 c1) (.slice A2 n2 c2) n1 n2 ((l.take k).filter fun x => !lt (x1, x2) x) ((l.take k).filter fun x => lt (x1, x2) x) ∧ Below (w2.heap.size + 1) W0 wr)
    case atStart => exact ⟨0, 0, 0, 0, 0, none, none, rfl, Nat.zero_le _, rfl, rfl, rfl, Nat.zero_le _, Nat.zero_le _, Two.start _ _ _, Below.refl _ _⟩
    case round =>
      obtain ⟨k, n1, n2, c1, c2, A1, A2, rfl, hk, rfl, rfl, rfl, hn1, hn2, htw, hb⟩ := hrel
      by_cases hlt : k < l.length
      · obtain ⟨b, o, rfl, hb1, hc0, hc1⟩ := Sl.farAt (HS.out wr hb) hlt
        obtain ⟨⟨y1, y2⟩, hy⟩ : ∃ y, l[k] = y := ⟨_, rfl⟩
        rw [hy] at hc0 hc1
        dsimp only at hc0 hc1
        have i1 : (k : Int) < (l.length : Int) := by omega
        have hsz : w2.heap.size + 1 ≤ wr.heap.size := by have := hb.size; have := HZ.out; omega
        obtain ⟨V, hV⟩ : ∃ V, V = wr.alloc (.cells #[.int .i64 y1, .int .i64 y2] 26) := ⟨_, rfl⟩
        have hVz : V.heap.size = wr.heap.size + 1 := by rw [hV]; simp
        have hVb : Below (w2.heap.size + 1) W0 V := by rw [hV]; exact hb.alloc hsz _
        have hVk : Blk V wr.heap.size 26 #[.int .i64 y1, .int .i64 y2] := by rw [hV]; exact Blk.new wr _ _
        have hVt : Two (w2.heap.size + 1) 26 V (.slice A1 n1 c1) (.slice A2 n2 c2) n1 n2 ((l.take k).filter fun x => !lt (x1, x2) x) ((l.take k).filter fun x => lt (x1, x2) x) := by rw [hV]; exact htw.alloc _
        obtain ⟨f0, f1⟩ := HN.out V hVb
        rw [hV] at f0 f1
        have HV : Hid (∀ w3, Below V.heap.size V w3 → w3.cell? ⟨wr.heap.size, 0, none⟩ = some (.int .i64 y1) ∧ w3.cell? ⟨wr.heap.size, 1, none⟩ = some (.int .i64 y2) ∧ Below (w2.heap.size + 1) W0 w3 ∧ w2.heap.size + 1 ≤ w3.heap.size ∧ Two (w2.heap.size + 1) 26 w3 (.slice A1 n1 c1) (.slice A2 n2 c2) n1 n2 ((l.take k).filter fun x => !lt (x1, x2) x) ((l.take k).filter fun x => lt (x1, x2) x)) := Lib.hid fun w3 h3 =>
          ⟨(hVk.below h3 (by omega)).cell 0, (hVk.below h3 (by omega)).cell 1, hVb.trans (h3.mono (by omega)), by have := h3.size; omega, hVt.on h3⟩
        have HC := Lib.hid (HO.out (y1, y2) V)
        have HY := Lib.hid hy
        have HV2 := Lib.hid hV
        clear hy htw hb hVt hVb hVk hVz
        go_wp2_with (fail)
        rw [← HV2.out]
        clear hV HV2 hc0 hc1
        refine HC.out.mono ?_
        rintro e w3 ⟨rfl, h3⟩
        obtain ⟨p0, p1, hb3, hsz3, htw3⟩ := HV.out w3 h3
        clear HC HV h3 f0 f1
        have hq3 : (lt (x1, x2) (y1, y2) = true ∧ cf (y1, y2) (x1, x2) = 1) ∨ (lt (x1, x2) (y1, y2) = false ∧ (cf (y1, y2) (x1, x2) = 0 ∨ cf (y1, y2) (x1, x2) = -1)) := by
          rcases cf_cases (y1, y2) (x1, x2) with ⟨q1, q2, q3⟩ | ⟨q1, q2, q3⟩ | ⟨q1, q2, q3⟩
          · exact .inr ⟨q2, .inr q3⟩
          · exact .inl ⟨q2, q3⟩
          · exact .inr ⟨q2, .inl q3⟩
        rcases hq3 with ⟨q1, q3⟩ | ⟨q1, q3⟩
        · have HT : Hid (((l.take (k + 1)).filter fun x => !lt (x1, x2) x) = ((l.take k).filter fun x => !lt (x1, x2) x) ∧ ((l.take (k + 1)).filter fun x => lt (x1, x2) x) = ((l.take k).filter fun x => lt (x1, x2) x) ++ [(y1, y2)]) := Lib.hid
            ⟨filter_no hlt (by rw [HY.out, q1]; rfl), by rw [filter_yes hlt (by rw [HY.out]; exact q1), HY.out]⟩
          rw [q3]
          have ho := htw3.two
          clear q1 q3 HY
          go_wp2_with (at_builtin
                       refine wpList_append_slk _ rfl (.tmp 38) (.tmp 40) _ rfl (w2.heap.size + 1) 26 2 16 Try.underlying29 farE (by omega) (.slice A2 n2 c2) n2 _ rfl (World.ownsRow.alloc (w := w3) ho _) _ _ 1 1 [.int .i64 y1, .int .i64 y2] rfl (Sl.lit w3 _ _) rfl (fc_oneOf _ _) (by omega) (by unfold maxLen; omega) (by simp; omega) ?_
                       intro v4 w4 hown4 hg4 hat4
                       obtain ⟨A4, c4, rfl, hc4⟩ := own_slice hown4)
          go_roundg (l.length - (k + 1))
          case measure => omega
          case rel => exact ⟨k + 1, n1, n2 + 1, c1, c4, A1, A4, rfl, by omega, rfl, rfl, by go_num, by omega, by omega, by rw [HT.out.1, HT.out.2]; exact (htw3.swap.more (x := (y1, y2)) _ hown4 hg4 hat4).swap, below_appendK1 hb3 hsz3 _ ho (Nat.le_refl _) hg4⟩
        · have HT : Hid (((l.take (k + 1)).filter fun x => !lt (x1, x2) x) = ((l.take k).filter fun x => !lt (x1, x2) x) ++ [(y1, y2)] ∧ ((l.take (k + 1)).filter fun x => lt (x1, x2) x) = ((l.take k).filter fun x => lt (x1, x2) x)) := Lib.hid
            ⟨by rw [filter_yes hlt (by rw [HY.out, q1]; rfl), HY.out], filter_no hlt (by rw [HY.out]; exact q1)⟩
          have ho := htw3.one
          clear q1 HY
          rcases q3 with q3 | q3
          all_goals
            rw [q3]
            clear q3
            go_wp2_with (at_builtin
                         refine wpList_append_slk _ rfl (.tmp 42) (.tmp 44) _ rfl (w2.heap.size + 1) 26 2 16 Try.underlying29 farE (by omega) (.slice A1 n1 c1) n1 _ rfl (World.ownsRow.alloc (w := w3) ho _) _ _ 1 1 [.int .i64 y1, .int .i64 y2] rfl (Sl.lit w3 _ _) rfl (fc_oneOf _ _) (by omega) (by unfold maxLen; omega) (by simp; omega) ?_
                         intro v4 w4 hown4 hg4 hat4
                         obtain ⟨A4, c4, rfl, hc4⟩ := own_slice hown4)
            go_roundg (l.length - (k + 1))
            case measure => omega
            case rel => exact ⟨k + 1, n1 + 1, n2, c4, c2, A4, A2, rfl, by omega, rfl, rfl, by go_num, by omega, by omega, by rw [HT.out.1, HT.out.2]; exact htw3.more (x := (y1, y2)) _ hown4 hg4 hat4, below_appendK1 hb3 hsz3 _ ho (Nat.le_refl _) hg4⟩
      · obtain rfl : k = l.length := by omega
        have i1 : ¬ (l.length : Int) < (l.length : Int) := by omega
        have HF : Hid (R (.returned (.tuple #[.slice A1 n1 c1, .slice A2 n2 c2])) wr) := Lib.hid (HE.out _ _ _ _ _ _ _ (by rw [List.take_length] at htw; exact htw) hb)
        clear htw hb
        go_wp2_with (fail)
        exact HF.out
end Go.Proofs.Ytikdnpfnijhkkaa.far
