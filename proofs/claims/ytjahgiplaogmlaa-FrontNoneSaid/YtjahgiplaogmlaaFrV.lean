/-
  What lives (layer 20); the methods of a nil walk; Take, Upto of one.
-/
import Derived.Test.YtjahgiplaogmlaaFrL
namespace Go.Proofs.Ytjahgiplaogmlaa.fro
open Go.RowKit law bytes only flat heapM Go.Sort Go.Shelf
set_option linter.unusedVariables false

set_option maxRecDepth 100000 in
set_option maxHeartbeats 1600000 in
theorem lives_any (w : World) : Calls Try.prog 6 #[] w fun e w' => e = .returned (.bool true) ∧ Below w.heap.size w w' := by
  obtain ⟨V, hV⟩ : ∃ V, V = w.alloc (.cells #[.int .i64 3, .int .i64 (-1), .int .u64 7, .int .i64 3, .int .i64 (-1), .int .u64 2] 44) := ⟨_, rfl⟩
  have hB : Below w.heap.size w V := by rw [hV]; exact (Below.refl _ _).alloc (Nat.le_refl _) _
  have hS : Sl V V.heap.size (some ⟨w.heap.size, 0, none⟩) ([seven, two].flatMap ec) := by rw [hV]; exact Sl.lit w _ _
  have HN : Hid (Calls Try.prog 14 #[.nilFunc, .slice (some ⟨w.heap.size, 0, none⟩) 2 2] V fun e w' => ∃ wb hb T d, e = .returned (.pointer (some ⟨wb, 0, none⟩)) ∧ Wk w' V.heap.size wb hb T .nilFunc d 0 ∧ d.toList.Perm [seven, two] ∧ Below w.heap.size w w') := Lib.hid ((new_any .nilFunc (.inl rfl) _ [seven, two] 2 V hS (by simp)).mono fun e w' ⟨wb, hb, T, d, h1, h2, h3, h4⟩ => ⟨wb, hb, T, d, h1, h2, h3, hB.trans (h4.mono hB.size)⟩)
  have HX : Hid (∀ W wb hb T d, Wk W V.heap.size wb hb T .nilFunc d 0 → d.toList.Perm [seven, two] → Below w.heap.size w W → Calls Try.prog 9 #[.pointer (some ⟨wb, 0, none⟩)] W fun e w' => e = .returned (.tuple #[.agg #[.int .u64 2, .int .i64 3], .bool true]) ∧ ∃ d' T', Wk w' V.heap.size wb hb T' .nilFunc d' 0 ∧ lowT d' = 3 ∧ Below w.heap.size w w') := Lib.hid fun W wb hb T d h1 h2 h3 => by
    have hn : Nds (fun _ => False) d.toList := fun x hx h0 => by
      rcases List.mem_cons.1 (h2.subset hx) with rfl | hx
      · exact absurd h0 (by decide)
      · obtain rfl : x = two := by simpa using hx
        exact absurd h0 (by decide)
    refine (next_any (s := ()) (op_none .nilFunc V.heap.size) h1 trivial hn (by rw [wsum_perm h2]; decide)).mono fun e w' hh => ?_
    obtain ⟨a1, d', T', a2, a3⟩ := lives_next h2 hh
    refine ⟨a1, d', T', a2, a3, ?_⟩
    have ho : Only T W w' := by
      obtain ⟨k, s1, l1, b1, b2, b3⟩ := hh
      rcases b3 with ⟨x, rest, c1, c2, c3, c4, c5, d', c6, T2, c7, c8, c9⟩ | ⟨c1, c2, d', c6, T2, c7, c8, c9⟩
      · exact c8.mono fun i e => e.elim .inl False.elim
      · exact c8.mono fun i e => e.elim .inl False.elim
    exact h3.trans (ho.below h3.size fun i e => Nat.le_trans hB.size (h1.low i e).1)
  have HV := Lib.hid hV
  clear hV hB hS
  go_enter Try.func6, Try.ntmps6
  go_wp2_with (fail)
  rw [← HV.out]
  refine HN.out.mono ?_
  rintro e w1 ⟨wb, hb, T, d, rfl, h1, h2, h3⟩
  have HX1 := Lib.hid (HX.out _ _ _ _ _ h1 h2 h3)
  clear h1 h2 h3 HN HX
  go_wp2_with (fail)
  refine HX1.out.mono ?_
  rintro e w2 ⟨rfl, d', T', h1, h2, h3⟩
  have hb2 : Below w2.heap.size w2 (w2.alloc (.cells #[.int .u64 2, .int .i64 3] 37)) := (Below.refl _ _).alloc (Nat.le_refl _) _
  have hl := low_any (h1.below hb2)
  rw [h2] at hl
  have HL := Lib.hid hl
  have HB : Hid (∀ W, Below (w2.alloc (.cells #[.int .u64 2, .int .i64 3] 37)).heap.size (w2.alloc (.cells #[.int .u64 2, .int .i64 3] 37)) W → Below w.heap.size w W) := Lib.hid fun W hW => (h3.trans (hb2.mono h3.size)).trans (hW.mono (by simp; have := h3.size; omega))
  clear h1 h2 h3 hb2 hl HX1
  go_wp2_with (fail)
  refine HL.out.mono ?_
  rintro e w3 ⟨rfl, hb3⟩
  have HB3 := Lib.hid (HB.out _ hb3)
  clear HL HB hb3
  go_wp2_with (fail)
  go_ret
  exact ⟨rfl, HB3.out⟩
/-! ### a nil walk -/
theorem first_none (w : World) : Calls Try.prog 18 #[.pointer none] w fun e w' => e = .returned (.tuple #[.agg #[.int .i64 0, .int .i64 0, .int .u64 0], .bool false]) ∧ Below w.heap.size w w' := by
  go_enter Try.func18, Try.ntmps18
  go_wp2_with (fail)
  refine bodyPost_ret (v := .tuple #[.agg #[.int .i64 0, .int .i64 0, .int .u64 0], .bool false]) (by simp [results, Try.results18, go_sem]) rfl ?_
  exact ⟨rfl, (Below.refl _ _).alloc (Nat.le_refl _) _⟩
theorem opened_none (w : World) : Calls Try.prog 11 #[.pointer none] w fun e w' => e = .returned (.int .i64 0) ∧ Below w.heap.size w w' := by
  go_enter Try.func11, Try.ntmps11
  go_wp2_with (fail)
  go_ret
  exact ⟨rfl, Below.refl _ _⟩
theorem low_none (w : World) : Calls Try.prog 10 #[.pointer none] w fun e w' => e = .returned (.int .i64 1125899906842624) ∧ Below w.heap.size w w' := by
  have HF := Lib.hid (first_none w)
  go_enter Try.func10, Try.ntmps10
  go_wp2_with (fail)
  refine HF.out.mono ?_
  rintro e w1 ⟨rfl, hb1⟩
  have HB : Hid (Below w.heap.size w (w1.alloc (.cells #[.int .i64 0, .int .i64 0, .int .u64 0] 44))) := Lib.hid (hb1.alloc hb1.size _)
  clear hb1 HF
  go_wp2_with (fail)
  go_ret
  exact ⟨rfl, HB.out⟩
set_option maxHeartbeats 800000 in
theorem within_none (r : Int) (w : World) : Calls Try.prog 17 #[.pointer none, .int .i64 r] w fun e w' => e = .returned (.tuple #[.agg #[.int .u64 0, .int .i64 0], .bool false]) ∧ Below w.heap.size w w' := by
  have hb0 : Below w.heap.size w (w.alloc (.cells #[.int .u64 0, .int .i64 0] 37)) := (Below.refl _ _).alloc (Nat.le_refl _) _
  have HF : Hid (∀ W, Calls Try.prog 18 #[.pointer none] W fun e w' => e = .returned (.tuple #[.agg #[.int .i64 0, .int .i64 0, .int .u64 0], .bool false]) ∧ Below W.heap.size W w') := Lib.hid first_none
  have HB : Hid (∀ w1, Below (w.alloc (.cells #[.int .u64 0, .int .i64 0] 37)).heap.size (w.alloc (.cells #[.int .u64 0, .int .i64 0] 37)) w1 → Blk (w1.alloc (.cells #[.int .i64 0, .int .i64 0, .int .u64 0] 44)) w.heap.size 37 #[.int .u64 0, .int .i64 0] ∧ Below w.heap.size w (w1.alloc (.cells #[.int .i64 0, .int .i64 0, .int .u64 0] 44))) := Lib.hid fun w1 h1 =>
    ⟨((Blk.new w _ _).below h1 (by simp)).alloc _, (hb0.trans (h1.mono (by simp))).alloc (by have := h1.size; simp at this; omega) _⟩
  clear hb0
  go_enter Try.func17, Try.ntmps17
  go_wp2_with (fail)
  go_loopg [7] 0 (fun gk s7 wr => gk = 0 ∧ wr = w.alloc (.cells #[.int .u64 0, .int .i64 0] 37))
  case atStart => exact ⟨rfl, rfl⟩
  case round =>
    obtain ⟨rfl, rfl⟩ := hrel
    go_wp2_with (fail)
    refine (HF.out _).mono ?_
    rintro e w1 ⟨rfl, hb1⟩
    obtain ⟨b0, hb2⟩ := HB.out _ hb1
    have c0 := b0.cell 0
    have c1 := b0.cell 1
    have f0 := b0.frozen 0
    have f1 := b0.frozen 1
    simp only [List.getElem?_toArray, List.getElem?_cons_succ, List.getElem?_cons_zero] at c0 c1
    have b2 := (b0.set_ 0 (.int .u64 0)).set_ 1 (.int .i64 0)
    have HE := Lib.hid (And.intro b2 ((hb2.setCell (p := ⟨w.heap.size, 0, none⟩) (Nat.le_refl _) (.int .u64 0)).setCell (p := ⟨w.heap.size, 1, none⟩) (Nat.le_refl _) (.int .i64 0)))
    clear b0 b2 hb1 hb2 HF HB
    go_wp2_with (fail)
    obtain ⟨V, hV⟩ : ∃ V, V = ((w1.alloc (.cells #[.int .i64 0, .int .i64 0, .int .u64 0] 44)).setCell ⟨w.heap.size, 0, none⟩ (.int .u64 0)).setCell ⟨w.heap.size, 1, none⟩ (.int .i64 0) := ⟨_, rfl⟩
    rw [← hV] at HE ⊢
    clear hV
    have z0 := HE.out.1.cell 0
    have z1 := HE.out.1.cell 1
    simp at z0 z1
    refine bodyPost_ret (v := .tuple #[.agg #[.int .u64 0, .int .i64 0], .bool false]) (by simp [results, Try.results17, go_sem, z0, z1]) rfl ?_
    exact ⟨rfl, HE.out.2⟩
theorem next_none (w : World) : Calls Try.prog 9 #[.pointer none] w fun e w' => e = .returned (.tuple #[.agg #[.int .u64 0, .int .i64 0], .bool false]) ∧ Below w.heap.size w w' := by
  have hb0 : Below w.heap.size w (w.alloc (.cells #[.int .u64 0, .int .i64 0] 37)) := (Below.refl _ _).alloc (Nat.le_refl _) _
  have HF : Hid (∀ r W, Calls Try.prog 17 #[.pointer none, .int .i64 r] W fun e w' => e = .returned (.tuple #[.agg #[.int .u64 0, .int .i64 0], .bool false]) ∧ Below W.heap.size W w') := Lib.hid within_none
  have HB : Hid (∀ w1, Below (w.alloc (.cells #[.int .u64 0, .int .i64 0] 37)).heap.size (w.alloc (.cells #[.int .u64 0, .int .i64 0] 37)) w1 → Blk w1 w.heap.size 37 #[.int .u64 0, .int .i64 0] ∧ Below w.heap.size w w1) := Lib.hid fun w1 h1 =>
    ⟨(Blk.new w _ _).below h1 (by simp), hb0.trans (h1.mono (by simp))⟩
  clear hb0
  go_enter Try.func9, Try.ntmps9
  go_wp2_with (fail)
  refine (HF.out _ _).mono ?_
  rintro e w1 ⟨rfl, hb1⟩
  obtain ⟨b0, hb2⟩ := HB.out _ hb1
  have c0 := b0.cell 0
  have c1 := b0.cell 1
  have f0 := b0.frozen 0
  have f1 := b0.frozen 1
  simp only [List.getElem?_toArray, List.getElem?_cons_succ, List.getElem?_cons_zero] at c0 c1
  have b2 := (b0.set_ 0 (.int .u64 0)).set_ 1 (.int .i64 0)
  have HE := Lib.hid (And.intro b2 ((hb2.setCell (p := ⟨w.heap.size, 0, none⟩) (Nat.le_refl _) (.int .u64 0)).setCell (p := ⟨w.heap.size, 1, none⟩) (Nat.le_refl _) (.int .i64 0)))
  clear b0 b2 hb1 hb2 HF HB
  go_wp2_with (fail)
  obtain ⟨V, hV⟩ : ∃ V, V = (w1.setCell ⟨w.heap.size, 0, none⟩ (.int .u64 0)).setCell ⟨w.heap.size, 1, none⟩ (.int .i64 0) := ⟨_, rfl⟩
  rw [← hV] at HE ⊢
  clear hV
  have z0 := HE.out.1.cell 0
  have z1 := HE.out.1.cell 1
  simp at z0 z1
  refine bodyPost_ret (v := .tuple #[.agg #[.int .u64 0, .int .i64 0], .bool false]) (by simp [results, Try.results9, go_sem, z0, z1]) rfl ?_
  exact ⟨rfl, HE.out.2⟩
theorem take_none (n : Int) (w : World) : Calls Try.prog 8 #[.pointer none, .int .i64 n] w fun e w' => e = .returned (.slice none 0 0) ∧ Below w.heap.size w w' := by
  have HF : Hid (∀ W, Calls Try.prog 9 #[.pointer none] W fun e w' => e = .returned (.tuple #[.agg #[.int .u64 0, .int .i64 0], .bool false]) ∧ Below W.heap.size W w') := Lib.hid next_none
  go_enter Try.func8, Try.ntmps8
  go_wp2_with (fail)
  go_loopg [5] 0 (fun gk s5 wr => gk = 0 ∧ s5 = .slice none 0 0 ∧ wr = w)
  case atStart => exact ⟨rfl, rfl, rfl⟩
  case round =>
    obtain ⟨rfl, rfl, rfl⟩ := hrel
    by_cases h : (0 : Int) < n
    · go_wp2_with (fail)
      refine (HF.out _).mono ?_
      rintro e w1 ⟨rfl, hb1⟩
      have HB := Lib.hid hb1
      clear hb1 HF
      go_wp2_with (fail)
      go_ret
      exact ⟨rfl, HB.out.alloc HB.out.size _⟩
    · clear HF
      go_wp2_with (fail)
      go_ret
      exact ⟨rfl, Below.refl _ _⟩
theorem upto_none (r : Int) (w : World) : Calls Try.prog 12 #[.pointer none, .int .i64 r] w fun e w' => e = .returned (.slice none 0 0) ∧ Below w.heap.size w w' := by
  have HF : Hid (∀ r W, Calls Try.prog 17 #[.pointer none, .int .i64 r] W fun e w' => e = .returned (.tuple #[.agg #[.int .u64 0, .int .i64 0], .bool false]) ∧ Below W.heap.size W w') := Lib.hid within_none
  go_enter Try.func12, Try.ntmps12
  go_wp2_with (fail)
  go_loopg [5] 0 (fun gk s5 wr => gk = 0 ∧ s5 = .slice none 0 0 ∧ wr = w)
  case atStart => exact ⟨rfl, rfl, rfl⟩
  case round =>
    obtain ⟨rfl, rfl, rfl⟩ := hrel
    go_wp2_with (fail)
    refine (HF.out _ _).mono ?_
    rintro e w1 ⟨rfl, hb1⟩
    have HB := Lib.hid hb1
    clear hb1 HF
    go_wp2_with (fail)
    go_ret
    exact ⟨rfl, HB.out.alloc HB.out.size _⟩
end Go.Proofs.Ytjahgiplaogmlaa.fro
