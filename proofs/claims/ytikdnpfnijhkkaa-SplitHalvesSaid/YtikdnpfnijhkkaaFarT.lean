/-
  The contracts of split.Nth, split.middle at all rows (each calls the other one at shorter rows), of the law's lives.
-/
import Derived.Test.YtikdnpfnijhkkaaFarG
namespace Go.Proofs.Ytikdnpfnijhkkaa.far
open Go.RowKit law bytes only flat hit spl Go.Sort Go.Shelf
set_option linter.unusedVariables false

set_option maxRecDepth 100000 in
set_option maxHeartbeats 800000 in
theorem nth_of (l : List Hit) (HM : ∀ m : List Hit, m.length ≤ l.length → 0 < m.length → MidC m) : NthC l := by
  intro A c B K w hm hB hc hs
  obtain ⟨W0, hW0⟩ : ∃ W, W = w.alloc (.cells #[.int .i64 0, .int .i64 0] 26) := ⟨_, rfl⟩
  have hz0 : W0.heap.size = w.heap.size + 1 := by rw [hW0]; simp
  have hb0 : Below w.heap.size w W0 := by rw [hW0]; exact (Below.refl _ w).alloc (Nat.le_refl _) _
  have hbx : Blk W0 w.heap.size 26 #[.int .i64 0, .int .i64 0] := by rw [hW0]; exact Blk.new w _ _
  have HW : Hid (∀ W, Below (w.heap.size + 1) W0 W → Blk W w.heap.size 26 #[.int .i64 0, .int .i64 0] ∧ Below w.heap.size w W ∧ w.heap.size + 1 ≤ W.heap.size) := Lib.hid fun W hW =>
    ⟨hbx.below hW (by omega), hb0.trans (hW.mono (by omega)), by have := hW.size; omega⟩
  by_cases hin : 0 ≤ K ∧ K < (l.length : Int)
  · obtain ⟨k, rfl⟩ : ∃ k : Nat, K = k := ⟨K.toNat, by omega⟩
    have hkl : k < l.length := by omega
    have d1 : decide ((k : Int) < 0) = false := decide_eq_false (by omega)
    have d2 : decide ((l.length : Int) ≤ (k : Int)) = false := decide_eq_false (by omega)
    have d3 : decide (l.length ≤ k) = false := decide_eq_false (by omega)
    have HG : Hid (∀ x w', kth l k = some x → Below w.heap.size w w' → Got (nth l (k : Int)) w (.returned (.tuple #[.agg #[.int .i64 x.1, .int .i64 x.2], .bool true])) w') := Lib.hid fun x w' hx hb => by
      rw [nth_in, hx]
      exact ⟨x, true, rfl, rfl, hb⟩
    have HCM : Hid (∀ (m : List Hit) (A1 : Option Addr) (n c1 : Nat) (W : World), m.length = n → 0 < n → n ≤ l.length → n ≤ c1 → Sl W W.heap.size A1 (fv m) → Calls Try.prog 14 #[.slice A1 n c1] W (Mid m W)) := Lib.hid fun m A1 n c1 W hn h0 h1 h2 h3 => by
      subst hn
      exact HM m h1 h0 A1 c1 _ W (by omega) (Nat.le_refl _) h2 h3
    have HCA : Hid (∀ (m : List Hit) (A1 : Option Addr) (n c1 : Nat) (x : Hit) (W w2 : World), m.length = n → n ≤ l.length → Below W.heap.size W w2 → Sl W W.heap.size A1 (fv m) → Calls Try.prog 15 #[.slice A1 n c1, .agg #[.int .i64 x.1, .int .i64 x.2]] w2 (Rows2 (lesser x m) (greater x m) w2)) := Lib.hid fun m A1 n c1 x W w2 hn h1 h2 h3 => by
      subst hn
      exact around_any A1 m c1 _ x w2 (by omega) h2.size (h3.below h2)
    have HS0 : Hid (Sl W0 W0.heap.size A (fv l)) := Lib.hid ((hs.below (hb0.mono hB)).more (by omega))
    have hl1 : l.length * 16 ≤ 70368744177664 := hm
    have HZ : Hid (W0.heap.size = w.heap.size + 1) := Lib.hid hz0
    clear hs hb0 hbx HM hin hz0
    go_enter Try.func7, Try.ntmps7
    go_wp2_with (fail)
    go_step3
    go_wp2_with (fail)
    go_step3
    go_wp2_with (fail)
    rw [← hW0]
    clear hW0
    go_loopg [0, 1] l.length (fun gk s0 s1 wr => ∃ (n j c1 : Nat) (A1 : Option Addr) (m : List Hit), n = gk ∧ s0 = .slice A1 n c1 ∧ s1 = .int .i64 j ∧ m.length = n ∧ n ≤ l.length ∧ n ≤ c1 ∧ j < n ∧ kth m j = kth l k ∧ Sl wr wr.heap.size A1 (fv m) ∧ Below (w.heap.size + 1) W0 wr)
    case atStart => exact ⟨l.length, k, c, A, l, rfl, rfl, rfl, rfl, Nat.le_refl _, hc, hkl, rfl, HS0.out, Below.refl _ _⟩
    case round =>
      clear HS0
      obtain ⟨n, j, c1, A1, m, rfl, rfl, rfl, hmn, hnl, hnc, hjn, hkm, hs1, hb⟩ := hrel
      have HC := Lib.hid (HCM.out m A1 n c1 wr hmn (by omega) hnl hnc hs1)
      have HKM := Lib.hid hkm
      have HMN := Lib.hid hmn
      have HA : Hid (∀ (x : Hit) w2, Below wr.heap.size wr w2 → Calls Try.prog 15 #[.slice A1 n c1, .agg #[.int .i64 x.1, .int .i64 x.2]] w2 (Rows2 (lesser x m) (greater x m) w2)) := Lib.hid fun x w2 h2 => HCA.out m A1 n c1 x wr w2 hmn hnl h2 hs1
      have HB := Lib.hid (And.intro hb (HW.out wr hb).2.2)
      clear hkm hmn hs1 hb
      go_wp2_with (fail)
      refine HC.out.mono ?_
      rintro e w2 ⟨⟨x, y⟩, hx, rfl, h2⟩
      have HX := Lib.hid hx
      obtain ⟨V, hV⟩ : ∃ V, V = w2.alloc (.cells #[.int .i64 x, .int .i64 y] 26) := ⟨_, rfl⟩
      have hVz : V.heap.size = w2.heap.size + 1 := by rw [hV]; simp
      have hVb : Below wr.heap.size wr V := by rw [hV]; exact h2.alloc h2.size _
      have hVk : Blk V w2.heap.size 26 #[.int .i64 x, .int .i64 y] := by rw [hV]; exact Blk.new w2 _ _
      have HAA := Lib.hid (HA.out (x, y) V hVb)
      have HV : Hid (∀ w3, Below V.heap.size V w3 → w3.cell? ⟨w2.heap.size, 0, none⟩ = some (.int .i64 x) ∧ w3.cell? ⟨w2.heap.size, 1, none⟩ = some (.int .i64 y) ∧ Below (w.heap.size + 1) W0 w3) := Lib.hid fun w3 h3 =>
        ⟨(hVk.below h3 (by omega)).cell 0, (hVk.below h3 (by omega)).cell 1, HB.out.1.trans ((hVb.trans (h3.mono (by have := hVb.size; omega))).mono HB.out.2)⟩
      have HVV := Lib.hid hV
      clear HC HA hx h2 hVz hVb hVk
      go_wp2_with (fail)
      rw [← HVV.out]
      clear hV HVV
      refine HAA.out.mono ?_
      rintro e w3 ⟨A3, c3, A4, c4, rfl, hc3, hc4, hs3, hs4, h3⟩
      obtain ⟨k0, k1, hb3⟩ := HV.out w3 h3
      have hlen := parts_length (x, y) m
      have hx1 := lesser_lt HX.out
      have hx2 := greater_lt HX.out
      have hk1 := kth_lesser (x := (x, y)) (l := m) (k := j)
      have hk2 := kth_greater (x := (x, y)) (l := m) (k := j)
      have hk3 := kth_here (x := (x, y)) (l := m) (k := j)
      rw [HMN.out] at hlen hx1 hx2 hk2 hk3
      obtain ⟨L, hL⟩ : ∃ L, lesser (x, y) m = L := ⟨_, rfl⟩
      obtain ⟨G, hG⟩ : ∃ G, greater (x, y) m = G := ⟨_, rfl⟩
      rw [hL] at hc3 hs3 hlen hx1 hk1 hk3 ⊢
      rw [hG] at hc4 hs4 hlen hx2 hk2 hk3 ⊢
      obtain ⟨p, hp⟩ : ∃ p, L.length = p := ⟨_, rfl⟩
      obtain ⟨q, hq⟩ : ∃ q, G.length = q := ⟨_, rfl⟩
      rw [hp] at hc3 hlen hx1 hk1 hk3 ⊢
      rw [hq] at hc4 hlen hx2 hk2 hk3 ⊢
      have hqn : q ≤ n := by omega
      have hpn : p < n := hx1
      have hqn2 : q < n := hx2
      rw [HKM.out] at hk1 hk2 hk3
      have HP := Lib.hid hp
      have HQ := Lib.hid hq
      have HS3 := Lib.hid hs3
      have HS4 := Lib.hid hs4
      have HB3 := Lib.hid hb3
      clear hL hG hp hq hs3 hs4 hb3 h3 HAA HV hlen hx1 hx2
      by_cases h1 : j < p
      · have HF := Lib.hid (hk1 h1)
        clear hk1 hk2 hk3
        go_wp2_with (fail)
        go_roundg p
        case measure => omega
        case rel => exact ⟨p, j, c3, A3, L, rfl, rfl, rfl, HP.out, by omega, hc3, h1, HF.out.symm, HS3.out, HB3.out⟩
      · by_cases h2 : n - q ≤ j
        · have HF := Lib.hid (hk2 h2)
          obtain ⟨j2, hj2⟩ : ∃ j2, j2 = j - (n - q) := ⟨_, rfl⟩
          rw [← hj2] at HF
          have hj3 : (j : Int) - ((n : Int) - (q : Int)) = (j2 : Int) := by omega
          have hj4 : j2 < q := by omega
          have h3 : (n : Int) - (q : Int) ≤ (j : Int) := by omega
          have h4 : ¬ (j : Int) < (p : Int) := by omega
          clear hk1 hk2 hk3 hj2
          go_wp2_with (fail)
          go_roundg q
          case measure => omega
          case rel => exact ⟨q, j2, c4, A4, G, rfl, rfl, by go_num, HQ.out, by omega, hc4, hj4, HF.out.symm, HS4.out, HB3.out⟩
        · have HF := Lib.hid (hk3 (by omega) (by omega))
          have h3 : ¬ (n : Int) - (q : Int) ≤ (j : Int) := by omega
          have h4 : ¬ (j : Int) < (p : Int) := by omega
          obtain ⟨hbk, hbw, -⟩ := HW.out w3 HB3.out
          have e0 := hbk.cell 0
          have e1 := hbk.cell 1
          have g0 := hbk.frozen 0
          have g1 := hbk.frozen 1
          have HE : Hid (Got (nth l (k : Int)) w (.returned (.tuple #[.agg #[.int .i64 x, .int .i64 y], .bool true])) ((w3.setCell ⟨w.heap.size, 0, none⟩ (.int .i64 x)).setCell ⟨w.heap.size, 1, none⟩ (.int .i64 y))) := Lib.hid (HG.out (x, y) _ HF.out ((hbw.setCell (Nat.le_refl _) _).setCell (Nat.le_refl _) _))
          clear hk1 hk2 hk3 hbw
          go_wp2_with (fail)
          try rw [Exit.noGoto_ret]
          obtain ⟨p0, p1⟩ := put_two hbk (.int .i64 x) (.int .i64 y)
          refine bodyPost_ret (v := .tuple #[.agg #[.int .i64 x, .int .i64 y], .bool true]) (by simp [results, Try.results7, go_sem, p0, p1]) rfl ?_
          exact HE.out
  · have HG : Hid (nth l K = none) := Lib.hid (nth_out (by omega))
    have d1 : K < 0 ∨ (0 ≤ K ∧ (l.length : Int) ≤ K) := by omega
    obtain ⟨hbk, hbw, -⟩ := HW.out W0 (Below.refl _ _)
    rw [hW0] at hbk hbw
    have e0 := hbk.cell 0
    have e1 := hbk.cell 1
    have g0 := hbk.frozen 0
    have g1 := hbk.frozen 1
    have HB := Lib.hid hbw
    clear hs hb0 hbx HM hin hz0 hW0 HW hbw
    rcases d1 with d1 | ⟨d0, d1⟩
    all_goals
      go_enter Try.func7, Try.ntmps7
      go_wp2_with (fail)
      go_step3
      go_wp2_with (fail)
      try rw [Exit.noGoto_ret]
      refine bodyPost_ret (v := .tuple #[.agg #[.int .i64 0, .int .i64 0], .bool false]) (by simp [results, Try.results7, go_sem, e0, e1]) rfl ?_
      exact ⟨(0, 0), false, rfl, by rw [HG.out]; rfl, HB.out⟩
/-- both, by how long the row is -/
theorem both : ∀ (n : Nat) (l : List Hit), l.length = n → NthC l := by
  intro n
  induction n using Nat.strongRecOn with
  | ind n ih =>
    intro l hl
    refine nth_of l fun m hm h0 => ?_
    rcases Nat.lt_or_ge 5 m.length with h5 | h5
    · exact mid_large m h5 fun k hk => ih k.length (by omega) k rfl
    · exact mid_small m h0 h5
theorem nth_any (l : List Hit) : NthC l := both l.length l rfl
set_option maxRecDepth 100000 in
set_option maxHeartbeats 800000 in
theorem lives_any (w : World) : Calls Try.prog 6 #[] w fun e w' => e = .returned (.bool true) ∧ Below w.heap.size w w' := by
  have hN : Hid (∀ W g, g < W.heap.size → Blk W g 26 #[.int .i64 0, .int .i64 5, .int .i64 1, .int .i64 3, .int .i64 2, .int .i64 4] → Calls Try.prog 7 #[.slice (some ⟨g, 0, none⟩) 3 3, .int .i64 1] W fun e w' => e = .returned (.tuple #[.agg #[.int .i64 2, .int .i64 4], .bool true]) ∧ Below W.heap.size W w') := Lib.hid fun W g hg hk => by
    have hs : Sl W W.heap.size (some ⟨g, 0, none⟩) (fv [(0, 5), (1, 3), (2, 4)]) := fun j u hj => ⟨_, rfl, hg, by
      have e : (⟨g, 0, none⟩ : Addr).add j = ⟨g, j, none⟩ := by simp [Addr.add]; intro h; exact h.symm
      rw [e, hk.cell j]
      simpa [fv, fc] using hj⟩
    have h := nth_any [(0, 5), (1, 3), (2, 4)] (some ⟨g, 0, none⟩) 3 _ 1 W (by decide) (Nat.le_refl _) (by decide) hs
    refine h.mono ?_
    rintro e w' ⟨x, ok, he, ho, hb⟩
    have hn : nth [(0, 5), (1, 3), (2, 4)] 1 = some (2, 4) := by decide
    rw [hn] at ho
    obtain ⟨rfl, rfl⟩ := Prod.mk.inj ho
    exact ⟨he, hb⟩
  have hb0 : Blk (w.alloc (.cells #[.int .i64 0, .int .i64 5, .int .i64 1, .int .i64 3, .int .i64 2, .int .i64 4] 26)) w.heap.size 26 #[.int .i64 0, .int .i64 5, .int .i64 1, .int .i64 3, .int .i64 2, .int .i64 4] := Blk.new w _ _
  have HC := Lib.hid (hN.out _ w.heap.size (by simp) hb0)
  clear hN hb0
  go_enter Try.func6, Try.ntmps6
  go_wp2_with (fail)
  refine HC.out.mono ?_
  rintro e w2 ⟨rfl, h2⟩
  have HB : Hid (Below w.heap.size w (w2.alloc (.cells #[.int .i64 2, .int .i64 4] 26))) := Lib.hid (by
    have h1 : Below w.heap.size w (w.alloc (.cells #[.int .i64 0, .int .i64 5, .int .i64 1, .int .i64 3, .int .i64 2, .int .i64 4] 26)) := (Below.refl _ w).alloc (Nat.le_refl _) _
    have h3 := h1.trans (h2.mono h1.size)
    exact h3.alloc h3.size _)
  clear h2 HC
  go_wp2_with (fail)
  go_ret
  exact ⟨rfl, HB.out⟩
end Go.Proofs.Ytikdnpfnijhkkaa.far
