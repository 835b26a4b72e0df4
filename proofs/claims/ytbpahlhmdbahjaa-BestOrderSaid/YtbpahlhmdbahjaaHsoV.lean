/-
  The contract of choosePivotCmpFunc: a place of the part.
-/
import Derived.Test.YtbpahlhmdbahjaaHsoC
namespace Go.Proofs.Ytbpahlhmdbahjaa.hso
open Go.RowKit law bytes only flat hit heapM best Go.Sort Go.Shelf
set_option linter.unusedVariables false

/-- a sum, a product, a quotient that fit -/
theorem q4 (n q : Nat) (h : q = n / 4) : ((n : Int) / 4) = (q : Int) := by omega
set_option maxRecDepth 100000 in
set_option maxHeartbeats 3200000 in
theorem pivot_any {hb K : Nat} {v : Value} {cf : Hit → Hit → Int} {base g c : Nat} {d : Array Hit} {w : World} (hc : Cm hb K v cf w) (hr : HRow w base g c d) (a b : Nat) (hab : a + 12 < b) (hb2 : b ≤ d.size) (hsz : d.size < 2305843009213693952) :
    Calls Try.prog 46 #[.slice (some ⟨g, 0, none⟩) d.size c, .int .i64 a, .int .i64 b, FV hb] w fun e w' =>
      ∃ (p : Nat) (k : Int), e = .returned (.tuple #[.int .i64 p, .int .i64 k]) ∧ a ≤ p ∧ p < b ∧ Below w.heap.size w w' := by
  obtain ⟨s, hs⟩ : ∃ s, s = w.heap.size := ⟨_, rfl⟩
  have hsg : s ≠ g := by have := hr.lt; omega
  have hsh : s ≠ hb := by have := hc.blk.lt; omega
  have hall : Below w.heap.size w (w.alloc (.cells #[.int .i64 0] 3)) := (Below.refl _ _).alloc (Nat.le_refl _) _
  have hsw : Sw hb K v cf base g c d s (w.alloc (.cells #[.int .i64 0] 3)) := ⟨hc.below hall (Nat.le_refl _), hr.below hall (Nat.le_refl _), hsg, hsh, 0, hs ▸ Blk.new w _ _⟩
  have HW := Lib.hid hsw
  have HA := Lib.hid hall
  clear hc hr hsg hsh hsw hall
  obtain ⟨fv, hfv⟩ : ∃ fv, fv = FV hb := ⟨_, rfl⟩
  have HM : Hid (∀ (W : World) (x y z : Nat), Sw hb K v cf base g c d s W → x < d.size → y < d.size → z < d.size → Calls Try.prog 57 #[.slice (some ⟨g, 0, none⟩) d.size c, .int .i64 x, .int .i64 y, .int .i64 z, .pointer (some ⟨s, 0, none⟩), fv] W fun e w' =>
      ∃ p : Nat, e = .returned (.int .i64 p) ∧ (p = x ∨ p = y ∨ p = z) ∧ Only (· = s) W w' ∧ Sw hb K v cf base g c d s w') := Lib.hid fun W x y z h hx hy hz => by
    rw [hfv]; exact median_any h x y z hx hy hz hsz
  have HN : Hid (∀ (W : World) (x : Nat), Sw hb K v cf base g c d s W → 0 < x → x + 1 < d.size → Calls Try.prog 56 #[.slice (some ⟨g, 0, none⟩) d.size c, .int .i64 x, .pointer (some ⟨s, 0, none⟩), fv] W fun e w' =>
      ∃ p : Nat, e = .returned (.int .i64 p) ∧ (p = x - 1 ∨ p = x ∨ p = x + 1) ∧ Only (· = s) W w' ∧ Sw hb K v cf base g c d s w') := Lib.hid fun W x h hx hy => by
    rw [hfv]; exact adjacent_any h x hx hy hsz
  rw [← hfv]
  clear hfv
  obtain ⟨l, hl⟩ : ∃ l, l = b - a := ⟨_, rfl⟩
  obtain ⟨q, hq⟩ : ∃ q, q = l / 4 := ⟨_, rfl⟩
  obtain ⟨qq, hqq⟩ : ∃ qq, qq = q * 2 := ⟨_, rfl⟩
  obtain ⟨qqq, hqqq⟩ : ∃ qqq, qqq = q * 3 := ⟨_, rfl⟩
  obtain ⟨i, hi⟩ : ∃ i, i = a + q := ⟨_, rfl⟩
  obtain ⟨j, hj⟩ : ∃ j, j = a + qq := ⟨_, rfl⟩
  obtain ⟨k, hk⟩ : ∃ k, k = a + qqq := ⟨_, rfl⟩
  have i1 : IntKind.i64.wrap ((b : Int) - (a : Int)) = (l : Int) := w64 (by omega) (by omega) (by omega)
  have i2 : ((l : Int) / 4) = (q : Int) := by omega
  have i3 : IntKind.i64.wrap ((q : Int) * 1) = (q : Int) := w64 (by omega) (by omega) (by omega)
  have i3b : IntKind.i64.wrap (q : Int) = (q : Int) := w64 (by omega) (by omega) (by omega)
  have i4 : IntKind.i64.wrap ((q : Int) * 2) = (qq : Int) := w64 (by omega) (by omega) (by omega)
  have i5 : IntKind.i64.wrap ((q : Int) * 3) = (qqq : Int) := w64 (by omega) (by omega) (by omega)
  have i6 : IntKind.i64.wrap ((a : Int) + (q : Int)) = (i : Int) := w64 (by omega) (by omega) (by omega)
  have i7 : IntKind.i64.wrap ((a : Int) + (qq : Int)) = (j : Int) := w64 (by omega) (by omega) (by omega)
  have i8 : IntKind.i64.wrap ((a : Int) + (qqq : Int)) = (k : Int) := w64 (by omega) (by omega) (by omega)
  have i9 : (8 : Int) ≤ (l : Int) := by omega
  have HI : Hid (a + 2 ≤ i ∧ i + 2 < b ∧ a + 2 ≤ j ∧ j + 2 < b ∧ a + 2 ≤ k ∧ k + 2 < b) := Lib.hid ⟨by omega, by omega, by omega, by omega, by omega, by omega⟩
  clear hl hq hqq hqqq hi hj hk
  have HS := Lib.hid hs
  rw [hs] at HM HN
  clear hs
  go_enter Try.func46, Try.ntmps46
  rw [← HS.out] at HM HN
  by_cases h50 : (50 : Int) ≤ (l : Int)
  · go_wp2_with (fail)
    rw [← HS.out]
    refine (HN.out _ i HW.out (by have := HI.out; omega) (by have := HI.out; omega)).mono ?_
    rintro e w2 ⟨p1, rfl, hp1, ho2, h2⟩
    have P1 := Lib.hid hp1
    have O2 := Lib.hid ho2
    have S2 := Lib.hid h2
    clear hp1 ho2 h2
    go_wp2_with (fail)
    refine (HN.out _ j S2.out (by have := HI.out; omega) (by have := HI.out; omega)).mono ?_
    rintro e w3 ⟨p2, rfl, hp2, ho3, h3⟩
    have P2 := Lib.hid hp2
    have O3 := Lib.hid ho3
    have S3 := Lib.hid h3
    clear hp2 ho3 h3 S2
    go_wp2_with (fail)
    refine (HN.out _ k S3.out (by have := HI.out; omega) (by have := HI.out; omega)).mono ?_
    rintro e w4 ⟨p3, rfl, hp3, ho4, h4⟩
    have HP : Hid (a ≤ p1 ∧ p1 < b ∧ a ≤ p2 ∧ p2 < b ∧ a ≤ p3 ∧ p3 < b) := Lib.hid (by have := HI.out; have := P1.out; have := P2.out; omega)
    have HO : Hid (Only (· = s) (w.alloc (.cells #[.int .i64 0] 3)) w4) := Lib.hid ((O2.out.trans O3.out fun _ e => .inl e).trans ho4 fun _ e => .inl e)
    have SW := Lib.hid h4
    clear hp3 ho4 h4 S3 P1 P2 O2 O3 HI
    go_wp2_with (fail)
    refine (HM.out _ p1 p2 p3 SW.out (by have := HP.out; omega) (by have := HP.out; omega) (by have := HP.out; omega)).mono ?_
    rintro e w5 ⟨p, rfl, hp, ho5, h5⟩
    obtain ⟨n, hn⟩ := h5.blk
    have c0 := hn.cell 0
    change w5.cell? _ = some (.int .i64 n) at c0
    have HPP : Hid (a ≤ p ∧ p < b) := Lib.hid (by have := HP.out; omega)
    have HOO : Hid (Below w.heap.size w w5) := Lib.hid (HA.out.trans ((HO.out.trans ho5 fun _ e => .inl e).below (Below.size HA.out) fun i e => by have h1 := HS.out; have h2 : i = s := e; omega))
    clear hp ho5 h5 hn SW HO HP HM HN HW
    by_cases hn0 : n = 0
    · subst hn0
      go_wp2_with (fail)
      refine bodyPost_ret (v := .tuple #[.int .i64 p, .int .i64 1]) (by simp [results, Try.results46, go_sem]) rfl ?_
      exact ⟨p, 1, rfl, HPP.out.1, HPP.out.2, HOO.out⟩
    · by_cases hn12 : n = 12
      · subst hn12
        go_wp2_with (fail)
        refine bodyPost_ret (v := .tuple #[.int .i64 p, .int .i64 2]) (by simp [results, Try.results46, go_sem]) rfl ?_
        exact ⟨p, 2, rfl, HPP.out.1, HPP.out.2, HOO.out⟩
      · go_wp2_with (fail)
        refine bodyPost_ret (v := .tuple #[.int .i64 p, .int .i64 0]) (by simp [results, Try.results46, go_sem]) rfl ?_
        exact ⟨p, 0, rfl, HPP.out.1, HPP.out.2, HOO.out⟩
  · obtain ⟨p1, hp1⟩ : ∃ p1, p1 = i := ⟨_, rfl⟩
    obtain ⟨p2, hp2⟩ : ∃ p2, p2 = j := ⟨_, rfl⟩
    obtain ⟨p3, hp3⟩ : ∃ p3, p3 = k := ⟨_, rfl⟩
    have HP : Hid (a ≤ p1 ∧ p1 < b ∧ a ≤ p2 ∧ p2 < b ∧ a ≤ p3 ∧ p3 < b) := Lib.hid (by have := HI.out; omega)
    rw [← hp1] at i6
    rw [← hp2] at i7
    rw [← hp3] at i8
    have HO : Hid (Only (· = s) (w.alloc (.cells #[.int .i64 0] 3)) (w.alloc (.cells #[.int .i64 0] 3))) := Lib.hid (Only.refl _ _)
    have SW := HW
    clear hp1 hp2 hp3 HI
    go_wp2_with (fail)
    rw [← HS.out]
    refine (HM.out _ p1 p2 p3 SW.out (by have := HP.out; omega) (by have := HP.out; omega) (by have := HP.out; omega)).mono ?_
    rintro e w5 ⟨p, rfl, hp, ho5, h5⟩
    obtain ⟨n, hn⟩ := h5.blk
    have c0 := hn.cell 0
    change w5.cell? _ = some (.int .i64 n) at c0
    have HPP : Hid (a ≤ p ∧ p < b) := Lib.hid (by have := HP.out; omega)
    have HOO : Hid (Below w.heap.size w w5) := Lib.hid (HA.out.trans ((HO.out.trans ho5 fun _ e => .inl e).below (Below.size HA.out) fun i e => by have h1 := HS.out; have h2 : i = s := e; omega))
    clear hp ho5 h5 hn SW HO HP HM HN HW
    by_cases hn0 : n = 0
    · subst hn0
      go_wp2_with (fail)
      refine bodyPost_ret (v := .tuple #[.int .i64 p, .int .i64 1]) (by simp [results, Try.results46, go_sem]) rfl ?_
      exact ⟨p, 1, rfl, HPP.out.1, HPP.out.2, HOO.out⟩
    · by_cases hn12 : n = 12
      · subst hn12
        go_wp2_with (fail)
        refine bodyPost_ret (v := .tuple #[.int .i64 p, .int .i64 2]) (by simp [results, Try.results46, go_sem]) rfl ?_
        exact ⟨p, 2, rfl, HPP.out.1, HPP.out.2, HOO.out⟩
      · go_wp2_with (fail)
        refine bodyPost_ret (v := .tuple #[.int .i64 p, .int .i64 0]) (by simp [results, Try.results46, go_sem]) rfl ?_
        exact ⟨p, 0, rfl, HPP.out.1, HPP.out.2, HOO.out⟩
end Go.Proofs.Ytbpahlhmdbahjaa.hso
