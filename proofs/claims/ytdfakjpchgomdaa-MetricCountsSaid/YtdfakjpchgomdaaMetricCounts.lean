/-
  For all metrics and rows of asks the law MetricCounts returns true, and changes nothing that there was.
-/
import Derived.Test.YtdfakjpchgomdaaAskO
import Derived.Deep.RegionHeld3
namespace Go.Proofs.Ytdfakjpchgomdaa.metricCounts
open Go.RowKit law bytes nums ord obj metric
open Go.ChangeShapes Go.WideShapes Go.ChangeAt
set_option linter.unusedVariables false

theorem small_of {x : Thing} (h : shortP 120 x = true) (hO : Okay x) : Small x := by
  obtain ⟨h1, h2⟩ := (shortP_iff 120 x).1 h
  exact ⟨hO.2, by omega, by omega⟩
/-- the law's memory in a round: the meter, the ask's copy; all that there was -/
def St (w W : World) (g b : Nat) (n k an most : Int) (A A' : Option Addr) (c c' : Nat) (x y : Thing) (up : Bool) : Prop :=
  Below w.heap.size w W ∧ Mt W g n k ∧ Blk W b 26 #[.int .i64 an, .int .i64 x.tag, .slice A x.vec.length c, .string x.str, .int .i64 y.tag, .slice A' y.vec.length c', .string y.str, .int .i64 most, .bool up] ∧ w.heap.size ≤ g ∧ g ≠ b
section
variable {w W W' : World} {g b : Nat} {n k k' an most : Int} {A A' : Option Addr} {c c' : Nat} {x y : Thing} {up : Bool}
theorem St.gives (h : St w W g b n k an most A A' c c' x y up) (hb : Below W.heap.size W W') : St w W' g b n k an most A A' c c' x y up :=
  ⟨h.1.trans (hb.mono h.1.size), h.2.1.below hb h.2.1.lt, h.2.2.1.below hb h.2.2.1.lt, h.2.2.2⟩
theorem below_meter (h : Below w.heap.size w W) (hg : w.heap.size ≤ g) (hgr : W.grownBy W' (some g)) : Below w.heap.size w W' :=
  h.grown hgr h.size (fun r hr => by cases hr; exact hg)
theorem St.asked (h : St w W g b n k an most A A' c c' x y up) (hgr : W.grownBy W' (some g)) (hm : Mt W' g n k') : St w W' g b n k' an most A A' c c' x y up :=
  ⟨below_meter h.1 h.2.2.2.1 hgr, hm, h.2.2.1.grown hgr (fun e => h.2.2.2.2 (by injection e with e; exact e.symm)), h.2.2.2⟩
theorem St.cells (h : St w W g b n k an most A A' c c' x y up) : W.cell? ⟨b, 0, none⟩ = some (.int .i64 an) ∧ W.cell? ⟨b, 1, none⟩ = some (.int .i64 x.tag) ∧ W.cell? ⟨b, 2, none⟩ = some (.slice A x.vec.length c) ∧ W.cell? ⟨b, 3, none⟩ = some (.string x.str) ∧ W.cell? ⟨b, 4, none⟩ = some (.int .i64 y.tag) ∧ W.cell? ⟨b, 5, none⟩ = some (.slice A' y.vec.length c') ∧ W.cell? ⟨b, 6, none⟩ = some (.string y.str) ∧ W.cell? ⟨b, 7, none⟩ = some (.int .i64 most) ∧ W.cell? ⟨b, 8, none⟩ = some (.bool up) := by
  have h := h.2.2.1
  exact ⟨h.cell 0, h.cell 1, h.cell 2, h.cell 3, h.cell 4, h.cell 5, h.cell 6, h.cell 7, h.cell 8⟩
theorem St.sl (h : St w W g b n k an most A A' c c' x y up) {C : Option Addr} {v : List Int} (s : Sl w w.heap.size C (iv v)) : Sl W W.heap.size C (iv v) := (s.below h.1).more h.1.size
end
/-- a row of asks in memory -/
def Asks (w : World) (B : Option Addr) (l : List metric.Ask) : Prop := ∀ i (hi : i < l.length), ∃ ad, B = some ad ∧ ∀ j, j < 9 → w.cell? (ad.add (i * 9 + j)) = (ac l[i])[j]?
theorem spot_none {w : World} {ad : Addr} {v : Value} (h : w.cell? ad = some v) : ad = ⟨ad.block, ad.off, none⟩ := by
  obtain ⟨b, o, s⟩ := ad
  cases s with
  | none => rfl
  | some s =>
    simp only [World.cell?] at h
    split at h
    · simp at h
    · cases h
theorem Asks.row {w : World} {B : Option Addr} {l : List metric.Ask} (h : Asks w B l) (hl : 0 < l.length) : ∃ b o, B = some ⟨b, o, none⟩ ∧ b < w.heap.size := by
  obtain ⟨ad, rfl, hc⟩ := h 0 hl
  have h0 := hc 0 (by decide)
  have e : ad.add (0 * 9 + 0) = ad := by unfold Addr.add; simp
  rw [e] at h0
  have h1 : w.cell? ad = some (.int .i64 l[0].n) := h0
  exact ⟨ad.block, ad.off, by rw [← spot_none h1], World.block_lt_of_cell? w _ h1⟩
theorem Asks.at_ {w : World} {l : List metric.Ask} {b o : Nat} (h : Asks w (some ⟨b, o, none⟩) l) (k : Nat) (hk : k < l.length) (j : Nat) (hj : j < 9) : w.cell? ⟨b, o + k * 9 + j, none⟩ = (ac l[k])[j]? := by
  obtain ⟨ad, e, hc⟩ := h k hk
  injection e with e
  subst e
  have := hc j hj
  unfold Addr.add at this
  split at this
  · rename_i h0
    rw [show o + k * 9 + j = o from by omega]
    exact this
  · simpa [Nat.add_assoc] using this
def Yes (b : Bool) : Prop := b = true
theorem yes : Yes true := rfl
/-- what the law asks in a round, of things that are short enough -/
def Law (w wr : World) (n an most : Int) (A A' : Option Addr) (c c' : Nat) (x y : Thing) (up : Bool) : Prop :=
  ∃ (d u : Int) (o : Bool),
    (∀ W j, St w W w.heap.size wr.heap.size n j an most A A' c c' x y up → Calls Try.prog 8 #[.int .i64 n, .agg #[.int .i64 x.tag, .slice A x.vec.length c, .string x.str], .agg #[.int .i64 y.tag, .slice A' y.vec.length c', .string y.str]] W (Gives (.int .i64 d) W)) ∧
    (∀ W j, 0 ≤ j → j < 9223372036854775807 → St w W w.heap.size wr.heap.size n j an most A A' c c' x y up → Calls Try.prog 16 #[.pointer (some ⟨w.heap.size, 0, none⟩), .agg #[.int .i64 x.tag, .slice A x.vec.length c, .string x.str], .agg #[.int .i64 y.tag, .slice A' y.vec.length c', .string y.str], .int .i64 most] W (Asked w.heap.size n (j + 1) (.tuple #[.int .i64 u, .bool o]) W)) ∧
    (∀ W j, 0 ≤ j → j < 9223372036854775807 → St w W w.heap.size wr.heap.size n j an most A A' c c' x y up → Calls Try.prog 17 #[.pointer (some ⟨w.heap.size, 0, none⟩), .agg #[.int .i64 x.tag, .slice A x.vec.length c, .string x.str], .agg #[.int .i64 y.tag, .slice A' y.vec.length c', .string y.str]] W (Asked w.heap.size n (j + 1) (.int .i64 d) W)) ∧
    decide (d ≤ most) = o ∧ ((o = true ∧ u = d) ∨ (o = false ∧ u = 0))
theorem law_of {w wr : World} {n an most : Int} {A A' : Option Addr} {c c' : Nat} {x y : Thing} {up : Bool} (o1 : Lies w ⟨A, c, x⟩) (o2 : Lies w ⟨A', c', y⟩) (hs : shortL 120 [⟨A, c, x⟩, ⟨A', c', y⟩] = true) : Law w wr n an most A A' c c' x y up := by
  simp only [shortL, List.all_cons, List.all_nil, Bool.and_true, Bool.and_eq_true] at hs
  have hx := small_of hs.1 o1.2
  have hy := small_of hs.2 o2.2
  refine ⟨M n x y, ups (M n x y) most, decide (M n x y ≤ most), fun W j h => rdist_any n A A' c c' x y hx hy W (h.sl o1.1) (h.sl o2.1), fun W j j1 j2 h => cupto_any A A' c c' x y hx hy W (h.sl o1.1) (h.sl o2.1) h.2.1 ⟨j1, j2⟩ most,
    fun W j j1 j2 h => cdist_any A A' c c' x y hx hy W (h.sl o1.1) (h.sl o2.1) h.2.1 ⟨j1, j2⟩, rfl, ?_⟩
  unfold ups
  by_cases h : M n x y ≤ most
  · exact .inl ⟨decide_eq_true h, if_pos h⟩
  · exact .inr ⟨decide_eq_false h, if_neg h⟩
set_option maxRecDepth 100000 in
set_option maxHeartbeats 6400000 in
theorem walk (B : Option Addr) (cap : Nat) (n : Int) (l : List metric.Ask) (w : World) (hl : l.length ≤ 9223372036854775807) (hr : Asks w B l) (ho : ∀ i (hi : i < l.length), Lies w l[i].x ∧ Lies w l[i].y) :
    Calls Try.prog 5 #[.int .i64 n, .slice B l.length cap] w (Gives (.bool true) w) := by
  have hnone : ∀ W, Calls Try.prog 18 #[.pointer none] W fun e w' => e = .returned (.int .i64 0) ∧ W = w' := fun W => calls_none W
  have HN1 := Lib.hid hnone
  have HR := Lib.hid hr
  have HO := Lib.hid ho
  clear hnone hr ho
  go_enter Try.func5, Try.ntmps5
  go_wp2_with (fail)
  refine (new_any n w).mono ?_
  rintro e w1 ⟨rfl, hm1, hb1⟩
  go_wp2_with (fail)
  go_loopw [7] (fun i wr => ∃ k : Nat, k ≤ l.length ∧ i = .int .i64 k ∧ Mt wr w.heap.size n k ∧ Below w.heap.size w wr) (fun i _ => l.length - (intOf i).toNat)
  case atStart => exact ⟨0, Nat.zero_le _, rfl, hm1, hb1⟩
  case round =>
    obtain ⟨k, hk, rfl, hm, hb⟩ := hrel
    clear hm1 hb1 w1
    by_cases hlt : k < l.length
    · obtain ⟨rb, ro, rfl, hrb⟩ := HR.out.row (by omega)
      have hat := HR.out.at_ k hlt
      obtain ⟨h1, h2⟩ := HO.out k hlt
      generalize l[k] = q at hat h1 h2
      obtain ⟨an, ⟨A, c, x⟩, ⟨A', c', y⟩, most, up⟩ := q
      have hcell : ∀ j, j < 9 → wr.cell? ⟨rb, ro + k * 9 + j, none⟩ = (ac ⟨an, ⟨A, c, x⟩, ⟨A', c', y⟩, most, up⟩)[j]? := fun j hj => (hb.cell (p := ⟨rb, ro + k * 9 + j, none⟩) hrb).trans (hat j hj)
      have p0 : wr.cell? ⟨rb, ro + k * 9, none⟩ = some (.int .i64 an) := hcell 0 (by decide)
      have p1 : wr.cell? ⟨rb, ro + k * 9 + 1, none⟩ = some (.int .i64 x.tag) := hcell 1 (by decide)
      have p2 : wr.cell? ⟨rb, ro + k * 9 + 2, none⟩ = some (.slice A x.vec.length c) := hcell 2 (by decide)
      have p3 : wr.cell? ⟨rb, ro + k * 9 + 3, none⟩ = some (.string x.str) := hcell 3 (by decide)
      have p4 : wr.cell? ⟨rb, ro + k * 9 + 4, none⟩ = some (.int .i64 y.tag) := hcell 4 (by decide)
      have p5 : wr.cell? ⟨rb, ro + k * 9 + 5, none⟩ = some (.slice A' y.vec.length c') := hcell 5 (by decide)
      have p6 : wr.cell? ⟨rb, ro + k * 9 + 6, none⟩ = some (.string y.str) := hcell 6 (by decide)
      have p7 : wr.cell? ⟨rb, ro + k * 9 + 7, none⟩ = some (.int .i64 most) := hcell 7 (by decide)
      have p8 : wr.cell? ⟨rb, ro + k * 9 + 8, none⟩ = some (.bool up) := hcell 8 (by decide)
      clear hat hcell
      have hk0 := Blk.new wr 26 #[.int .i64 an, .int .i64 x.tag, .slice A x.vec.length c, .string x.str, .int .i64 y.tag, .slice A' y.vec.length c', .string y.str, .int .i64 most, .bool up]
      obtain ⟨r0, r1, r2, r3, r4, r5, r6, r7, r8⟩ := St.cells (w := w) (n := n) (k := k) ⟨hb.alloc hb.size _, hm.below (box_blk wr _ _) hm.lt, hk0, Nat.le_refl _, Nat.ne_of_lt hm.lt⟩
      have rf := hk0.frozen
      have hb0 : Below w.heap.size w ((wr.alloc (.cells #[.int .i64 an, .int .i64 x.tag, .slice A x.vec.length c, .string x.str, .int .i64 y.tag, .slice A' y.vec.length c', .string y.str, .int .i64 most, .bool up] 26)).alloc (.cells #[.int .i64 x.tag, .slice A x.vec.length c, .string x.str, .int .i64 y.tag, .slice A' y.vec.length c', .string y.str] 24)) := (hb.alloc hb.size _).alloc (by have := hb.size; simp; omega) _
      have hst : St w ((wr.alloc (.cells #[.int .i64 an, .int .i64 x.tag, .slice A x.vec.length c, .string x.str, .int .i64 y.tag, .slice A' y.vec.length c', .string y.str, .int .i64 most, .bool up] 26)).alloc (.cells #[.int .i64 x.tag, .slice A x.vec.length c, .string x.str, .int .i64 y.tag, .slice A' y.vec.length c', .string y.str] 24)) w.heap.size wr.heap.size n k an most A A' c c' x y up :=
        ⟨hb0, (hm.below (box_blk wr _ _) hm.lt).below (box_blk _ _ _) (by have := hm.lt; simp; omega), hk0.alloc _, Nat.le_refl _, Nat.ne_of_lt hm.lt⟩
      have hz0 : (wr.alloc (.cells #[.int .i64 an, .int .i64 x.tag, .slice A x.vec.length c, .string x.str, .int .i64 y.tag, .slice A' y.vec.length c', .string y.str, .int .i64 most, .bool up] 26)).heap.size = wr.heap.size + 1 := by simp
      have hSH := short_any [⟨A, c, x⟩, ⟨A', c', y⟩] 120 (wr.heap.size + 1) 24 2 ((wr.alloc (.cells #[.int .i64 an, .int .i64 x.tag, .slice A x.vec.length c, .string x.str, .int .i64 y.tag, .slice A' y.vec.length c', .string y.str, .int .i64 most, .bool up] 26)).alloc (.cells #[.int .i64 x.tag, .slice A x.vec.length c, .string x.str, .int .i64 y.tag, .slice A' y.vec.length c', .string y.str] 24)) (hz0 ▸ Blk.new _ _ _) (by simp)
      obtain ⟨rs, hrs⟩ : ∃ rs, rs = shortL 120 [⟨A, c, x⟩, ⟨A', c', y⟩] := ⟨_, rfl⟩
      rw [← hrs] at hSH
      have HSH : Hid (Calls Try.prog 6 #[.slice (some ⟨wr.heap.size + 1, 0, none⟩) 2 2, .int .i64 120] ((wr.alloc (.cells #[.int .i64 an, .int .i64 x.tag, .slice A x.vec.length c, .string x.str, .int .i64 y.tag, .slice A' y.vec.length c', .string y.str, .int .i64 most, .bool up] 26)).alloc (.cells #[.int .i64 x.tag, .slice A x.vec.length c, .string x.str, .int .i64 y.tag, .slice A' y.vec.length c', .string y.str] 24)) fun e w' => e = .returned (.bool rs) ∧ ((wr.alloc (.cells #[.int .i64 an, .int .i64 x.tag, .slice A x.vec.length c, .string x.str, .int .i64 y.tag, .slice A' y.vec.length c', .string y.str, .int .i64 most, .bool up] 26)).alloc (.cells #[.int .i64 x.tag, .slice A x.vec.length c, .string x.str, .int .i64 y.tag, .slice A' y.vec.length c', .string y.str] 24)) = w') := Lib.hid hSH
      have HP : Hid (Yes rs → Law w wr n an most A A' c c' x y up) := Lib.hid fun hy => law_of h1 h2 (hrs ▸ hy)
      clear hSH hrs h1 h2 hk0 hz0 hm hb hb0
      go_wp2_with (fail)
      refine HSH.out.mono ?_
      rintro e w2 ⟨rfl, rfl⟩
      clear p0 p1 p2 p3 p4 p5 p6 p7 p8 r0 r1 r2 r3 r4 r5 r6 r7 r8 rf
      obtain ⟨V, hV⟩ : ∃ V, V = ((wr.alloc (.cells #[.int .i64 an, .int .i64 x.tag, .slice A x.vec.length c, .string x.str, .int .i64 y.tag, .slice A' y.vec.length c', .string y.str, .int .i64 most, .bool up] 26)).alloc (.cells #[.int .i64 x.tag, .slice A x.vec.length c, .string x.str, .int .i64 y.tag, .slice A' y.vec.length c', .string y.str] 24)) := ⟨_, rfl⟩
      rw [← hV] at hst ⊢
      clear hV HSH
      obtain ⟨r0, r1, r2, r3, r4, r5, r6, r7, r8⟩ := hst.cells
      cases rs
      · have HB := Lib.hid hst.1
        clear hst HP
        go_wp2_with (fail)
        refine (lives_any _).mono ?_
        rintro e w3 ⟨rfl, hb3⟩
        go_wp2_with (fail)
        go_ret
        exact ⟨rfl, HB.out.trans (hb3.mono HB.out.size)⟩
      obtain ⟨d, u, o, g1, g2, g3, e1, e2⟩ := HP.out yes
      have H1 := Lib.hid g1
      have H2 := Lib.hid g2
      have H3 := Lib.hid g3
      clear g1 g2 g3 HP
      have HST := Lib.hid hst
      clear hst
      go_wp2_with (fail)
      refine (H1.out V _ HST.out).mono ?_
      rintro e w2 ⟨rfl, hb2⟩
      have HST2 := Lib.hid (HST.out.gives hb2)
      obtain ⟨r0, r1, r2, r3, r4, r5, r6, r7, r8⟩ := HST2.out.cells
      clear hb2 HST
      cases up
      · go_wp2_with (fail)
        refine (H3.out w2 k (by omega) (by omega) HST2.out).mono ?_
        rintro e w3 ⟨rfl, hg3, hm3⟩
        have HST3 := Lib.hid (HST2.out.asked hg3 hm3)
        obtain ⟨r0, r1, r2, r3, r4, r5, r6, r7, r8⟩ := HST3.out.cells
        clear hg3 hm3 HST2
        go_wp2_with (fail)
        refine (cupto_none A A' c c' x y most w3).mono ?_
        rintro e w4 ⟨rfl, hb4⟩
        have HST4 := Lib.hid (HST3.out.gives hb4)
        obtain ⟨r0, r1, r2, r3, r4, r5, r6, r7, r8⟩ := HST4.out.cells
        clear hb4 HST3
        go_wp2_with (fail)
        refine (calls_any w4 HST4.out.2.1).mono ?_
        rintro e w5 ⟨rfl, rfl⟩
        go_wp2_with (fail)
        refine (cdist_none A A' c c' x y w4).mono ?_
        rintro e w5 ⟨rfl, hb5⟩
        have HST5 := Lib.hid (HST4.out.gives hb5)
        clear hb5 HST4
        go_wp2_with (fail)
        go_roundw
        case rel => exact ⟨k + 1, by omega, by go_num, HST5.out.2.1, HST5.out.1⟩
        case measure => simp [intOf]; omega
      · have hcase : (o = true ∧ u = d) ∨ (o = false ∧ u = 0) := e2
        have HC := Lib.hid hcase
        clear hcase e2
        go_wp2_with (fail)
        refine (H2.out w2 k (by omega) (by omega) HST2.out).mono ?_
        rintro e w3 ⟨rfl, hg3, hm3⟩
        have HST3 := Lib.hid (HST2.out.asked hg3 hm3)
        rcases HC.out with ⟨rfl, rfl⟩ | ⟨rfl, rfl⟩
        · obtain ⟨r0, r1, r2, r3, r4, r5, r6, r7, r8⟩ := HST3.out.cells
          clear hg3 hm3 HST2
          go_wp2_with (fail)
          refine (cupto_none A A' c c' x y most w3).mono ?_
          rintro e w4 ⟨rfl, hb4⟩
          have HST4 := Lib.hid (HST3.out.gives hb4)
          obtain ⟨r0, r1, r2, r3, r4, r5, r6, r7, r8⟩ := HST4.out.cells
          clear hb4 HST3
          go_wp2_with (fail)
          refine (calls_any w4 HST4.out.2.1).mono ?_
          rintro e w5 ⟨rfl, rfl⟩
          go_wp2_with (fail)
          refine (cdist_none A A' c c' x y w4).mono ?_
          rintro e w5 ⟨rfl, hb5⟩
          have HST5 := Lib.hid (HST4.out.gives hb5)
          clear hb5 HST4
          go_wp2_with (fail)
          go_roundw
          case rel => exact ⟨k + 1, by omega, by go_num, HST5.out.2.1, HST5.out.1⟩
          case measure => simp [intOf]; omega
        · obtain ⟨r0, r1, r2, r3, r4, r5, r6, r7, r8⟩ := HST3.out.cells
          clear hg3 hm3 HST2
          go_wp2_with (fail)
          refine (cupto_none A A' c c' x y most w3).mono ?_
          rintro e w4 ⟨rfl, hb4⟩
          have HST4 := Lib.hid (HST3.out.gives hb4)
          obtain ⟨r0, r1, r2, r3, r4, r5, r6, r7, r8⟩ := HST4.out.cells
          clear hb4 HST3
          go_wp2_with (fail)
          refine (calls_any w4 HST4.out.2.1).mono ?_
          rintro e w5 ⟨rfl, rfl⟩
          go_wp2_with (fail)
          refine (cdist_none A A' c c' x y w4).mono ?_
          rintro e w5 ⟨rfl, hb5⟩
          have HST5 := Lib.hid (HST4.out.gives hb5)
          clear hb5 HST4
          go_wp2_with (fail)
          go_roundw
          case rel => exact ⟨k + 1, by omega, by go_num, HST5.out.2.1, HST5.out.1⟩
          case measure => simp [intOf]; omega
    · obtain rfl : k = l.length := by omega
      go_wp2_with (fail)
      refine (metric_any wr hm).mono ?_
      rintro e w2 ⟨rfl, rfl⟩
      go_wp2_with (fail)
      refine (calls_none wr).mono ?_
      rintro e w2 ⟨rfl, rfl⟩
      go_wp2_with (fail)
      refine (metric_none wr).mono ?_
      rintro e w2 ⟨rfl, rfl⟩
      go_wp2_with (fail)
      refine (lives_any wr).mono ?_
      rintro e w2 ⟨rfl, hb2⟩
      go_wp2_with (fail)
      go_ret
      exact ⟨rfl, hb.trans (hb2.mono hb.size)⟩
theorem lifted (os : Os) (started : os.Started) (H : Type) (enc : TypeId × Value → H) :
    ReturnsInHanded {} Try.checked os 5 .any (Rows.metricCountsSpec.pre6 enc Try.prog Try.f5 Rows.metricCountsRow.domain false) (Rows.metricCountsSpec.post enc Try.prog Try.f5 false true false false) := by
  refine lift (C := Try.checked) (by kernel_rfl) started (by kernel_rfl) Try.func5 rfl (by kernel_rfl) (by kernel_rfl) rfl Try.underlying4
    (fun ds hd => by match ds, hd with | [_, _], _ => exact ⟨rfl, rfl, rfl⟩)
    (ChangeSpec.witness6 (enc := enc) (C := Try.checked) false ⟨#[], #[.int .i64 0, .slice none 0 0], []⟩ 8 (by kernel_rfl) (by kernel_rfl) (by kernel_rfl) (by kernel_rfl)) ?_
  intro W base args ds before hval0 hA0 hfz hsz
  have hval : ∀ (j : Nat) t v, Try.f5.params[j]? = some t → args[j]? = some v → Value.okWide Try.prog W .any base t v := hval0
  have hA : DataW.TrodAll enc Try.prog W 0 (fun _ => true) true Try.f5.params.toList args.toList ds before := hA0
  rw [Try.params5] at hA hval
  obtain ⟨v0, vs0, d0, ds0, p0, q0, hargs, rfl, rfl, h0, r0⟩ := trodAll_cons hA
  obtain ⟨v1, vs1, d1, ds1, p1, q1, rfl, rfl, rfl, h1, r1⟩ := trodAll_cons r0
  obtain ⟨rfl, rfl, rfl⟩ := trodAll_nil r1
  obtain rfl : args = #[v0, v1] := by cases args; simp_all
  obtain ⟨a0, rfl, rfl, rfl, w0⟩ := open_int Try.underlying3 (hval 0 3 v0 rfl rfl) h0
  have k : ∀ (fuel : Nat) (cs : List Value) (y : DataW H × List MemPlace), DataW.trod enc Try.prog W 0 (fun _ => true) true fuel 24 cs = some y → ∃ p : At, cs = oc p ∧ Lies W p := fun fuel cs y h =>
    cells_obj Try.underlying24 (by kernel_rfl) (by kernel_rfl) Try.underlying3 Try.underlying22 Try.underlying21 (by kernel_rfl) Try.underlying9 h
  have ka : ∀ (fuel : Nat) (cs : List Value) (y : DataW H × List MemPlace), DataW.trod enc Try.prog W 0 (fun _ => true) true fuel 26 cs = some y → ∃ q : metric.Ask, cs = ac q ∧ (Lies W q.x ∧ Lies W q.y) := fun fuel cs y h =>
    cells_ask Try.underlying26 (by kernel_rfl) (by kernel_rfl) (by kernel_rfl) Try.underlying3 Try.underlying3 Try.underlying4 k k h
  obtain ⟨B, cap, l, rfl, hl, ho, hr⟩ := open_row (N := 9) Try.underlying38 (by kernel_rfl) (by decide) ac_len ka (hval 1 38 v1 rfl rfl) h1
  exact walk B cap a0 l W hl hr ho

theorem proved : Rows.MetricCountsSaid :=
  OpenClaim.holds_of_wide 5 Try.f5 rfl rfl rfl rfl rfl rfl rfl ⟨rfl, rfl, rfl, rfl, rfl⟩ rfl rfl rfl rfl rfl (by kernel_rfl) Try.func5 (by kernel_rfl)
    (of_decide_eq_true (by kernel_rfl)) (by unfold Func.isWrapper; first | (rw [if_pos (by decide +kernel)]; kernel_rfl) | (rw [if_neg (by decide +kernel)]; exact ⟨rfl, rfl⟩))
    (fun os started H enc _ => lifted os started H enc)
#print axioms proved
end Go.Proofs.Ytdfakjpchgomdaa.metricCounts
