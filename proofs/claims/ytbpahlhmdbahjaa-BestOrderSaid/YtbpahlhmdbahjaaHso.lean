/-
  slices.SortFunc of hits by a method value, its parts: what a walk wants at each comparison and each exchange; the contracts of insertionSortCmpFunc, reverseRangeCmpFunc.
-/
import Derived.Test.YtbpahlhmdbahjaaBPush
import Derived.Sort.LotA
namespace Go.Proofs.Ytbpahlhmdbahjaa.hso
open Go.RowKit law bytes only flat hit heapM best Go.Sort Go.Shelf
set_option linter.unusedVariables false

/-- a heap's own comparison as a value -/
def FV (hb : Nat) : Value := .func (.func 36) #[.pointer (some ⟨hb, 0, none⟩)] #[]
/-- a heap's block and its order, in a world -/
structure Cm (hb K : Nat) (v : Value) (cf : Hit → Hit → Int) (w : World) : Prop where
  blk : Blk w hb 51 #[.func (.func K) #[] #[], v]
  ent : Enters Try.prog K
  ord : Ordr K tE cf
section
variable {hb K : Nat} {v : Value} {cf : Hit → Hit → Int} {w W : World} {base g c : Nat} {d : Array Hit} {S : Nat → Prop}
theorem Cm.only (h : Cm hb K v cf w) (o : Only S w W) (hn : ¬ S hb) : Cm hb K v cf W := ⟨Blk.only h.blk o hn, h.ent, h.ord⟩
theorem Cm.below {B : Nat} (h : Cm hb K v cf w) (o : Below B w W) (hB : w.heap.size ≤ B) : Cm hb K v cf W := ⟨h.blk.below o (Nat.lt_of_lt_of_le h.blk.lt hB), h.ent, h.ord⟩
theorem Cm.call (h : Cm hb K v cf w) (x y : Hit) : Calls Try.prog 36 #[.pointer (some ⟨hb, 0, none⟩), .agg #[.int .u64 x.1, .int .i64 x.2], .agg #[.int .u64 y.1, .int .i64 y.2]] w fun e w' => e = .returned (.int .i64 (cf x y)) ∧ Below w.heap.size w w' :=
  compare_hit K hb v cf h.ent x y w h.blk h.ord
/-- what a comparison of two places wants, and what it leaves -/
theorem cmp_step (hc : Cm hb K v cf w) (hr : HRow w base g c d) (i j : Nat) (hi : i < d.size) (hj : j < d.size) : ∃ (x y : Hit) (r : Int), d[i]! = x ∧ d[j]! = y ∧ lf cf x y = decide (r < 0) ∧
    Hid (∀ W, Below w.heap.size w W → W.cell? ⟨g, i * 2, none⟩ = some (.int .u64 x.1) ∧ W.cell? ⟨g, i * 2 + 1, none⟩ = some (.int .i64 x.2) ∧ W.cell? ⟨g, j * 2, none⟩ = some (.int .u64 y.1) ∧ W.cell? ⟨g, j * 2 + 1, none⟩ = some (.int .i64 y.2)) ∧
    Hid (∀ W, Below w.heap.size w W → Calls Try.prog 36 #[.pointer (some ⟨hb, 0, none⟩), .agg #[.int .u64 x.1, .int .i64 x.2], .agg #[.int .u64 y.1, .int .i64 y.2]] W fun e w' => e = .returned (.int .i64 r) ∧ Below w.heap.size w w') ∧
    w.cell? ⟨g, i * 2, none⟩ = some (.int .u64 x.1) ∧ w.cell? ⟨g, i * 2 + 1, none⟩ = some (.int .i64 x.2) ∧ w.cell? ⟨g, j * 2, none⟩ = some (.int .u64 y.1) ∧ w.cell? ⟨g, j * 2 + 1, none⟩ = some (.int .i64 y.2) :=
  have hS := fun W (hW : Below w.heap.size w W) => And.intro ((hr.below hW (Nat.le_refl _)).c1 i hi) (And.intro ((hr.below hW (Nat.le_refl _)).c2 i hi) (And.intro ((hr.below hW (Nat.le_refl _)).c1 j hj) ((hr.below hW (Nat.le_refl _)).c2 j hj)))
  ⟨d[i]!, d[j]!, cf d[i]! d[j]!, rfl, rfl, rfl, Lib.hid hS,
    Lib.hid fun W hW => ((hc.below hW (Nat.le_refl _)).call _ _).mono fun e w' ⟨he, hb'⟩ => ⟨he, hW.trans (hb'.mono hW.size)⟩, hS w (Below.refl _ _)⟩
/-- what an exchange of two places wants, and what it leaves -/
theorem swap_step (hr : HRow W base g c d) (i j : Nat) (hi : i < d.size) (hj : j < d.size) (ho : Only (· = g) w W) {x y : Hit} (hx : d[i]! = x) (hy : d[j]! = y) : W.cell? ⟨g, i * 2, none⟩ = some (.int .u64 x.1) ∧ W.cell? ⟨g, i * 2 + 1, none⟩ = some (.int .i64 x.2) ∧ W.cell? ⟨g, j * 2, none⟩ = some (.int .u64 y.1) ∧ W.cell? ⟨g, j * 2 + 1, none⟩ = some (.int .i64 y.2) ∧
    (W.frozen? ⟨g, i * 2, none⟩ = false ∧ W.frozen? ⟨g, i * 2 + 1, none⟩ = false ∧ W.frozen? ⟨g, j * 2, none⟩ = false ∧ W.frozen? ⟨g, j * 2 + 1, none⟩ = false) ∧
    (∃ u v : Value, ((W.setCell ⟨g, i * 2, none⟩ (.int .u64 y.1)).setCell ⟨g, i * 2 + 1, none⟩ (.int .i64 y.2)).cell? ⟨g, j * 2, none⟩ = some u ∧ ((W.setCell ⟨g, i * 2, none⟩ (.int .u64 y.1)).setCell ⟨g, i * 2 + 1, none⟩ (.int .i64 y.2)).cell? ⟨g, j * 2 + 1, none⟩ = some v ∧ (((W.setCell ⟨g, i * 2, none⟩ (.int .u64 y.1)).setCell ⟨g, i * 2 + 1, none⟩ (.int .i64 y.2)).setCell ⟨g, j * 2, none⟩ (.int .u64 x.1)).cell? ⟨g, j * 2 + 1, none⟩ = some v) ∧
    Hid (HRow ((((W.setCell ⟨g, i * 2, none⟩ (.int .u64 y.1)).setCell ⟨g, i * 2 + 1, none⟩ (.int .i64 y.2)).setCell ⟨g, j * 2, none⟩ (.int .u64 x.1)).setCell ⟨g, j * 2 + 1, none⟩ (.int .i64 x.2)).drew base g c (swp d i j)) ∧
    Hid (Only (· = g) w ((((W.setCell ⟨g, i * 2, none⟩ (.int .u64 y.1)).setCell ⟨g, i * 2 + 1, none⟩ (.int .i64 y.2)).setCell ⟨g, j * 2, none⟩ (.int .u64 x.1)).setCell ⟨g, j * 2 + 1, none⟩ (.int .i64 x.2)).drew) := by
  subst hx hy
  have hs := hr.set i d[j]! hi
  have e1 := hs.c1 j (by simpa using hj)
  have e2 := hs.c2 j (by simpa using hj)
  exact ⟨hr.c1 i hi, hr.c2 i hi, hr.c1 j hj, hr.c2 j hj, ⟨hr.frozen _, hr.frozen _, hr.frozen _, hr.frozen _⟩, ⟨_, _, e1, e2, by rw [World.cell?_setCell_other _ _ _ _ (by simp)]; exact e2⟩, Lib.hid (hr.swap i j hi hj).drew_, Lib.hid (((((ho.setCell (.inl rfl) _).setCell (.inl rfl) _).setCell (.inl rfl) _).setCell (.inl rfl) _).drew)⟩
end
theorem insInner_go {lt : Hit → Hit → Bool} {a m : Nat} {d : Array Hit} (h : a < m + 1) (hl : lt d[m + 1]! d[m]! = true) : insInner lt a (m + 1) d = insInner lt a m (swp d (m + 1) m) := by
  rw [insInner]; simp [hl]; omega
theorem insInner_low {lt : Hit → Hit → Bool} {a j : Nat} {d : Array Hit} (h : j ≤ a) : insInner lt a j d = d := by
  cases j with
  | zero => rfl
  | succ m => rw [insInner]; simp; omega
theorem insInner_no {lt : Hit → Hit → Bool} {a m : Nat} {d : Array Hit} (hl : lt d[m + 1]! d[m]! = false) : insInner lt a (m + 1) d = d := by rw [insInner]; simp [hl]
theorem insOuter_go {lt : Hit → Hit → Bool} {a b i : Nat} {d : Array Hit} (h : i < b) : insOuter lt a b i d = insOuter lt a b (i + 1) (insInner lt a i d) := by rw [insOuter, if_pos h]
theorem insOuter_end {lt : Hit → Hit → Bool} {a b i : Nat} {d : Array Hit} (h : ¬ i < b) : insOuter lt a b i d = d := by rw [insOuter, if_neg h]
theorem w64 {a b : Int} (h : a = b) (h1 : -9223372036854775808 ≤ a) (h2 : a < 9223372036854775808) : IntKind.i64.wrap a = b := by rw [IntKind.wrap_i64]; omega

set_option maxRecDepth 100000 in
set_option maxHeartbeats 3200000 in
theorem insertion_any {hb K : Nat} {v : Value} {cf : Hit → Hit → Int} {base g c : Nat} {d : Array Hit} {w : World} (hc : Cm hb K v cf w) (hr : HRow w base g c d) (hne : hb ≠ g) (a b : Nat) (hab : a ≤ b) (hb2 : b ≤ d.size) (hsz : d.size < 2305843009213693952) :
    Calls Try.prog 43 #[.slice (some ⟨g, 0, none⟩) d.size c, .int .i64 a, .int .i64 b, FV hb] w fun e w' =>
      e = .returned (.tuple #[]) ∧ Only (· = g) w w' ∧ HRow w' base g c (insertionSort (lf cf) d a b) := by
  have HC := Lib.hid hc
  clear hc
  unfold FV
  obtain ⟨a1, ha1⟩ : ∃ a1, a1 = a + 1 := ⟨_, rfl⟩
  have i0 : IntKind.i64.wrap ((a : Int) + 1) = (a1 : Int) := w64 (by omega) (by omega) (by omega)
  have HA1 := Lib.hid ha1
  clear ha1
  go_enter Try.func43, Try.ntmps43
  go_wp2_with (fail)
  go_loopg [8, 9] (b - (a + 1)) (fun gk s8 s9 wr => ∃ (i : Nat) (d' : Array Hit), gk = b - i ∧ s8 = .int .i64 i ∧ a + 1 ≤ i ∧ i ≤ d.size + 1 ∧ d'.size = d.size ∧ insOuter (lf cf) a b i d' = insertionSort (lf cf) d a b ∧ HRow wr base g c d' ∧ Only (· = g) w wr)
  case atStart => exact ⟨a + 1, d, rfl, by rw [HA1.out], by omega, by omega, rfl, rfl, hr, Only.refl _ _⟩
  case round =>
    clear hr
    obtain ⟨i, d', rfl, rfl, hi1, hi2, hds, heq, hr, ho⟩ := hrel
    by_cases hlt : i < b
    · have i1 : (i : Int) < (b : Int) := by omega
      obtain ⟨w0, hw0⟩ : ∃ w0, w0 = wr := ⟨_, rfl⟩
      subst hw0
      have HE := Lib.hid heq
      clear heq
      go_wp2_with (fail)
      go_loopg [9] i (fun gk s9 wr => ∃ (j : Nat) (d2 : Array Hit), j = gk ∧ s9 = .int .i64 j ∧ j ≤ i ∧ d2.size = d.size ∧ insInner (lf cf) a j d2 = insInner (lf cf) a i d' ∧ HRow wr base g c d2 ∧ Only (· = g) w wr)
      case atStart => exact ⟨i, d', rfl, rfl, Nat.le_refl _, hds, rfl, hr, ho⟩
      case round =>
        clear hr ho
        obtain ⟨j, d2, rfl, rfl, hj, hds2, heq2, hr, ho⟩ := hrel
        by_cases hja : a < j
        · obtain ⟨m, rfl⟩ : ∃ m, j = m + 1 := ⟨j - 1, by omega⟩
          obtain ⟨jj, hjj⟩ : ∃ jj, jj = m + 1 := ⟨_, rfl⟩
          rw [← hjj] at hj hja heq2 ⊢
          have i2 : (a : Int) < (jj : Int) := by omega
          have i3 : IntKind.i64.wrap ((jj : Int) - 1) = (m : Int) := w64 (by omega) (by omega) (by omega)
          have i4 : (jj : Int) < (d.size : Int) := by omega
          have i5 : (m : Int) < (d.size : Int) := by omega
          obtain ⟨x, y, r, hx, hy, hl, HS, HCC, q0, q1, q2, q3⟩ := cmp_step (HC.out.only ho hne) hr jj m (by omega) (by omega)
          have HR := Lib.hid hr
          have HO := Lib.hid ho
          have HE2 := Lib.hid heq2
          have HJ := Lib.hid hjj
          have HX := Lib.hid hx
          have HY := Lib.hid hy
          have HL := Lib.hid hl
          clear hr ho heq2 hjj hx hy hl
          obtain ⟨o, hd⟩ : ∃ o, decide (r < 0) = o := ⟨_, rfl⟩
          rw [hd] at HL
          go_wp2_with (fail)
          go_region_held3 (fun W => W.cell? ⟨g, jj * 2, none⟩ = some (.int .u64 x.1) ∧ W.cell? ⟨g, jj * 2 + 1, none⟩ = some (.int .i64 x.2) ∧ W.cell? ⟨g, m * 2, none⟩ = some (.int .u64 y.1) ∧ W.cell? ⟨g, m * 2 + 1, none⟩ = some (.int .i64 y.2)) ((refine HS.out _ ?_; repeat' (first | (with_reducible exact Below.refl _ _) | (with_reducible assumption) | (with_reducible refine Below.drew ?_) | (with_reducible refine below_drewN' ?_ _))))
            (first
              | (go_at_call 36; (with_reducible refine (HCC.out _ (by repeat' (first | (with_reducible exact Below.refl _ _) | (with_reducible assumption) | (with_reducible refine Below.drew ?_) | (with_reducible refine below_drewN' ?_ _)))).mono ?_); rintro e w2 ⟨rfl, hb2⟩))
          have HR2 := Lib.hid (HR.out.below hb2 (Nat.le_refl _))
          have HO2 := Lib.hid (HO.out.on hb2)
          have hl : lf cf d2[jj]! d2[m]! = o := by rw [HX.out, HY.out]; exact HL.out
          have hjj := HJ.out
          clear hb2 HCC HS HR q0 q1 q2 q3 HL
          cases o with
          | true =>
            obtain ⟨q0, q1, q2, q3, ⟨fz0, fz1, fz2, fz3⟩, ⟨u, uu, q4, q5, q6⟩, HRS, HOS⟩ := swap_step HR2.out jj m (by omega) (by omega) HO2.out HX.out HY.out
            have hst : insInner (lf cf) a m (swp d2 jj m) = insInner (lf cf) a i d' := by
              rw [← HE2.out]
              subst hjj
              exact (insInner_go hja hl).symm
            have HST := Lib.hid hst
            clear hst hl hd hjj
            go_wp2_with (fail)
            go_region
            go_wp2_with (fail)
            go_roundg m
            case measure => have := HJ.out; omega
            case rel => exact ⟨m, swp d2 jj m, rfl, rfl, by have := HJ.out; omega, by rw [size_swp]; exact hds2, HST.out, HRS.out, HOS.out⟩
          | false =>
            have hst : insOuter (lf cf) a b (i + 1) d2 = insertionSort (lf cf) d a b := by
              rw [← HE.out, insOuter_go hlt, ← HE2.out]
              subst hjj
              rw [insInner_no hl]
            have HST := Lib.hid hst
            have i7 : IntKind.i64.wrap ((i : Int) + 1) = ((i + 1 : Nat) : Int) := w64 (by omega) (by omega) (by omega)
            clear hst hl hd hjj
            go_wp2_with (fail)
            go_roundg (b - (i + 1))
            case measure => omega
            case rel => exact ⟨i + 1, d2, rfl, rfl, by omega, by omega, hds2, HST.out, HR2.out, HO2.out⟩
        · have i2 : ¬ (a : Int) < (j : Int) := by omega
          have hst : insOuter (lf cf) a b (i + 1) d2 = insertionSort (lf cf) d a b := by
            rw [← HE.out, insOuter_go hlt, ← heq2, insInner_low (by omega)]
          have HST := Lib.hid hst
          have HR := Lib.hid hr
          have HO := Lib.hid ho
          have i7 : IntKind.i64.wrap ((i : Int) + 1) = ((i + 1 : Nat) : Int) := w64 (by omega) (by omega) (by omega)
          clear hst heq2 hr ho
          go_wp2_with (fail)
          go_region
          go_wp2_with (fail)
          go_roundg (b - (i + 1))
          case measure => omega
          case rel => exact ⟨i + 1, d2, rfl, rfl, by omega, by omega, hds2, HST.out, HR.out.drew_, HO.out.drew⟩
    · have i1 : ¬ (i : Int) < (b : Int) := by omega
      rw [insOuter_end hlt] at heq
      have HR := Lib.hid hr
      have HO := Lib.hid ho
      have HE := Lib.hid heq
      clear hr ho heq
      go_wp2_with (fail)
      go_end0
      exact ⟨rfl, HO.out, by rw [← HE.out]; exact HR.out⟩

theorem rev_go {d : Array Hit} {i j : Nat} (h : i < j) : reverseLoop i j d = reverseLoop (i + 1) (j - 1) (swp d i j) := by rw [reverseLoop, if_pos h]
theorem rev_end {d : Array Hit} {i j : Nat} (h : ¬ i < j) : reverseLoop i j d = d := by rw [reverseLoop, if_neg h]
set_option maxRecDepth 100000 in
set_option maxHeartbeats 3200000 in
theorem reverse_any {base g c : Nat} {d : Array Hit} {w : World} (hr : HRow w base g c d) (fv : Value) (a b : Nat) (hab : a < b) (hb2 : b ≤ d.size) (hsz : d.size < 2305843009213693952) :
    Calls Try.prog 47 #[.slice (some ⟨g, 0, none⟩) d.size c, .int .i64 a, .int .i64 b, fv] w fun e w' =>
      e = .returned (.tuple #[]) ∧ Only (· = g) w w' ∧ HRow w' base g c (reverseRange d a b) := by
  have i0 : IntKind.i64.wrap ((b : Int) - 1) = ((b - 1 : Nat) : Int) := w64 (by omega) (by omega) (by omega)
  go_enter Try.func47, Try.ntmps47
  go_wp2_with (fail)
  go_loopg [8, 9] (b - 1 - a) (fun gk s8 s9 wr => ∃ (i j : Nat) (d' : Array Hit), gk = j - i ∧ s8 = .int .i64 i ∧ s9 = .int .i64 j ∧ i ≤ d.size ∧ j < d.size ∧ d'.size = d.size ∧ reverseLoop i j d' = reverseRange d a b ∧ HRow wr base g c d' ∧ Only (· = g) w wr)
  case atStart => exact ⟨a, b - 1, d, rfl, rfl, rfl, by omega, by omega, rfl, rfl, hr, Only.refl _ _⟩
  case round =>
    clear hr
    obtain ⟨i, j, d', rfl, rfl, rfl, hi, hj, hds, heq, hr, ho⟩ := hrel
    by_cases hlt : i < j
    · rw [rev_go hlt] at heq
      have i1 : (i : Int) < (j : Int) := by omega
      have i2 : (i : Int) < (d.size : Int) := by omega
      have i3 : (j : Int) < (d.size : Int) := by omega
      have i4 : IntKind.i64.wrap ((i : Int) + 1) = ((i + 1 : Nat) : Int) := w64 (by omega) (by omega) (by omega)
      have i5 : IntKind.i64.wrap ((j : Int) - 1) = ((j - 1 : Nat) : Int) := w64 (by omega) (by omega) (by omega)
      obtain ⟨q0, q1, q2, q3, ⟨fz0, fz1, fz2, fz3⟩, ⟨u, uu, q4, q5, q6⟩, HRS, HOS⟩ := swap_step hr i j (by omega) (by omega) ho rfl rfl
      generalize d'[i]! = x at q0 q1 q2 q3 q4 q5 q6 HRS HOS
      generalize d'[j]! = y at q0 q1 q2 q3 q4 q5 q6 HRS HOS
      have HE := Lib.hid heq
      clear heq hr ho
      go_wp2_with (fail)
      go_region
      go_wp2_with (fail)
      go_roundg (j - 1 - (i + 1))
      case measure => omega
      case rel => exact ⟨i + 1, j - 1, swp d' i j, rfl, rfl, rfl, by omega, by omega, by rw [size_swp]; exact hds, HE.out, HRS.out, HOS.out⟩
    · rw [rev_end hlt] at heq
      have i1 : ¬ (i : Int) < (j : Int) := by omega
      have HR := Lib.hid hr
      have HO := Lib.hid ho
      have HE := Lib.hid heq
      clear hr ho heq
      go_wp2_with (fail)
      go_end0
      exact ⟨rfl, HO.out, by rw [← HE.out]; exact HR.out⟩
end Go.Proofs.Ytbpahlhmdbahjaa.hso
