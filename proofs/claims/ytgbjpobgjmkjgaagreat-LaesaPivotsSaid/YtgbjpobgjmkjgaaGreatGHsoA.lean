/-
  Several texts in one.
-/
import Derived.Test.YtgbjpobgjmkjgaaGreatGHeap
import Derived.Sort.LotA
set_option maxRecDepth 100000
/-
  slices.SortFunc of hits by a method value, its parts: what a walk wants at each comparison and each exchange; the contracts of insertionSortCmpFunc, reverseRangeCmpFunc.
-/
namespace Go.Proofs.YtgbjpobgjmkjgaaGreat.hso
open Go.RowKit law bytes only flat hit heapM best Go.Sort Go.Shelf
set_option linter.unusedVariables false

/-- a heap's own comparison as a value -/
def FV (hb : Nat) : Value := .func (.func 150) #[.pointer (some ⟨hb, 0, none⟩)] #[]
/-- a heap's block and its order, in a world -/
structure Cm (hb K : Nat) (v : Value) (cf : Hit → Hit → Int) (w : World) : Prop where
  blk : Blk w hb 189 #[.func (.func K) #[] #[], v]
  ent : Enters Tryz.prog K
  ord : Ordr K tE cf
section
variable {hb K : Nat} {v : Value} {cf : Hit → Hit → Int} {w W : World} {base g c : Nat} {d : Array Hit} {S : Nat → Prop}
theorem Cm.only (h : Cm hb K v cf w) (o : Only S w W) (hn : ¬ S hb) : Cm hb K v cf W := ⟨Blk.only h.blk o hn, h.ent, h.ord⟩
theorem Cm.below {B : Nat} (h : Cm hb K v cf w) (o : Below B w W) (hB : w.heap.size ≤ B) : Cm hb K v cf W := ⟨h.blk.below o (Nat.lt_of_lt_of_le h.blk.lt hB), h.ent, h.ord⟩
theorem Cm.call (h : Cm hb K v cf w) (x y : Hit) : Calls Tryz.prog 150 #[.pointer (some ⟨hb, 0, none⟩), .agg #[.int .u64 x.1, .int .i64 x.2], .agg #[.int .u64 y.1, .int .i64 y.2]] w fun e w' => e = .returned (.int .i64 (cf x y)) ∧ Below w.heap.size w w' :=
  compare_hit K hb v cf h.ent x y w h.blk h.ord
/-- what a comparison of two places wants, and what it leaves -/
theorem cmp_step (hc : Cm hb K v cf w) (hr : HRow w base g c d) (i j : Nat) (hi : i < d.size) (hj : j < d.size) : ∃ (x y : Hit) (r : Int), d[i]! = x ∧ d[j]! = y ∧ lf cf x y = decide (r < 0) ∧
    Hid (∀ W, Below w.heap.size w W → W.cell? ⟨g, i * 2, none⟩ = some (.int .u64 x.1) ∧ W.cell? ⟨g, i * 2 + 1, none⟩ = some (.int .i64 x.2) ∧ W.cell? ⟨g, j * 2, none⟩ = some (.int .u64 y.1) ∧ W.cell? ⟨g, j * 2 + 1, none⟩ = some (.int .i64 y.2)) ∧
    Hid (∀ W, Below w.heap.size w W → Calls Tryz.prog 150 #[.pointer (some ⟨hb, 0, none⟩), .agg #[.int .u64 x.1, .int .i64 x.2], .agg #[.int .u64 y.1, .int .i64 y.2]] W fun e w' => e = .returned (.int .i64 r) ∧ Below w.heap.size w w') ∧
    w.cell? ⟨g, i * 2, none⟩ = some (.int .u64 x.1) ∧ w.cell? ⟨g, i * 2 + 1, none⟩ = some (.int .i64 x.2) ∧ w.cell? ⟨g, j * 2, none⟩ = some (.int .u64 y.1) ∧ w.cell? ⟨g, j * 2 + 1, none⟩ = some (.int .i64 y.2) :=
  have hS := fun W (hW : Below w.heap.size w W) => And.intro ((hr.below hW (Nat.le_refl _)).c1 i hi) (And.intro ((hr.below hW (Nat.le_refl _)).c2 i hi) (And.intro ((hr.below hW (Nat.le_refl _)).c1 j hj) ((hr.below hW (Nat.le_refl _)).c2 j hj)))
  ⟨d[i]!, d[j]!, cf d[i]! d[j]!, rfl, rfl, rfl, Lib.hid hS,
    Lib.hid fun W hW => ((hc.below hW (Nat.le_refl _)).call _ _).mono fun e w' ⟨he, hb'⟩ => ⟨he, hW.trans (hb'.mono hW.size)⟩, hS w (Below.refl _ _)⟩
/-- what an exchange of two places wants, and what it leaves -/
theorem swap_step (hr : HRow W base g c d) (i j : Nat) (hi : i < d.size) (hj : j < d.size) (ho : Only (· = g) w W) {x y : Hit} (hx : d[i]! = x) (hy : d[j]! = y) : W.cell? ⟨g, i * 2, none⟩ = some (.int .u64 x.1) ∧ W.cell? ⟨g, i * 2 + 1, none⟩ = some (.int .i64 x.2) ∧ W.cell? ⟨g, j * 2, none⟩ = some (.int .u64 y.1) ∧ W.cell? ⟨g, j * 2 + 1, none⟩ = some (.int .i64 y.2) ∧
    (W.frozen? ⟨g, i * 2, none⟩ = false ∧ W.frozen? ⟨g, i * 2 + 1, none⟩ = false ∧ W.frozen? ⟨g, j * 2, none⟩ = false ∧ W.frozen? ⟨g, j * 2 + 1, none⟩ = false) ∧
    (∃ u v : Value, ((W.setCell ⟨g, i * 2, none⟩ (.int .u64 y.1)).setCell ⟨g, i * 2 + 1, none⟩ (.int .i64 y.2)).cell? ⟨g, j * 2, none⟩ = some u ∧ ((W.setCell ⟨g, i * 2, none⟩ (.int .u64 y.1)).setCell ⟨g, i * 2 + 1, none⟩ (.int .i64 y.2)).cell? ⟨g, j * 2 + 1, none⟩ = some v ∧ (((W.setCell ⟨g, i * 2, none⟩ (.int .u64 y.1)).setCell ⟨g, i * 2 + 1, none⟩ (.int .i64 y.2)).setCell ⟨g, j * 2, none⟩ (.int .u64 x.1)).cell? ⟨g, j * 2 + 1, none⟩ = some v) ∧
    Hid (HRow ((((W.setCell ⟨g, i * 2, none⟩ (.int .u64 y.1)).setCell ⟨g, i * 2 + 1, none⟩ (.int .i64 y.2)).setCell ⟨g, j * 2, none⟩ (.int .u64 x.1)).setCell ⟨g, j * 2 + 1, none⟩ (.int .i64 x.2)).drew base g c (swp d i j)) ∧
    Hid (Only (· = g) w ((((W.setCell ⟨g, i * 2, none⟩ (.int .u64 y.1)).setCell ⟨g, i * 2 + 1, none⟩ (.int .i64 y.2)).setCell ⟨g, j * 2, none⟩ (.int .u64 x.1)).setCell ⟨g, j * 2 + 1, none⟩ (.int .i64 x.2)).drew) := by
  subst hx hy
  have hs := hr.set i d[j]! hi
  have e1 := hs.c1 j (by simpa using hj)
  have e2 := hs.c2 j (by simpa using hj)
  exact ⟨hr.c1 i hi, hr.c2 i hi, hr.c1 j hj, hr.c2 j hj, ⟨hr.frozen _, hr.frozen _, hr.frozen _, hr.frozen _⟩, ⟨_, _, e1, e2, by rw [World.cell?_setCell_other _ _ _ _ (by simp)]; exact e2⟩, Lib.hid (hr.swap i j hi hj).drew_, Lib.hid (((((ho.setCell (.inl rfl) _).setCell (.inl rfl) _).setCell (.inl rfl) _).setCell (.inl rfl) _).drew)⟩
end
theorem insInner_go {lt : Hit → Hit → Bool} {a m : Nat} {d : Array Hit} (h : a < m + 1) (hl : lt d[m + 1]! d[m]! = true) : insInner lt a (m + 1) d = insInner lt a m (swp d (m + 1) m) := by
  rw [insInner]; simp [hl]; omega
theorem insInner_low {lt : Hit → Hit → Bool} {a j : Nat} {d : Array Hit} (h : j ≤ a) : insInner lt a j d = d := by
  cases j with
  | zero => rfl
  | succ m => rw [insInner]; simp; omega
theorem insInner_no {lt : Hit → Hit → Bool} {a m : Nat} {d : Array Hit} (hl : lt d[m + 1]! d[m]! = false) : insInner lt a (m + 1) d = d := by rw [insInner]; simp [hl]
theorem insOuter_go {lt : Hit → Hit → Bool} {a b i : Nat} {d : Array Hit} (h : i < b) : insOuter lt a b i d = insOuter lt a b (i + 1) (insInner lt a i d) := by rw [insOuter, if_pos h]
theorem insOuter_end {lt : Hit → Hit → Bool} {a b i : Nat} {d : Array Hit} (h : ¬ i < b) : insOuter lt a b i d = d := by rw [insOuter, if_neg h]
theorem w64 {a b : Int} (h : a = b) (h1 : -9223372036854775808 ≤ a) (h2 : a < 9223372036854775808) : IntKind.i64.wrap a = b := by rw [IntKind.wrap_i64]; omega

set_option maxRecDepth 100000 in
set_option maxHeartbeats 3200000 in
theorem insertion_any {hb K : Nat} {v : Value} {cf : Hit → Hit → Int} {base g c : Nat} {d : Array Hit} {w : World} (hc : Cm hb K v cf w) (hr : HRow w base g c d) (hne : hb ≠ g) (a b : Nat) (hab : a ≤ b) (hb2 : b ≤ d.size) (hsz : d.size < 2305843009213693952) :
    Calls Tryz.prog 191 #[.slice (some ⟨g, 0, none⟩) d.size c, .int .i64 a, .int .i64 b, FV hb] w fun e w' =>
      e = .returned (.tuple #[]) ∧ Only (· = g) w w' ∧ HRow w' base g c (insertionSort (lf cf) d a b) := by
  have HC := Lib.hid hc
  clear hc
  unfold FV
  obtain ⟨a1, ha1⟩ : ∃ a1, a1 = a + 1 := ⟨_, rfl⟩
  have i0 : IntKind.i64.wrap ((a : Int) + 1) = (a1 : Int) := w64 (by omega) (by omega) (by omega)
  have HA1 := Lib.hid ha1
  clear ha1
  go_enter Tryz.func191, Tryz.ntmps191
  go_wp2_with (fail)
  go_loopg [8, 9] (b - (a + 1)) (fun gk s8 s9 wr => ∃ (i : Nat) (d' : Array Hit), gk = b - i ∧ s8 = .int .i64 i ∧ a + 1 ≤ i ∧ i ≤ d.size + 1 ∧ d'.size = d.size ∧ insOuter (lf cf) a b i d' = insertionSort (lf cf) d a b ∧ HRow wr base g c d' ∧ Only (· = g) w wr)
  case atStart => exact ⟨a + 1, d, rfl, by rw [HA1.out], by omega, by omega, rfl, rfl, hr, Only.refl _ _⟩
  case round =>
    clear hr
    obtain ⟨i, d', rfl, rfl, hi1, hi2, hds, heq, hr, ho⟩ := hrel
    by_cases hlt : i < b
    · have i1 : (i : Int) < (b : Int) := by omega
      obtain ⟨w0, hw0⟩ : ∃ w0, w0 = wr := ⟨_, rfl⟩
      subst hw0
      have HE := Lib.hid heq
      clear heq
      go_wp2_with (fail)
      go_loopg [9] i (fun gk s9 wr => ∃ (j : Nat) (d2 : Array Hit), j = gk ∧ s9 = .int .i64 j ∧ j ≤ i ∧ d2.size = d.size ∧ insInner (lf cf) a j d2 = insInner (lf cf) a i d' ∧ HRow wr base g c d2 ∧ Only (· = g) w wr)
      case atStart => exact ⟨i, d', rfl, rfl, Nat.le_refl _, hds, rfl, hr, ho⟩
      case round =>
        clear hr ho
        obtain ⟨j, d2, rfl, rfl, hj, hds2, heq2, hr, ho⟩ := hrel
        by_cases hja : a < j
        · obtain ⟨m, rfl⟩ : ∃ m, j = m + 1 := ⟨j - 1, by omega⟩
          obtain ⟨jj, hjj⟩ : ∃ jj, jj = m + 1 := ⟨_, rfl⟩
          rw [← hjj] at hj hja heq2 ⊢
          have i2 : (a : Int) < (jj : Int) := by omega
          have i3 : IntKind.i64.wrap ((jj : Int) - 1) = (m : Int) := w64 (by omega) (by omega) (by omega)
          have i4 : (jj : Int) < (d.size : Int) := by omega
          have i5 : (m : Int) < (d.size : Int) := by omega
          obtain ⟨x, y, r, hx, hy, hl, HS, HCC, q0, q1, q2, q3⟩ := cmp_step (HC.out.only ho hne) hr jj m (by omega) (by omega)
          have HR := Lib.hid hr
          have HO := Lib.hid ho
          have HE2 := Lib.hid heq2
          have HJ := Lib.hid hjj
          have HX := Lib.hid hx
          have HY := Lib.hid hy
          have HL := Lib.hid hl
          clear hr ho heq2 hjj hx hy hl
          obtain ⟨o, hd⟩ : ∃ o, decide (r < 0) = o := ⟨_, rfl⟩
          rw [hd] at HL
          go_wp2_with (fail)
          go_region_held3 (fun W => W.cell? ⟨g, jj * 2, none⟩ = some (.int .u64 x.1) ∧ W.cell? ⟨g, jj * 2 + 1, none⟩ = some (.int .i64 x.2) ∧ W.cell? ⟨g, m * 2, none⟩ = some (.int .u64 y.1) ∧ W.cell? ⟨g, m * 2 + 1, none⟩ = some (.int .i64 y.2)) ((refine HS.out _ ?_; repeat' (first | (with_reducible exact Below.refl _ _) | (with_reducible assumption) | (with_reducible refine Below.drew ?_) | (with_reducible refine below_drewN' ?_ _))))
            (first
              | (go_at_call 150; (with_reducible refine (HCC.out _ (by repeat' (first | (with_reducible exact Below.refl _ _) | (with_reducible assumption) | (with_reducible refine Below.drew ?_) | (with_reducible refine below_drewN' ?_ _)))).mono ?_); rintro e w2 ⟨rfl, hb2⟩))
          have HR2 := Lib.hid (HR.out.below hb2 (Nat.le_refl _))
          have HO2 := Lib.hid (HO.out.on hb2)
          have hl : lf cf d2[jj]! d2[m]! = o := by rw [HX.out, HY.out]; exact HL.out
          have hjj := HJ.out
          clear hb2 HCC HS HR q0 q1 q2 q3 HL
          cases o with
          | true =>
            obtain ⟨q0, q1, q2, q3, ⟨fz0, fz1, fz2, fz3⟩, ⟨u, uu, q4, q5, q6⟩, HRS, HOS⟩ := swap_step HR2.out jj m (by omega) (by omega) HO2.out HX.out HY.out
            have hst : insInner (lf cf) a m (swp d2 jj m) = insInner (lf cf) a i d' := by
              rw [← HE2.out]
              subst hjj
              exact (insInner_go hja hl).symm
            have HST := Lib.hid hst
            clear hst hl hd hjj
            go_wp2_with (fail)
            go_region
            go_wp2_with (fail)
            go_roundg m
            case measure => have := HJ.out; omega
            case rel => exact ⟨m, swp d2 jj m, rfl, rfl, by have := HJ.out; omega, by rw [size_swp]; exact hds2, HST.out, HRS.out, HOS.out⟩
          | false =>
            have hst : insOuter (lf cf) a b (i + 1) d2 = insertionSort (lf cf) d a b := by
              rw [← HE.out, insOuter_go hlt, ← HE2.out]
              subst hjj
              rw [insInner_no hl]
            have HST := Lib.hid hst
            have i7 : IntKind.i64.wrap ((i : Int) + 1) = ((i + 1 : Nat) : Int) := w64 (by omega) (by omega) (by omega)
            clear hst hl hd hjj
            go_wp2_with (fail)
            go_roundg (b - (i + 1))
            case measure => omega
            case rel => exact ⟨i + 1, d2, rfl, rfl, by omega, by omega, hds2, HST.out, HR2.out, HO2.out⟩
        · have i2 : ¬ (a : Int) < (j : Int) := by omega
          have hst : insOuter (lf cf) a b (i + 1) d2 = insertionSort (lf cf) d a b := by
            rw [← HE.out, insOuter_go hlt, ← heq2, insInner_low (by omega)]
          have HST := Lib.hid hst
          have HR := Lib.hid hr
          have HO := Lib.hid ho
          have i7 : IntKind.i64.wrap ((i : Int) + 1) = ((i + 1 : Nat) : Int) := w64 (by omega) (by omega) (by omega)
          clear hst heq2 hr ho
          go_wp2_with (fail)
          go_region
          go_wp2_with (fail)
          go_roundg (b - (i + 1))
          case measure => omega
          case rel => exact ⟨i + 1, d2, rfl, rfl, by omega, by omega, hds2, HST.out, HR.out.drew_, HO.out.drew⟩
    · have i1 : ¬ (i : Int) < (b : Int) := by omega
      rw [insOuter_end hlt] at heq
      have HR := Lib.hid hr
      have HO := Lib.hid ho
      have HE := Lib.hid heq
      clear hr ho heq
      go_wp2_with (fail)
      go_end0
      exact ⟨rfl, HO.out, by rw [← HE.out]; exact HR.out⟩

theorem rev_go {d : Array Hit} {i j : Nat} (h : i < j) : reverseLoop i j d = reverseLoop (i + 1) (j - 1) (swp d i j) := by rw [reverseLoop, if_pos h]
theorem rev_end {d : Array Hit} {i j : Nat} (h : ¬ i < j) : reverseLoop i j d = d := by rw [reverseLoop, if_neg h]
set_option maxRecDepth 100000 in
set_option maxHeartbeats 3200000 in
theorem reverse_any {base g c : Nat} {d : Array Hit} {w : World} (hr : HRow w base g c d) (fv : Value) (a b : Nat) (hab : a < b) (hb2 : b ≤ d.size) (hsz : d.size < 2305843009213693952) :
    Calls Tryz.prog 195 #[.slice (some ⟨g, 0, none⟩) d.size c, .int .i64 a, .int .i64 b, fv] w fun e w' =>
      e = .returned (.tuple #[]) ∧ Only (· = g) w w' ∧ HRow w' base g c (reverseRange d a b) := by
  have i0 : IntKind.i64.wrap ((b : Int) - 1) = ((b - 1 : Nat) : Int) := w64 (by omega) (by omega) (by omega)
  go_enter Tryz.func195, Tryz.ntmps195
  go_wp2_with (fail)
  go_loopg [8, 9] (b - 1 - a) (fun gk s8 s9 wr => ∃ (i j : Nat) (d' : Array Hit), gk = j - i ∧ s8 = .int .i64 i ∧ s9 = .int .i64 j ∧ i ≤ d.size ∧ j < d.size ∧ d'.size = d.size ∧ reverseLoop i j d' = reverseRange d a b ∧ HRow wr base g c d' ∧ Only (· = g) w wr)
  case atStart => exact ⟨a, b - 1, d, rfl, rfl, rfl, by omega, by omega, rfl, rfl, hr, Only.refl _ _⟩
  case round =>
    clear hr
    obtain ⟨i, j, d', rfl, rfl, rfl, hi, hj, hds, heq, hr, ho⟩ := hrel
    by_cases hlt : i < j
    · rw [rev_go hlt] at heq
      have i1 : (i : Int) < (j : Int) := by omega
      have i2 : (i : Int) < (d.size : Int) := by omega
      have i3 : (j : Int) < (d.size : Int) := by omega
      have i4 : IntKind.i64.wrap ((i : Int) + 1) = ((i + 1 : Nat) : Int) := w64 (by omega) (by omega) (by omega)
      have i5 : IntKind.i64.wrap ((j : Int) - 1) = ((j - 1 : Nat) : Int) := w64 (by omega) (by omega) (by omega)
      obtain ⟨q0, q1, q2, q3, ⟨fz0, fz1, fz2, fz3⟩, ⟨u, uu, q4, q5, q6⟩, HRS, HOS⟩ := swap_step hr i j (by omega) (by omega) ho rfl rfl
      generalize d'[i]! = x at q0 q1 q2 q3 q4 q5 q6 HRS HOS
      generalize d'[j]! = y at q0 q1 q2 q3 q4 q5 q6 HRS HOS
      have HE := Lib.hid heq
      clear heq hr ho
      go_wp2_with (fail)
      go_region
      go_wp2_with (fail)
      go_roundg (j - 1 - (i + 1))
      case measure => omega
      case rel => exact ⟨i + 1, j - 1, swp d' i j, rfl, rfl, rfl, by omega, by omega, by rw [size_swp]; exact hds, HE.out, HRS.out, HOS.out⟩
    · rw [rev_end hlt] at heq
      have i1 : ¬ (i : Int) < (j : Int) := by omega
      have HR := Lib.hid hr
      have HO := Lib.hid ho
      have HE := Lib.hid heq
      clear hr ho heq
      go_wp2_with (fail)
      go_end0
      exact ⟨rfl, HO.out, by rw [← HE.out]; exact HR.out⟩
end Go.Proofs.YtgbjpobgjmkjgaaGreat.hso
/-
  The contracts of siftDownCmpFunc and heapSortCmpFunc.
-/
namespace Go.Proofs.YtgbjpobgjmkjgaaGreat.hso
open Go.RowKit law bytes only flat hit heapM best Go.Sort Go.Shelf
set_option linter.unusedVariables false

section
variable {lt : Hit → Hit → Bool} {hi first root : Nat} {d : Array Hit}
theorem sift_end (h : 2 * root + 1 ≥ hi) : siftDown lt hi first root d = d := by rw [siftDown, dif_pos h]
/-- the child that counts -/
def kidOf (lt : Hit → Hit → Bool) (hi first root : Nat) (d : Array Hit) : Nat := if 2 * root + 1 + 1 < hi && lt d[first + (2 * root + 1)]! d[first + (2 * root + 1) + 1]! then 2 * root + 2 else 2 * root + 1
theorem kid_lt (h : ¬ 2 * root + 1 ≥ hi) : kidOf lt hi first root d < hi ∧ root < kidOf lt hi first root d := by
  unfold kidOf
  split
  · rename_i h2
    simp at h2
    omega
  · omega
theorem sift_no (h : ¬ 2 * root + 1 ≥ hi) (hl : lt d[first + root]! d[first + kidOf lt hi first root d]! = false) : siftDown lt hi first root d = d := by
  rw [siftDown, dif_neg h]
  unfold kidOf at hl
  split
  · rename_i h2
    rw [if_pos h2] at hl
    rw [hl]; rfl
  · rename_i h2
    rw [if_neg h2] at hl
    rw [hl]; rfl
theorem sift_go (h : ¬ 2 * root + 1 ≥ hi) (hl : lt d[first + root]! d[first + kidOf lt hi first root d]! = true) : siftDown lt hi first root d = siftDown lt hi first (kidOf lt hi first root d) (swp d (first + root) (first + kidOf lt hi first root d)) := by
  rw [siftDown, dif_neg h]
  unfold kidOf at hl ⊢
  by_cases h2 : (decide (2 * root + 1 + 1 < hi) && lt d[first + (2 * root + 1)]! d[first + (2 * root + 1) + 1]!) = true
  · rw [if_pos h2] at hl ⊢
    have h3 : 2 * root + 2 < hi := by simp at h2; omega
    simp only [h2, if_true, hl, dif_pos h3, Bool.not_true, Bool.false_eq_true, if_false]
  · rw [if_neg h2] at hl ⊢
    simp only [h2, hl, Bool.not_true, Bool.false_eq_true, if_false]
end
set_option maxRecDepth 100000 in
set_option maxHeartbeats 6400000 in
theorem sift_any {hb K : Nat} {v : Value} {cf : Hit → Hit → Int} {base g c : Nat} {d : Array Hit} {w : World} (hc : Cm hb K v cf w) (hr : HRow w base g c d) (hne : hb ≠ g) (lo hi first : Nat) (hlo : lo ≤ hi) (hb2 : first + hi ≤ d.size) (hsz : d.size < 2305843009213693952) :
    Calls Tryz.prog 202 #[.slice (some ⟨g, 0, none⟩) d.size c, .int .i64 lo, .int .i64 hi, .int .i64 first, FV hb] w fun e w' =>
      e = .returned (.tuple #[]) ∧ Only (· = g) w w' ∧ HRow w' base g c (siftDown (lf cf) hi first lo d) := by
  have HC := Lib.hid hc
  clear hc
  unfold FV
  go_enter Tryz.func202, Tryz.ntmps202
  go_wp2_with (fail)
  go_loopg [10, 11] (hi - lo) (fun gk s10 s11 wr => ∃ (root : Nat) (d' : Array Hit), gk = hi - root ∧ s10 = .int .i64 root ∧ root ≤ hi ∧ d'.size = d.size ∧ siftDown (lf cf) hi first root d' = siftDown (lf cf) hi first lo d ∧ HRow wr base g c d' ∧ Only (· = g) w wr)
  case atStart => exact ⟨lo, d, rfl, rfl, hlo, rfl, rfl, hr, Only.refl _ _⟩
  case round =>
    clear hr
    obtain ⟨root, d', rfl, rfl, hroot, hds, heq, hr, ho⟩ := hrel
    obtain ⟨t, ht⟩ : ∃ t, t = 2 * root := ⟨_, rfl⟩
    obtain ⟨t1, ht1⟩ : ∃ t1, t1 = 2 * root + 1 := ⟨_, rfl⟩
    have i1 : IntKind.i64.wrap (2 * (root : Int)) = (t : Int) := w64 (by omega) (by omega) (by omega)
    have i2 : IntKind.i64.wrap ((t : Int) + 1) = (t1 : Int) := w64 (by omega) (by omega) (by omega)
    have HT1 := Lib.hid ht1
    by_cases hend : hi ≤ t1
    · have i3 : (hi : Int) ≤ (t1 : Int) := by omega
      rw [sift_end (by omega)] at heq
      have HR := Lib.hid hr
      have HO := Lib.hid ho
      have HE := Lib.hid heq
      clear hr ho heq ht ht1
      go_wp2_with (fail)
      first
        | (refine bodyPost_ret (results_none rfl _ _ _) rfl ?_; exact ⟨rfl, HO.out, by rw [← HE.out]; exact HR.out⟩)
        | (go_end0; exact ⟨rfl, HO.out, by rw [← HE.out]; exact HR.out⟩)
    · have i3 : ¬ (hi : Int) ≤ (t1 : Int) := by omega
      obtain ⟨t2, ht2⟩ : ∃ t2, t2 = 2 * root + 2 := ⟨_, rfl⟩
      obtain ⟨f1, hf1⟩ : ∃ f1, f1 = first + t1 := ⟨_, rfl⟩
      obtain ⟨f2, hf2⟩ : ∃ f2, f2 = first + t1 + 1 := ⟨_, rfl⟩
      obtain ⟨f0, hf0⟩ : ∃ f0, f0 = first + root := ⟨_, rfl⟩
      have i4 : IntKind.i64.wrap ((t1 : Int) + 1) = (t2 : Int) := w64 (by omega) (by omega) (by omega)
      have i5 : IntKind.i64.wrap ((first : Int) + (t1 : Int)) = (f1 : Int) := w64 (by omega) (by omega) (by omega)
      have i6 : IntKind.i64.wrap ((f1 : Int) + 1) = (f2 : Int) := w64 (by omega) (by omega) (by omega)
      have i7 : IntKind.i64.wrap ((first : Int) + (root : Int)) = (f0 : Int) := w64 (by omega) (by omega) (by omega)
      have i8 : IntKind.i64.wrap ((first : Int) + (t2 : Int)) = (f2 : Int) := w64 (by omega) (by omega) (by omega)
      have i9 : (f1 : Int) < (d.size : Int) := by omega
      have i10 : (f0 : Int) < (d.size : Int) := by omega
      have HT := Lib.hid (And.intro ht (And.intro ht1 (And.intro ht2 (And.intro hf1 (And.intro hf2 hf0)))))
      have HE0 := Lib.hid heq
      have HN0 : Hid (¬ hi ≤ t1) := Lib.hid hend
      clear ht ht1 ht2 hf0 hf1 hf2 heq HT1
      by_cases hk : t2 < hi
      · have i11 : (t2 : Int) < (hi : Int) := by omega
        have i12 : (f2 : Int) < (d.size : Int) := by have := HT.out; omega
        obtain ⟨x, y, r, hx, hy, hl, HS, HCC, q0, q1, q2, q3⟩ := cmp_step (HC.out.only ho hne) hr f1 f2 (by have := HT.out; omega) (by have := HT.out; omega)
        have HR := Lib.hid hr
        have HO := Lib.hid ho
        have hx1 : lf cf d'[f1]! d'[f2]! = decide (r < 0) := by rw [hx, hy]; exact hl
        have HX1 := Lib.hid hx1
        clear hr ho hx hy hl hx1
        by_cases hrr : r < 0
        · have hd1 : decide (r < 0) = true := decide_eq_true hrr
          have hkd : kidOf (lf cf) hi first root d' = t2 := by
            unfold kidOf
            have h1 := HX1.out
            rw [hd1] at h1
            have hT := HT.out
            rw [show first + (2 * root + 1) = f1 by omega, show f1 + 1 = f2 by omega, h1, hT.2.2.1]
            simp; omega
          have HKD := Lib.hid hkd
          clear hkd hrr HX1
          go_wp2_with (fail)
          go_region_held3 (fun W => W.cell? ⟨g, f1 * 2, none⟩ = some (.int .u64 x.1) ∧ W.cell? ⟨g, f1 * 2 + 1, none⟩ = some (.int .i64 x.2) ∧ W.cell? ⟨g, f2 * 2, none⟩ = some (.int .u64 y.1) ∧ W.cell? ⟨g, f2 * 2 + 1, none⟩ = some (.int .i64 y.2)) ((refine HS.out _ ?_; repeat' (first | (with_reducible exact Below.refl _ _) | (with_reducible assumption) | (with_reducible refine Below.drew ?_) | (with_reducible refine below_drewN' ?_ _))))
            (first
              | (go_at_call 150; (with_reducible refine (HCC.out _ (by repeat' (first | (with_reducible exact Below.refl _ _) | (with_reducible assumption) | (with_reducible refine Below.drew ?_) | (with_reducible refine below_drewN' ?_ _)))).mono ?_); rintro e w2 ⟨rfl, hb2⟩))
          have HR2 := Lib.hid (HR.out.below hb2 (Nat.le_refl _))
          have HO2 := Lib.hid (HO.out.on hb2)
          clear hb2 HCC HS HR HO q0 q1 q2 q3 hd1
          obtain ⟨x, y, r, hx, hy, hl, HS, HCC, q0, q1, q2, q3⟩ := cmp_step (HC.out.only HO2.out hne) HR2.out f0 f2 (by have := HT.out; omega) (by have := HT.out; omega)
          have HX := Lib.hid hx
          have HY := Lib.hid hy
          have HL := Lib.hid hl
          clear hx hy hl
          obtain ⟨o, hd⟩ : ∃ o, decide (r < 0) = o := ⟨_, rfl⟩
          rw [hd] at HL
          go_wp2_with (fail)
          go_region_held3 (fun W => W.cell? ⟨g, f0 * 2, none⟩ = some (.int .u64 x.1) ∧ W.cell? ⟨g, f0 * 2 + 1, none⟩ = some (.int .i64 x.2) ∧ W.cell? ⟨g, f2 * 2, none⟩ = some (.int .u64 y.1) ∧ W.cell? ⟨g, f2 * 2 + 1, none⟩ = some (.int .i64 y.2)) ((refine HS.out _ ?_; repeat' (first | (with_reducible exact Below.refl _ _) | (with_reducible assumption) | (with_reducible refine Below.drew ?_) | (with_reducible refine below_drewN' ?_ _))))
            (first
              | (go_at_call 150; (with_reducible refine (HCC.out _ (by repeat' (first | (with_reducible exact Below.refl _ _) | (with_reducible assumption) | (with_reducible refine Below.drew ?_) | (with_reducible refine below_drewN' ?_ _)))).mono ?_); rintro e w3 ⟨rfl, hb3⟩))
          have HR3 := Lib.hid (HR2.out.below hb3 (Nat.le_refl _))
          have HO3 := Lib.hid (HO2.out.on hb3)
          have hl : lf cf d'[first + root]! d'[first + kidOf (lf cf) hi first root d']! = o := by rw [HKD.out, show first + t2 = f2 by have := HT.out; omega, ← HT.out.2.2.2.2.2, HX.out, HY.out]; exact HL.out
          clear hb3 HCC HS q0 q1 q2 q3 HL
          cases o with
          | true =>
            obtain ⟨q0, q1, q2, q3, ⟨fz0, fz1, fz2, fz3⟩, ⟨u, uu, q4, q5, q6⟩, HRS, HOS⟩ := swap_step HR3.out f0 f2 (by have := HT.out; omega) (by have := HT.out; omega) HO3.out HX.out HY.out
            have hst := HE0.out
            rw [sift_go (by have := HT.out; omega) hl, HKD.out, show first + t2 = f2 by have := HT.out; omega, ← HT.out.2.2.2.2.2] at hst
            have HST := Lib.hid hst
            have HKL := Lib.hid (kid_lt (lt := lf cf) (first := first) (d := d') (show ¬ 2 * root + 1 ≥ hi by have := HT.out; omega))
            rw [HKD.out] at HKL
            clear hst hl hd HKD
            go_wp2_with (fail)
            go_region
            go_wp2_with (fail)
            go_roundg (hi - t2)
            case measure => have := HKL.out; omega
            case rel => exact ⟨t2, swp d' f0 f2, rfl, rfl, by have := HKL.out; omega, by rw [size_swp]; exact hds, HST.out, HRS.out, HOS.out⟩
          | false =>
            have hst := HE0.out
            rw [sift_no (by have := HT.out; omega) hl] at hst
            have HST := Lib.hid hst
            clear hst hl hd HKD
            go_wp2_with (fail)
            refine bodyPost_ret (results_none rfl _ _ _) rfl ?_
            exact ⟨rfl, HO3.out, by rw [← HST.out]; exact HR3.out⟩
        · have hd1 : decide (r < 0) = false := decide_eq_false hrr
          have hkd : kidOf (lf cf) hi first root d' = t1 := by
            unfold kidOf
            have h1 := HX1.out
            rw [hd1] at h1
            have hT := HT.out
            rw [show first + (2 * root + 1) = f1 by omega, show f1 + 1 = f2 by omega, h1, hT.2.1]
            simp
          have HKD := Lib.hid hkd
          clear hkd hrr HX1
          go_wp2_with (fail)
          go_region_held3 (fun W => W.cell? ⟨g, f1 * 2, none⟩ = some (.int .u64 x.1) ∧ W.cell? ⟨g, f1 * 2 + 1, none⟩ = some (.int .i64 x.2) ∧ W.cell? ⟨g, f2 * 2, none⟩ = some (.int .u64 y.1) ∧ W.cell? ⟨g, f2 * 2 + 1, none⟩ = some (.int .i64 y.2)) ((refine HS.out _ ?_; repeat' (first | (with_reducible exact Below.refl _ _) | (with_reducible assumption) | (with_reducible refine Below.drew ?_) | (with_reducible refine below_drewN' ?_ _))))
            (first
              | (go_at_call 150; (with_reducible refine (HCC.out _ (by repeat' (first | (with_reducible exact Below.refl _ _) | (with_reducible assumption) | (with_reducible refine Below.drew ?_) | (with_reducible refine below_drewN' ?_ _)))).mono ?_); rintro e w2 ⟨rfl, hb2⟩))
          have HR2 := Lib.hid (HR.out.below hb2 (Nat.le_refl _))
          have HO2 := Lib.hid (HO.out.on hb2)
          clear hb2 HCC HS HR HO q0 q1 q2 q3 hd1
          obtain ⟨x, y, r, hx, hy, hl, HS, HCC, q0, q1, q2, q3⟩ := cmp_step (HC.out.only HO2.out hne) HR2.out f0 f1 (by have := HT.out; omega) (by have := HT.out; omega)
          have HX := Lib.hid hx
          have HY := Lib.hid hy
          have HL := Lib.hid hl
          clear hx hy hl
          obtain ⟨o, hd⟩ : ∃ o, decide (r < 0) = o := ⟨_, rfl⟩
          rw [hd] at HL
          go_wp2_with (fail)
          go_region_held3 (fun W => W.cell? ⟨g, f0 * 2, none⟩ = some (.int .u64 x.1) ∧ W.cell? ⟨g, f0 * 2 + 1, none⟩ = some (.int .i64 x.2) ∧ W.cell? ⟨g, f1 * 2, none⟩ = some (.int .u64 y.1) ∧ W.cell? ⟨g, f1 * 2 + 1, none⟩ = some (.int .i64 y.2)) ((refine HS.out _ ?_; repeat' (first | (with_reducible exact Below.refl _ _) | (with_reducible assumption) | (with_reducible refine Below.drew ?_) | (with_reducible refine below_drewN' ?_ _))))
            (first
              | (go_at_call 150; (with_reducible refine (HCC.out _ (by repeat' (first | (with_reducible exact Below.refl _ _) | (with_reducible assumption) | (with_reducible refine Below.drew ?_) | (with_reducible refine below_drewN' ?_ _)))).mono ?_); rintro e w3 ⟨rfl, hb3⟩))
          have HR3 := Lib.hid (HR2.out.below hb3 (Nat.le_refl _))
          have HO3 := Lib.hid (HO2.out.on hb3)
          have hl : lf cf d'[first + root]! d'[first + kidOf (lf cf) hi first root d']! = o := by rw [HKD.out, show first + t1 = f1 by have := HT.out; omega, ← HT.out.2.2.2.2.2, HX.out, HY.out]; exact HL.out
          clear hb3 HCC HS q0 q1 q2 q3 HL
          cases o with
          | true =>
            obtain ⟨q0, q1, q2, q3, ⟨fz0, fz1, fz2, fz3⟩, ⟨u, uu, q4, q5, q6⟩, HRS, HOS⟩ := swap_step HR3.out f0 f1 (by have := HT.out; omega) (by have := HT.out; omega) HO3.out HX.out HY.out
            have hst := HE0.out
            rw [sift_go (by have := HT.out; omega) hl, HKD.out, show first + t1 = f1 by have := HT.out; omega, ← HT.out.2.2.2.2.2] at hst
            have HST := Lib.hid hst
            have HKL := Lib.hid (kid_lt (lt := lf cf) (first := first) (d := d') (show ¬ 2 * root + 1 ≥ hi by have := HT.out; omega))
            rw [HKD.out] at HKL
            clear hst hl hd HKD
            go_wp2_with (fail)
            go_region
            go_wp2_with (fail)
            go_roundg (hi - t1)
            case measure => have := HKL.out; omega
            case rel => exact ⟨t1, swp d' f0 f1, rfl, rfl, by have := HKL.out; omega, by rw [size_swp]; exact hds, HST.out, HRS.out, HOS.out⟩
          | false =>
            have hst := HE0.out
            rw [sift_no (by have := HT.out; omega) hl] at hst
            have HST := Lib.hid hst
            clear hst hl hd HKD
            go_wp2_with (fail)
            refine bodyPost_ret (results_none rfl _ _ _) rfl ?_
            exact ⟨rfl, HO3.out, by rw [← HST.out]; exact HR3.out⟩
      · have i11 : ¬ (t2 : Int) < (hi : Int) := by omega
        have hkd : kidOf (lf cf) hi first root d' = t1 := by
          unfold kidOf
          have hT := HT.out
          rw [if_neg (by simp; omega), hT.2.1]
        have HKD := Lib.hid hkd
        have HR2 : Hid (HRow wr.drew base g c d') := Lib.hid hr.drew_
        have HO2 : Hid (Only (· = g) w wr.drew) := Lib.hid ho.drew
        clear hkd hr ho
        go_wp2_with (fail)
        go_region
        obtain ⟨x, y, r, hx, hy, hl, HS, HCC, q0, q1, q2, q3⟩ := cmp_step (HC.out.only HO2.out hne) HR2.out f0 f1 (by have := HT.out; omega) (by have := HT.out; omega)
        have HX := Lib.hid hx
        have HY := Lib.hid hy
        have HL := Lib.hid hl
        clear hx hy hl
        obtain ⟨o, hd⟩ : ∃ o, decide (r < 0) = o := ⟨_, rfl⟩
        rw [hd] at HL
        go_wp2_with (fail)
        go_region_held3 (fun W => W.cell? ⟨g, f0 * 2, none⟩ = some (.int .u64 x.1) ∧ W.cell? ⟨g, f0 * 2 + 1, none⟩ = some (.int .i64 x.2) ∧ W.cell? ⟨g, f1 * 2, none⟩ = some (.int .u64 y.1) ∧ W.cell? ⟨g, f1 * 2 + 1, none⟩ = some (.int .i64 y.2)) ((refine HS.out _ ?_; repeat' (first | (with_reducible exact Below.refl _ _) | (with_reducible assumption) | (with_reducible refine Below.drew ?_) | (with_reducible refine below_drewN' ?_ _))))
          (first
            | (go_at_call 150; (with_reducible refine (HCC.out _ (by repeat' (first | (with_reducible exact Below.refl _ _) | (with_reducible assumption) | (with_reducible refine Below.drew ?_) | (with_reducible refine below_drewN' ?_ _)))).mono ?_); rintro e w3 ⟨rfl, hb3⟩))
        have HR3 := Lib.hid (HR2.out.below hb3 (Nat.le_refl _))
        have HO3 := Lib.hid (HO2.out.on hb3)
        have hl : lf cf d'[first + root]! d'[first + kidOf (lf cf) hi first root d']! = o := by rw [HKD.out, show first + t1 = f1 by have := HT.out; omega, ← HT.out.2.2.2.2.2, HX.out, HY.out]; exact HL.out
        clear hb3 HCC HS q0 q1 q2 q3 HL
        cases o with
        | true =>
          obtain ⟨q0, q1, q2, q3, ⟨fz0, fz1, fz2, fz3⟩, ⟨u, uu, q4, q5, q6⟩, HRS, HOS⟩ := swap_step HR3.out f0 f1 (by have := HT.out; omega) (by have := HT.out; omega) HO3.out HX.out HY.out
          have hst := HE0.out
          rw [sift_go (by have := HT.out; omega) hl, HKD.out, show first + t1 = f1 by have := HT.out; omega, ← HT.out.2.2.2.2.2] at hst
          have HST := Lib.hid hst
          have HKL := Lib.hid (kid_lt (lt := lf cf) (first := first) (d := d') (show ¬ 2 * root + 1 ≥ hi by have := HT.out; omega))
          rw [HKD.out] at HKL
          clear hst hl hd HKD
          go_wp2_with (fail)
          go_region
          go_wp2_with (fail)
          go_roundg (hi - t1)
          case measure => have := HKL.out; omega
          case rel => exact ⟨t1, swp d' f0 f1, rfl, rfl, by have := HKL.out; omega, by rw [size_swp]; exact hds, HST.out, HRS.out, HOS.out⟩
        | false =>
          have hst := HE0.out
          rw [sift_no (by have := HT.out; omega) hl] at hst
          have HST := Lib.hid hst
          clear hst hl hd HKD
          go_wp2_with (fail)
          refine bodyPost_ret (results_none rfl _ _ _) rfl ?_
          exact ⟨rfl, HO3.out, by rw [← HST.out]; exact HR3.out⟩
end Go.Proofs.YtgbjpobgjmkjgaaGreat.hso
/-
  The contract of heapSortCmpFunc.
-/
namespace Go.Proofs.YtgbjpobgjmkjgaaGreat.hso
open Go.RowKit law bytes only flat hit heapM best Go.Sort Go.Shelf
set_option linter.unusedVariables false

theorem sift_size {lt : Hit → Hit → Bool} {hi first : Nat} : ∀ (n root : Nat) (d : Array Hit), hi - root ≤ n → (siftDown lt hi first root d).size = d.size := by
  intro n
  induction n with
  | zero => intro root d h; rw [sift_end (by omega)]
  | succ n ih =>
    intro root d h
    by_cases h1 : 2 * root + 1 ≥ hi
    · rw [sift_end h1]
    · cases hl : lt d[first + root]! d[first + kidOf lt hi first root d]! with
      | false => rw [sift_no h1 hl]
      | true =>
        have := kid_lt (lt := lt) (first := first) (d := d) h1
        rw [sift_go h1 hl, ih _ _ (by omega), size_swp]
theorem sift_sz (lt : Hit → Hit → Bool) (hi first root : Nat) (d : Array Hit) : (siftDown lt hi first root d).size = d.size := sift_size _ root d (Nat.le_refl _)
/-- a counter that runs down to -1 -/
def Cnt (k : Nat) (s : Value) : Prop := (k = 0 ∧ s = .int .i64 (-1)) ∨ ∃ m : Nat, k = m + 1 ∧ s = .int .i64 m
theorem cnt_of (k : Nat) : Cnt k (.int .i64 ((k : Int) - 1)) := by
  cases k with
  | zero => exact .inl ⟨rfl, rfl⟩
  | succ m => exact .inr ⟨m, rfl, by go_num⟩
set_option maxRecDepth 100000 in
set_option maxHeartbeats 6400000 in
theorem heapsort_any {hb K : Nat} {v : Value} {cf : Hit → Hit → Int} {base g c : Nat} {d : Array Hit} {w : World} (hc : Cm hb K v cf w) (hr : HRow w base g c d) (hne : hb ≠ g) (a b : Nat) (hab : a < b) (hb2 : b ≤ d.size) (hsz : d.size < 2305843009213693952) :
    Calls Tryz.prog 192 #[.slice (some ⟨g, 0, none⟩) d.size c, .int .i64 a, .int .i64 b, FV hb] w fun e w' =>
      e = .returned (.tuple #[]) ∧ Only (· = g) w w' ∧ HRow w' base g c (heapSort (lf cf) d a b) := by
  have HC := Lib.hid hc
  clear hc
  obtain ⟨fv, hfv⟩ : ∃ fv, fv = FV hb := ⟨_, rfl⟩
  rw [← hfv]
  have HS : Hid (∀ (W : World) (d' : Array Hit) (lo hi : Nat), d'.size = d.size → Only (· = g) w W → HRow W base g c d' → lo ≤ hi → hi ≤ b - a → Calls Tryz.prog 202 #[.slice (some ⟨g, 0, none⟩) d.size c, .int .i64 lo, .int .i64 hi, .int .i64 a, fv] W fun e w' =>
      e = .returned (.tuple #[]) ∧ Only (· = g) w w' ∧ HRow w' base g c (siftDown (lf cf) hi a lo d')) := Lib.hid fun W d' lo hi hds ho hr h1 h2 => by
    have := sift_any (HC.out.only ho hne) hr hne lo hi a h1 (by omega) (by omega)
    rw [hds] at this
    rw [hfv]
    exact this.mono fun e w' ⟨he, ho', hr'⟩ => ⟨he, ho.trans ho' fun _ e => .inl e, hr'⟩
  clear hfv
  obtain ⟨n, hn⟩ : ∃ n, n = b - a := ⟨_, rfl⟩
  obtain ⟨h0, hh0⟩ : ∃ h0, h0 = (n - 1) / 2 := ⟨_, rfl⟩
  have i0 : IntKind.i64.wrap ((b : Int) - (a : Int)) = (n : Int) := w64 (by omega) (by omega) (by omega)
  have i1 : IntKind.i64.wrap ((n : Int) - 1) = ((n - 1 : Nat) : Int) := w64 (by omega) (by omega) (by omega)
  have i2 : ((n - 1 : Nat) : Int) / 2 = (h0 : Int) := by omega
  have heq0 : heapPop (lf cf) a n (heapBuild (lf cf) n a (h0 + 1) d) = heapSort (lf cf) d a b := by rw [hh0, hn]; rfl
  have HN := Lib.hid (And.intro hn hh0)
  have HEQ := Lib.hid heq0
  have hnl : n ≤ d.size := by omega
  have hn1 : 1 ≤ n := by omega
  have hh1 : h0 ≤ n := by omega
  have hnb : a + n = b := by omega
  clear hn hh0 heq0
  go_enter Tryz.func192, Tryz.ntmps192
  go_wp2_with (fail)
  go_loopg [11] (h0 + 1) (fun gk s11 wr => ∃ (k : Nat) (d' : Array Hit), k = gk ∧ Cnt k s11 ∧ k ≤ n + 1 ∧ d'.size = d.size ∧ heapBuild (lf cf) n a k d' = heapBuild (lf cf) n a (h0 + 1) d ∧ HRow wr base g c d' ∧ Only (· = g) w wr)
  case atStart => exact ⟨h0 + 1, d, rfl, .inr ⟨h0, rfl, rfl⟩, by omega, rfl, rfl, hr, Only.refl _ _⟩
  case round =>
    clear hr
    obtain ⟨k, d', rfl, hcn, hk, hds, heq, hr, ho⟩ := hrel
    rcases hcn with ⟨rfl, rfl⟩ | ⟨m, rfl, rfl⟩
    · have HE : Hid (heapPop (lf cf) a n d' = heapSort (lf cf) d a b) := Lib.hid (by rw [← HEQ.out, ← heq]; rfl)
      clear heq
      go_wp2_with (fail)
      go_loopg [12] n (fun gk s12 wr => ∃ (k : Nat) (d2 : Array Hit), k = gk ∧ Cnt k s12 ∧ k ≤ n ∧ d2.size = d.size ∧ heapPop (lf cf) a k d2 = heapSort (lf cf) d a b ∧ HRow wr base g c d2 ∧ Only (· = g) w wr)
      case atStart => exact ⟨n, d', rfl, .inr ⟨n - 1, by omega, rfl⟩, Nat.le_refl _, hds, HE.out, hr, ho⟩
      case round =>
        clear hr ho hds HE
        obtain ⟨k, d2, rfl, hcn, hk, hds, heq, hr, ho⟩ := hrel
        rcases hcn with ⟨rfl, rfl⟩ | ⟨m, rfl, rfl⟩
        · have HE : Hid (d2 = heapSort (lf cf) d a b) := Lib.hid heq
          have HR := Lib.hid hr
          have HO := Lib.hid ho
          clear heq hr ho
          go_wp2_with (fail)
          go_end0
          exact ⟨rfl, HO.out, by rw [← HE.out]; exact HR.out⟩
        · obtain ⟨am, ham⟩ : ∃ am, am = a + m := ⟨_, rfl⟩
          have i3 : (0 : Int) ≤ (m : Int) := by omega
          have i4 : IntKind.i64.wrap ((a : Int) + (m : Int)) = (am : Int) := w64 (by omega) (by omega) (by omega)
          have i5 : (am : Int) < (d.size : Int) := by omega
          have i6 : (a : Int) < (d.size : Int) := by omega
          have hst : heapPop (lf cf) a m (siftDown (lf cf) m a 0 (swp d2 a am)) = heapSort (lf cf) d a b := by rw [← heq, ham]; rfl
          obtain ⟨q0, q1, q2, q3, ⟨fz0, fz1, fz2, fz3⟩, ⟨u, uu, q4, q5, q6⟩, HRS, HOS⟩ := swap_step hr a am (by omega) (by omega) ho rfl rfl
          generalize d2[a]! = x at q0 q1 q2 q3 q4 q5 q6 HRS HOS
          generalize d2[am]! = y at q0 q1 q2 q3 q4 q5 q6 HRS HOS
          have HST := Lib.hid hst
          have HSZ : Hid ((swp d2 a am).size = d.size) := Lib.hid (by rw [size_swp]; exact hds)
          have HSI := Lib.hid (HS.out _ (swp d2 a am) 0 m HSZ.out HOS.out HRS.out (Nat.zero_le _) (by have := HN.out.1; omega))
          clear hst heq hr ho ham
          go_wp2_with (fail)
          go_region
          go_wp2_with (fail)
          refine HSI.out.mono ?_
          rintro e w3 ⟨rfl, ho3, hr3⟩
          have HO3 := Lib.hid ho3
          have HR3 := Lib.hid hr3
          clear ho3 hr3
          go_wp2_with (fail)
          go_roundg m
          case measure => omega
          case rel => exact ⟨m, _, rfl, cnt_of m, by omega, by rw [sift_sz]; exact HSZ.out, HST.out, HR3.out, HO3.out⟩
    · have i3 : (0 : Int) ≤ (m : Int) := by omega
      have hst : heapBuild (lf cf) n a m (siftDown (lf cf) n a m d') = heapBuild (lf cf) n a (h0 + 1) d := heq
      have HST := Lib.hid hst
      have HSI := Lib.hid (HS.out _ d' m n hds ho hr (by omega) (by have := HN.out.1; omega))
      clear hst heq hr ho
      go_wp2_with (fail)
      refine HSI.out.mono ?_
      rintro e w3 ⟨rfl, ho3, hr3⟩
      have HO3 := Lib.hid ho3
      have HR3 := Lib.hid hr3
      clear ho3 hr3
      go_wp2_with (fail)
      go_roundg m
      case measure => omega
      case rel => exact ⟨m, _, rfl, cnt_of m, by omega, by rw [sift_sz]; exact hds, HST.out, HR3.out, HO3.out⟩
end Go.Proofs.YtgbjpobgjmkjgaaGreat.hso
/-
  The contract of partitionEqualCmpFunc.
-/
namespace Go.Proofs.YtgbjpobgjmkjgaaGreat.hso
open Go.RowKit law bytes only flat hit heapM best Go.Sort Go.Shelf
set_option linter.unusedVariables false

section
variable {p : Hit → Bool} {d : Array Hit} {i j : Nat}
theorem up_go (h : i ≤ j) (hp : p d[i]! = true) : scanUp p d j i = scanUp p d j (i + 1) := by rw [scanUp, if_pos (by simp [h, hp])]
theorem up_no (hp : p d[i]! = false) : scanUp p d j i = i := by rw [scanUp, if_neg (by simp [hp])]
theorem up_end (h : ¬ i ≤ j) : scanUp p d j i = i := by rw [scanUp, if_neg (by simp [h])]
theorem down_go (h0 : 0 < j) (h : i ≤ j) (hp : p d[j]! = true) : scanDown p d i j = scanDown p d i (j - 1) := by
  obtain ⟨m, rfl⟩ : ∃ m, j = m + 1 := ⟨j - 1, by omega⟩
  rw [scanDown, if_pos (by simp [h, hp])]; rfl
theorem down_no (hp : p d[j]! = false) : scanDown p d i j = j := by
  cases j with
  | zero => rfl
  | succ m => rw [scanDown, if_neg (by simp [hp])]
theorem down_end (h : ¬ i ≤ j) : scanDown p d i j = j := by
  cases j with
  | zero => rfl
  | succ m => rw [scanDown, if_neg (by simp [h])]
theorem apart {q : Hit → Bool} (hq : ∀ x, q x = !p x) {i2 j2 : Nat} (hi : 0 < i) (hij : i ≤ j + 1) (h1 : scanUp p d j i = i2) (h2 : scanDown q d i2 j = j2) (h3 : ¬ i2 > j2) : i2 < j2 := by
  have := round_facts p q hq d (i - 1) (j + 1) i j (by omega) hij (fun t _ _ => by omega) (fun t _ _ => by omega)
  rw [h1, h2] at this
  exact (this.2.2.2.2.2.2 h3).2.2
end
set_option maxRecDepth 100000 in
set_option maxHeartbeats 12800000 in
theorem parteq_any {hb K : Nat} {v : Value} {cf : Hit → Hit → Int} {base g c : Nat} {d : Array Hit} {w : World} (hc : Cm hb K v cf w) (hr : HRow w base g c d) (hne : hb ≠ g) (a b pivot : Nat) (hap : a ≤ pivot) (hpb : pivot < b) (hb2 : b ≤ d.size) (hsz : d.size < 2305843009213693952) :
    Calls Tryz.prog 197 #[.slice (some ⟨g, 0, none⟩) d.size c, .int .i64 a, .int .i64 b, .int .i64 pivot, FV hb] w fun e w' =>
      e = .returned (.int .i64 (partitionEqual (lf cf) d a b pivot).1) ∧ Only (· = g) w w' ∧ HRow w' base g c (partitionEqual (lf cf) d a b pivot).2 := by
  have HC := Lib.hid hc
  clear hc
  unfold FV
  have i0 : IntKind.i64.wrap ((a : Int) + 1) = ((a + 1 : Nat) : Int) := w64 (by omega) (by omega) (by omega)
  have i1 : IntKind.i64.wrap ((b : Int) - 1) = ((b - 1 : Nat) : Int) := w64 (by omega) (by omega) (by omega)
  have i2 : (a : Int) < (d.size : Int) := by omega
  have i3 : (pivot : Int) < (d.size : Int) := by omega
  obtain ⟨q0, q1, q2, q3, ⟨fz0, fz1, fz2, fz3⟩, ⟨u, uu, q4, q5, q6⟩, HR0, HO0⟩ := swap_step hr a pivot (by omega) (by omega) (Only.refl _ _) rfl rfl
  generalize d[a]! = x at q0 q1 q2 q3 q4 q5 q6 HR0 HO0
  generalize d[pivot]! = y at q0 q1 q2 q3 q4 q5 q6 HR0 HO0
  clear hr
  go_enter Tryz.func197, Tryz.ntmps197
  go_wp2_with (fail)
  go_region
  clear q0 q1 q2 q3 fz0 fz1 fz2 fz3 q4 q5 q6 i3
  go_wp2_with (fail)
  go_loopg [11, 12] (b - 1 + 1 - (a + 1)) (fun gk s11 s12 wr => ∃ (i j : Nat) (d' : Array Hit), gk = j + 1 - i ∧ s11 = .int .i64 i ∧ s12 = .int .i64 j ∧ a < i ∧ i ≤ j + 1 ∧ j < b ∧ d'.size = d.size ∧ partEqLoop (lf cf) a i j d' = partEqLoop (lf cf) a (a + 1) (b - 1) (swp d a pivot) ∧ HRow wr base g c d' ∧ Only (· = g) w wr)
  case atStart => exact ⟨a + 1, b - 1, swp d a pivot, rfl, rfl, rfl, by omega, by omega, by omega, by rw [size_swp], rfl, HR0.out, HO0.out⟩
  case round =>
    clear HR0 HO0
    obtain ⟨i, j, d', rfl, rfl, rfl, hai, hij, hjb, hds, heq, hr, ho⟩ := hrel
    obtain ⟨w0, hw0⟩ : ∃ w0, w0 = wr := ⟨_, rfl⟩
    subst hw0
    have HRu := Lib.hid hr
    have HOu := Lib.hid ho
    have HE := Lib.hid heq
    clear hr ho heq
    go_wp2_with (fail)
    go_loopg [11] (j + 1 - i) (fun gk s wr => ∃ iu : Nat, gk = j + 1 - iu ∧ s = .int .i64 iu ∧ i ≤ iu ∧ iu ≤ j + 1 ∧ scanUp (fun x => !lf cf d'[a]! x) d' j iu = scanUp (fun x => !lf cf d'[a]! x) d' j i ∧ HRow wr base g c d' ∧ Only (· = g) w wr)
    case atStart => exact ⟨i, rfl, rfl, Nat.le_refl _, hij, rfl, HRu.out, HOu.out⟩
    case round =>
      clear HRu HOu
      obtain ⟨iu, rfl, rfl, hiu1, hiu2, hsc, hr, ho⟩ := hrel
      have HSCu := Lib.hid hsc
      clear hsc
      by_cases hle : iu ≤ j
      · have k1 : (iu : Int) ≤ (j : Int) := by omega
        have k2 : (iu : Int) < (d.size : Int) := by omega
        have k3 : IntKind.i64.wrap ((iu : Int) + 1) = ((iu + 1 : Nat) : Int) := w64 (by omega) (by omega) (by omega)
        obtain ⟨x, y, r, hx, hy, hl, HS, HCC, q0, q1, q2, q3⟩ := cmp_step (HC.out.only ho hne) hr a iu (by omega) (by omega)
        have hl2 : lf cf d'[a]! d'[iu]! = decide (r < 0) := by rw [hx, hy]; exact hl
        have HL := Lib.hid hl2
        have HR := Lib.hid hr
        have HO := Lib.hid ho
        clear hl2 hx hy hl hr ho
        by_cases hrr : r < 0
        · have hdd : decide (r < 0) = true := decide_eq_true hrr
          have hst : scanUp (fun x => !lf cf d'[a]! x) d' j i = iu := by rw [← HSCu.out]; exact up_no (by have hl := HL.out; rw [hdd] at hl; simp only [hl]; rfl)
          have HST := Lib.hid hst
          clear hst HL hrr
          go_wp2_with (fail)
          go_region_held3 (fun W => W.cell? ⟨g, a * 2, none⟩ = some (.int .u64 x.1) ∧ W.cell? ⟨g, a * 2 + 1, none⟩ = some (.int .i64 x.2) ∧ W.cell? ⟨g, iu * 2, none⟩ = some (.int .u64 y.1) ∧ W.cell? ⟨g, iu * 2 + 1, none⟩ = some (.int .i64 y.2)) ((refine HS.out _ ?_; repeat' (first | (with_reducible exact Below.refl _ _) | (with_reducible assumption) | (with_reducible refine Below.drew ?_) | (with_reducible refine below_drewN' ?_ _))))
            (first
              | (go_at_call 150; (with_reducible refine (HCC.out _ (by repeat' (first | (with_reducible exact Below.refl _ _) | (with_reducible assumption) | (with_reducible refine Below.drew ?_) | (with_reducible refine below_drewN' ?_ _)))).mono ?_); rintro e w2 ⟨rfl, hb2⟩))
          have HRu := Lib.hid (HR.out.below hb2 (Nat.le_refl _))
          have HOu := Lib.hid (HO.out.on hb2)
          clear HR HO HS HCC q0 q1 q2 q3 hb2 hdd
          have HUu := HST
          clear HST k1 k2 k3
          go_wp2_with (fail)
          go_loopg [12] j (fun gk s wr => ∃ jv : Nat, jv = gk ∧ s = .int .i64 jv ∧ jv ≤ j ∧ iu ≤ jv + 1 ∧ scanDown (fun x => lf cf d'[a]! x) d' iu jv = scanDown (fun x => lf cf d'[a]! x) d' iu j ∧ HRow wr base g c d' ∧ Only (· = g) w wr)
          case atStart => exact ⟨j, rfl, rfl, Nat.le_refl _, by omega, rfl, HRu.out, HOu.out⟩
          case round =>
            clear HRu HOu
            obtain ⟨jv, rfl, rfl, hjv1, hjv2, hsc, hr, ho⟩ := hrel
            have HSCv := Lib.hid hsc
            clear hsc
            by_cases hle : iu ≤ jv
            · have k1 : (iu : Int) ≤ (jv : Int) := by omega
              have k2 : (jv : Int) < (d.size : Int) := by omega
              have k3 : IntKind.i64.wrap ((jv : Int) - 1) = ((jv - 1 : Nat) : Int) := w64 (by omega) (by omega) (by omega)
              obtain ⟨x, y, r, hx, hy, hl, HS, HCC, q0, q1, q2, q3⟩ := cmp_step (HC.out.only ho hne) hr a jv (by omega) (by omega)
              have hl2 : lf cf d'[a]! d'[jv]! = decide (r < 0) := by rw [hx, hy]; exact hl
              have HL := Lib.hid hl2
              have HR := Lib.hid hr
              have HO := Lib.hid ho
              have HXJ := Lib.hid hy
              have HXA := Lib.hid hx
              clear hl2 hx hy hl hr ho
              by_cases hrr : r < 0
              · have hdd : decide (r < 0) = true := decide_eq_true hrr
                have hst : scanDown (fun x => lf cf d'[a]! x) d' iu (jv - 1) = scanDown (fun x => lf cf d'[a]! x) d' iu j := by rw [← HSCv.out]; exact (down_go (by omega) hle (by have hl := HL.out; rw [hdd] at hl; simp only [hl])).symm
                have HST := Lib.hid hst
                clear hst HL hrr
                go_wp2_with (fail)
                go_region_held3 (fun W => W.cell? ⟨g, a * 2, none⟩ = some (.int .u64 x.1) ∧ W.cell? ⟨g, a * 2 + 1, none⟩ = some (.int .i64 x.2) ∧ W.cell? ⟨g, jv * 2, none⟩ = some (.int .u64 y.1) ∧ W.cell? ⟨g, jv * 2 + 1, none⟩ = some (.int .i64 y.2)) ((refine HS.out _ ?_; repeat' (first | (with_reducible exact Below.refl _ _) | (with_reducible assumption) | (with_reducible refine Below.drew ?_) | (with_reducible refine below_drewN' ?_ _))))
                  (first
                    | (go_at_call 150; (with_reducible refine (HCC.out _ (by repeat' (first | (with_reducible exact Below.refl _ _) | (with_reducible assumption) | (with_reducible refine Below.drew ?_) | (with_reducible refine below_drewN' ?_ _)))).mono ?_); rintro e w2 ⟨rfl, hb2⟩))
                have HRv := Lib.hid (HR.out.below hb2 (Nat.le_refl _))
                have HOv := Lib.hid (HO.out.on hb2)
                clear HR HO HS HCC q0 q1 q2 q3 hb2 hdd
                go_wp2_with (fail)
                go_roundg (jv - 1)
                case measure => omega
                case rel => exact ⟨jv - 1, rfl, rfl, by omega, by omega, HST.out, HRv.out, HOv.out⟩
              · have hdd : decide (r < 0) = false := decide_eq_false hrr
                have hst : scanDown (fun x => lf cf d'[a]! x) d' iu j = jv := by rw [← HSCv.out]; exact down_no (by have hl := HL.out; rw [hdd] at hl; simp only [hl])
                have HST := Lib.hid hst
                clear hst HL hrr
                go_wp2_with (fail)
                go_region_held3 (fun W => W.cell? ⟨g, a * 2, none⟩ = some (.int .u64 x.1) ∧ W.cell? ⟨g, a * 2 + 1, none⟩ = some (.int .i64 x.2) ∧ W.cell? ⟨g, jv * 2, none⟩ = some (.int .u64 y.1) ∧ W.cell? ⟨g, jv * 2 + 1, none⟩ = some (.int .i64 y.2)) ((refine HS.out _ ?_; repeat' (first | (with_reducible exact Below.refl _ _) | (with_reducible assumption) | (with_reducible refine Below.drew ?_) | (with_reducible refine below_drewN' ?_ _))))
                  (first
                    | (go_at_call 150; (with_reducible refine (HCC.out _ (by repeat' (first | (with_reducible exact Below.refl _ _) | (with_reducible assumption) | (with_reducible refine Below.drew ?_) | (with_reducible refine below_drewN' ?_ _)))).mono ?_); rintro e w2 ⟨rfl, hb2⟩))
                have HRv := Lib.hid (HR.out.below hb2 (Nat.le_refl _))
                have HOv := Lib.hid (HO.out.on hb2)
                clear HR HO HS HCC q0 q1 q2 q3 hb2 hdd
                have HDv := HST
                clear HST k1 k2 k3
                have hap := fun h => apart (p := (fun x => !lf cf d'[a]! x)) (q := (fun x => lf cf d'[a]! x)) (fun x => by simp) (by omega) hij HUu.out (by have := HDv.out; exact this) h
                have hst : (if iu > jv then (iu, d') else partEqLoop (lf cf) a (iu + 1) (jv - 1) (swp d' iu jv)) = partEqLoop (lf cf) a (a + 1) (b - 1) (swp d a pivot) := by
                  have h1 := partEqLoop_eq (lf cf) a i j d'
                  rw [HUu.out, HDv.out] at h1
                  exact h1.symm.trans HE.out
                have HST := Lib.hid hst
                have HAP := Lib.hid hap
                clear hst hap
                by_cases hgt : iu > jv
                · have k1 : (jv : Int) < (iu : Int) := by omega
                  have hst := HST.out
                  rw [if_pos hgt] at hst
                  have HST2 := Lib.hid hst
                  clear hst
                  go_wp2_with (fail)
                  go_ret
                  exact ⟨by unfold partitionEqual; rw [← HST2.out]; rfl, HOv.out, by unfold partitionEqual; rw [← HST2.out]; exact HRv.out⟩
                · have k1 : ¬ (jv : Int) < (iu : Int) := by omega
                  have hst := HST.out
                  rw [if_neg hgt] at hst
                  have HST2 := Lib.hid hst
                  have hlt := HAP.out hgt
                  clear hst
                  have k2 : (iu : Int) < (d.size : Int) := by omega
                  have k3 : (jv : Int) < (d.size : Int) := by omega
                  have k4 : IntKind.i64.wrap ((iu : Int) + 1) = ((iu + 1 : Nat) : Int) := w64 (by omega) (by omega) (by omega)
                  have k5 : IntKind.i64.wrap ((jv : Int) - 1) = ((jv - 1 : Nat) : Int) := w64 (by omega) (by omega) (by omega)
                  obtain ⟨q0, q1, q2, q3, ⟨fz0, fz1, fz2, fz3⟩, ⟨u, uu, q4, q5, q6⟩, HRS, HOS⟩ := swap_step HRv.out iu jv (by omega) (by omega) HOv.out rfl HXJ.out
                  generalize d'[iu]! = x' at q0 q1 q2 q3 q4 q5 q6 HRS HOS
                  go_wp2_with (fail)
                  go_region
                  go_wp2_with (fail)
                  go_roundg (jv - 1 + 1 - (iu + 1))
                  case measure => omega
                  case rel => exact ⟨iu + 1, jv - 1, swp d' iu jv, rfl, rfl, rfl, by omega, by omega, by omega, by rw [size_swp]; exact hds, HST2.out, HRS.out, HOS.out⟩
            · have k1 : ¬ (iu : Int) ≤ (jv : Int) := by omega
              have hst : scanDown (fun x => lf cf d'[a]! x) d' iu j = jv := by rw [← HSCv.out]; exact down_end hle
              have HDv := Lib.hid hst
              obtain ⟨z, hz⟩ : ∃ z, d'[jv]! = z := ⟨_, rfl⟩
              obtain ⟨z2, hz2⟩ : ∃ z2, d'[a]! = z2 := ⟨_, rfl⟩
              have HXJ := Lib.hid hz
              have HXA := Lib.hid hz2
              clear hz hz2
              have HRv : Hid (HRow wr.drew base g c d') := Lib.hid hr.drew_
              have HOv : Hid (Only (· = g) w wr.drew) := Lib.hid ho.drew
              clear hst hr ho
              go_wp2_with (fail)
              go_region
              clear k1
              have hap := fun h => apart (p := (fun x => !lf cf d'[a]! x)) (q := (fun x => lf cf d'[a]! x)) (fun x => by simp) (by omega) hij HUu.out (by have := HDv.out; exact this) h
              have hst : (if iu > jv then (iu, d') else partEqLoop (lf cf) a (iu + 1) (jv - 1) (swp d' iu jv)) = partEqLoop (lf cf) a (a + 1) (b - 1) (swp d a pivot) := by
                have h1 := partEqLoop_eq (lf cf) a i j d'
                rw [HUu.out, HDv.out] at h1
                exact h1.symm.trans HE.out
              have HST := Lib.hid hst
              have HAP := Lib.hid hap
              clear hst hap
              by_cases hgt : iu > jv
              · have k1 : (jv : Int) < (iu : Int) := by omega
                have hst := HST.out
                rw [if_pos hgt] at hst
                have HST2 := Lib.hid hst
                clear hst
                go_wp2_with (fail)
                go_ret
                exact ⟨by unfold partitionEqual; rw [← HST2.out]; rfl, HOv.out, by unfold partitionEqual; rw [← HST2.out]; exact HRv.out⟩
              · exact absurd hgt (by omega)
        · have hdd : decide (r < 0) = false := decide_eq_false hrr
          have hst : scanUp (fun x => !lf cf d'[a]! x) d' j (iu + 1) = scanUp (fun x => !lf cf d'[a]! x) d' j i := by rw [← HSCu.out]; exact (up_go hle (by have hl := HL.out; rw [hdd] at hl; simp only [hl]; rfl)).symm
          have HST := Lib.hid hst
          clear hst HL hrr
          go_wp2_with (fail)
          go_region_held3 (fun W => W.cell? ⟨g, a * 2, none⟩ = some (.int .u64 x.1) ∧ W.cell? ⟨g, a * 2 + 1, none⟩ = some (.int .i64 x.2) ∧ W.cell? ⟨g, iu * 2, none⟩ = some (.int .u64 y.1) ∧ W.cell? ⟨g, iu * 2 + 1, none⟩ = some (.int .i64 y.2)) ((refine HS.out _ ?_; repeat' (first | (with_reducible exact Below.refl _ _) | (with_reducible assumption) | (with_reducible refine Below.drew ?_) | (with_reducible refine below_drewN' ?_ _))))
            (first
              | (go_at_call 150; (with_reducible refine (HCC.out _ (by repeat' (first | (with_reducible exact Below.refl _ _) | (with_reducible assumption) | (with_reducible refine Below.drew ?_) | (with_reducible refine below_drewN' ?_ _)))).mono ?_); rintro e w2 ⟨rfl, hb2⟩))
          have HRu := Lib.hid (HR.out.below hb2 (Nat.le_refl _))
          have HOu := Lib.hid (HO.out.on hb2)
          clear HR HO HS HCC q0 q1 q2 q3 hb2 hdd
          go_wp2_with (fail)
          go_roundg (j + 1 - (iu + 1))
          case measure => omega
          case rel => exact ⟨iu + 1, rfl, rfl, by omega, by omega, HST.out, HRu.out, HOu.out⟩
      · have k1 : ¬ (iu : Int) ≤ (j : Int) := by omega
        have hst : scanUp (fun x => !lf cf d'[a]! x) d' j i = iu := by rw [← HSCu.out]; exact up_end hle
        have HUu := Lib.hid hst
        have HRu : Hid (HRow wr.drew base g c d') := Lib.hid hr.drew_
        have HOu : Hid (Only (· = g) w wr.drew) := Lib.hid ho.drew
        clear hst hr ho
        go_wp2_with (fail)
        go_region
        clear k1
        go_wp2_with (fail)
        go_loopg [12] j (fun gk s wr => ∃ jv : Nat, jv = gk ∧ s = .int .i64 jv ∧ jv ≤ j ∧ iu ≤ jv + 1 ∧ scanDown (fun x => lf cf d'[a]! x) d' iu jv = scanDown (fun x => lf cf d'[a]! x) d' iu j ∧ HRow wr base g c d' ∧ Only (· = g) w wr)
        case atStart => exact ⟨j, rfl, rfl, Nat.le_refl _, by omega, rfl, HRu.out, HOu.out⟩
        case round =>
          clear HRu HOu
          obtain ⟨jv, rfl, rfl, hjv1, hjv2, hsc, hr, ho⟩ := hrel
          have HSCv := Lib.hid hsc
          clear hsc
          by_cases hle : iu ≤ jv
          · exact absurd hle (by omega)
          · have k1 : ¬ (iu : Int) ≤ (jv : Int) := by omega
            have hst : scanDown (fun x => lf cf d'[a]! x) d' iu j = jv := by rw [← HSCv.out]; exact down_end hle
            have HDv := Lib.hid hst
            obtain ⟨z, hz⟩ : ∃ z, d'[jv]! = z := ⟨_, rfl⟩
            obtain ⟨z2, hz2⟩ : ∃ z2, d'[a]! = z2 := ⟨_, rfl⟩
            have HXJ := Lib.hid hz
            have HXA := Lib.hid hz2
            clear hz hz2
            have HRv : Hid (HRow wr.drew base g c d') := Lib.hid hr.drew_
            have HOv : Hid (Only (· = g) w wr.drew) := Lib.hid ho.drew
            clear hst hr ho
            go_wp2_with (fail)
            go_region
            clear k1
            have hap := fun h => apart (p := (fun x => !lf cf d'[a]! x)) (q := (fun x => lf cf d'[a]! x)) (fun x => by simp) (by omega) hij HUu.out (by have := HDv.out; exact this) h
            have hst : (if iu > jv then (iu, d') else partEqLoop (lf cf) a (iu + 1) (jv - 1) (swp d' iu jv)) = partEqLoop (lf cf) a (a + 1) (b - 1) (swp d a pivot) := by
              have h1 := partEqLoop_eq (lf cf) a i j d'
              rw [HUu.out, HDv.out] at h1
              exact h1.symm.trans HE.out
            have HST := Lib.hid hst
            have HAP := Lib.hid hap
            clear hst hap
            by_cases hgt : iu > jv
            · have k1 : (jv : Int) < (iu : Int) := by omega
              have hst := HST.out
              rw [if_pos hgt] at hst
              have HST2 := Lib.hid hst
              clear hst
              go_wp2_with (fail)
              go_ret
              exact ⟨by unfold partitionEqual; rw [← HST2.out]; rfl, HOv.out, by unfold partitionEqual; rw [← HST2.out]; exact HRv.out⟩
            · exact absurd hgt (by omega)
end Go.Proofs.YtgbjpobgjmkjgaaGreat.hso
