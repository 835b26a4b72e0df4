/-
  The contract of heapSortCmpFunc.
-/
import Derived.Test.YtbpahlhmdbahjaaHsoH
namespace Go.Proofs.Ytbpahlhmdbahjaa.hso
open Go.RowKit law bytes only flat hit heapM best Go.Sort Go.Shelf
set_option linter.unusedVariables false

theorem sift_size {lt : Hit → Hit → Bool} {hi first : Nat} : ∀ (n root : Nat) (d : Array Hit), hi - root ≤ n → (siftDown lt hi first root d).size = d.size := by
  intro n
  induction n with
  | zero => intro root d h; rw [sift_end (by omega)]
  | succ n ih =>
    intro root d h
    by_cases h1 : 2 * root + 1 ≥ hi
    · rw [sift_end h1]
    · cases hl : lt d[first + root]! d[first + kidOf lt hi first root d]! with
      | false => rw [sift_no h1 hl]
      | true =>
        have := kid_lt (lt := lt) (first := first) (d := d) h1
        rw [sift_go h1 hl, ih _ _ (by omega), size_swp]
theorem sift_sz (lt : Hit → Hit → Bool) (hi first root : Nat) (d : Array Hit) : (siftDown lt hi first root d).size = d.size := sift_size _ root d (Nat.le_refl _)
/-- a counter that runs down to -1 -/
def Cnt (k : Nat) (s : Value) : Prop := (k = 0 ∧ s = .int .i64 (-1)) ∨ ∃ m : Nat, k = m + 1 ∧ s = .int .i64 m
theorem cnt_of (k : Nat) : Cnt k (.int .i64 ((k : Int) - 1)) := by
  cases k with
  | zero => exact .inl ⟨rfl, rfl⟩
  | succ m => exact .inr ⟨m, rfl, by go_num⟩
set_option maxRecDepth 100000 in
set_option maxHeartbeats 6400000 in
theorem heapsort_any {hb K : Nat} {v : Value} {cf : Hit → Hit → Int} {base g c : Nat} {d : Array Hit} {w : World} (hc : Cm hb K v cf w) (hr : HRow w base g c d) (hne : hb ≠ g) (a b : Nat) (hab : a < b) (hb2 : b ≤ d.size) (hsz : d.size < 2305843009213693952) :
    Calls Try.prog 44 #[.slice (some ⟨g, 0, none⟩) d.size c, .int .i64 a, .int .i64 b, FV hb] w fun e w' =>
      e = .returned (.tuple #[]) ∧ Only (· = g) w w' ∧ HRow w' base g c (heapSort (lf cf) d a b) := by
  have HC := Lib.hid hc
  clear hc
  obtain ⟨fv, hfv⟩ : ∃ fv, fv = FV hb := ⟨_, rfl⟩
  rw [← hfv]
  have HS : Hid (∀ (W : World) (d' : Array Hit) (lo hi : Nat), d'.size = d.size → Only (· = g) w W → HRow W base g c d' → lo ≤ hi → hi ≤ b - a → Calls Try.prog 53 #[.slice (some ⟨g, 0, none⟩) d.size c, .int .i64 lo, .int .i64 hi, .int .i64 a, fv] W fun e w' =>
      e = .returned (.tuple #[]) ∧ Only (· = g) w w' ∧ HRow w' base g c (siftDown (lf cf) hi a lo d')) := Lib.hid fun W d' lo hi hds ho hr h1 h2 => by
    have := sift_any (HC.out.only ho hne) hr hne lo hi a h1 (by omega) (by omega)
    rw [hds] at this
    rw [hfv]
    exact this.mono fun e w' ⟨he, ho', hr'⟩ => ⟨he, ho.trans ho' fun _ e => .inl e, hr'⟩
  clear hfv
  obtain ⟨n, hn⟩ : ∃ n, n = b - a := ⟨_, rfl⟩
  obtain ⟨h0, hh0⟩ : ∃ h0, h0 = (n - 1) / 2 := ⟨_, rfl⟩
  have i0 : IntKind.i64.wrap ((b : Int) - (a : Int)) = (n : Int) := w64 (by omega) (by omega) (by omega)
  have i1 : IntKind.i64.wrap ((n : Int) - 1) = ((n - 1 : Nat) : Int) := w64 (by omega) (by omega) (by omega)
  have i2 : ((n - 1 : Nat) : Int) / 2 = (h0 : Int) := by omega
  have heq0 : heapPop (lf cf) a n (heapBuild (lf cf) n a (h0 + 1) d) = heapSort (lf cf) d a b := by rw [hh0, hn]; rfl
  have HN := Lib.hid (And.intro hn hh0)
  have HEQ := Lib.hid heq0
  have hnl : n ≤ d.size := by omega
  have hn1 : 1 ≤ n := by omega
  have hh1 : h0 ≤ n := by omega
  have hnb : a + n = b := by omega
  clear hn hh0 heq0
  go_enter Try.func44, Try.ntmps44
  go_wp2_with (fail)
  go_loopg [11] (h0 + 1) (fun gk s11 wr => ∃ (k : Nat) (d' : Array Hit), k = gk ∧ Cnt k s11 ∧ k ≤ n + 1 ∧ d'.size = d.size ∧ heapBuild (lf cf) n a k d' = heapBuild (lf cf) n a (h0 + 1) d ∧ HRow wr base g c d' ∧ Only (· = g) w wr)
  case atStart => exact ⟨h0 + 1, d, rfl, .inr ⟨h0, rfl, rfl⟩, by omega, rfl, rfl, hr, Only.refl _ _⟩
  case round =>
    clear hr
    obtain ⟨k, d', rfl, hcn, hk, hds, heq, hr, ho⟩ := hrel
    rcases hcn with ⟨rfl, rfl⟩ | ⟨m, rfl, rfl⟩
    · have HE : Hid (heapPop (lf cf) a n d' = heapSort (lf cf) d a b) := Lib.hid (by rw [← HEQ.out, ← heq]; rfl)
      clear heq
      go_wp2_with (fail)
      go_loopg [12] n (fun gk s12 wr => ∃ (k : Nat) (d2 : Array Hit), k = gk ∧ Cnt k s12 ∧ k ≤ n ∧ d2.size = d.size ∧ heapPop (lf cf) a k d2 = heapSort (lf cf) d a b ∧ HRow wr base g c d2 ∧ Only (· = g) w wr)
      case atStart => exact ⟨n, d', rfl, .inr ⟨n - 1, by omega, rfl⟩, Nat.le_refl _, hds, HE.out, hr, ho⟩
      case round =>
        clear hr ho hds HE
        obtain ⟨k, d2, rfl, hcn, hk, hds, heq, hr, ho⟩ := hrel
        rcases hcn with ⟨rfl, rfl⟩ | ⟨m, rfl, rfl⟩
        · have HE : Hid (d2 = heapSort (lf cf) d a b) := Lib.hid heq
          have HR := Lib.hid hr
          have HO := Lib.hid ho
          clear heq hr ho
          go_wp2_with (fail)
          go_end0
          exact ⟨rfl, HO.out, by rw [← HE.out]; exact HR.out⟩
        · obtain ⟨am, ham⟩ : ∃ am, am = a + m := ⟨_, rfl⟩
          have i3 : (0 : Int) ≤ (m : Int) := by omega
          have i4 : IntKind.i64.wrap ((a : Int) + (m : Int)) = (am : Int) := w64 (by omega) (by omega) (by omega)
          have i5 : (am : Int) < (d.size : Int) := by omega
          have i6 : (a : Int) < (d.size : Int) := by omega
          have hst : heapPop (lf cf) a m (siftDown (lf cf) m a 0 (swp d2 a am)) = heapSort (lf cf) d a b := by rw [← heq, ham]; rfl
          obtain ⟨q0, q1, q2, q3, ⟨fz0, fz1, fz2, fz3⟩, ⟨u, uu, q4, q5, q6⟩, HRS, HOS⟩ := swap_step hr a am (by omega) (by omega) ho rfl rfl
          generalize d2[a]! = x at q0 q1 q2 q3 q4 q5 q6 HRS HOS
          generalize d2[am]! = y at q0 q1 q2 q3 q4 q5 q6 HRS HOS
          have HST := Lib.hid hst
          have HSZ : Hid ((swp d2 a am).size = d.size) := Lib.hid (by rw [size_swp]; exact hds)
          have HSI := Lib.hid (HS.out _ (swp d2 a am) 0 m HSZ.out HOS.out HRS.out (Nat.zero_le _) (by have := HN.out.1; omega))
          clear hst heq hr ho ham
          go_wp2_with (fail)
          go_region
          go_wp2_with (fail)
          refine HSI.out.mono ?_
          rintro e w3 ⟨rfl, ho3, hr3⟩
          have HO3 := Lib.hid ho3
          have HR3 := Lib.hid hr3
          clear ho3 hr3
          go_wp2_with (fail)
          go_roundg m
          case measure => omega
          case rel => exact ⟨m, _, rfl, cnt_of m, by omega, by rw [sift_sz]; exact HSZ.out, HST.out, HR3.out, HO3.out⟩
    · have i3 : (0 : Int) ≤ (m : Int) := by omega
      have hst : heapBuild (lf cf) n a m (siftDown (lf cf) n a m d') = heapBuild (lf cf) n a (h0 + 1) d := heq
      have HST := Lib.hid hst
      have HSI := Lib.hid (HS.out _ d' m n hds ho hr (by omega) (by have := HN.out.1; omega))
      clear hst heq hr ho
      go_wp2_with (fail)
      refine HSI.out.mono ?_
      rintro e w3 ⟨rfl, ho3, hr3⟩
      have HO3 := Lib.hid ho3
      have HR3 := Lib.hid hr3
      clear ho3 hr3
      go_wp2_with (fail)
      go_roundg m
      case measure => omega
      case rel => exact ⟨m, _, rfl, cnt_of m, by omega, by rw [sift_sz]; exact hds, HST.out, HR3.out, HO3.out⟩
end Go.Proofs.Ytbpahlhmdbahjaa.hso
