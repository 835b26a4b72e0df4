/-
  The contract of slices.Reverse at hits.
-/
import Derived.Test.YtbpahlhmdbahjaaBestM
import Derived.Test.YtbpahlhmdbahjaaHso
namespace Go.Proofs.Ytbpahlhmdbahjaa.best
open Go.RowKit law bytes only flat hit heapM hso Go.Sort Go.Shelf
set_option linter.unusedVariables false

set_option maxRecDepth 100000 in
set_option maxHeartbeats 1600000 in
theorem rev_none (A : Option Addr) (c : Nat) (w : World) : Calls Try.prog 25 #[.slice A 0 c] w fun e w' => e = .returned (.tuple #[]) ∧ w = w' := by
  go_enter Try.func25, Try.ntmps25
  go_wp2_with (fail)
  go_loopg [2, 3] 0 (fun gk s2 s3 wr => gk = 0 ∧ s2 = .int .i64 0 ∧ s3 = .int .i64 (-1) ∧ w = wr)
  case atStart => exact ⟨rfl, rfl, by go_num, rfl⟩
  case round =>
    obtain ⟨rfl, rfl, rfl, rfl⟩ := hrel
    go_wp2_with (fail)
    go_end0
    exact ⟨rfl, rfl⟩
set_option maxRecDepth 100000 in
set_option maxHeartbeats 3200000 in
theorem rev_row {base g c : Nat} {d : Array Hit} {w : World} (hr : HRow w base g c d) (h0 : 0 < d.size) (hsz : d.size < 2305843009213693952) :
    Calls Try.prog 25 #[.slice (some ⟨g, 0, none⟩) d.size c] w fun e w' =>
      e = .returned (.tuple #[]) ∧ Only (· = g) w w' ∧ ∃ d' : Array Hit, d'.toList = d.toList.reverse ∧ HRow w' base g c d' := by
  have i0 : IntKind.i64.wrap ((d.size : Int) - 1) = ((d.size - 1 : Nat) : Int) := w64 (by omega) (by omega) (by omega)
  go_enter Try.func25, Try.ntmps25
  go_wp2_with (fail)
  go_loopg [2, 3] (d.size - 1) (fun gk s2 s3 wr => ∃ (i j : Nat) (d' : Array Hit), gk = j - i ∧ s2 = .int .i64 i ∧ s3 = .int .i64 j ∧ i + j + 1 = d.size ∧ i ≤ j + 1 ∧ Rvd d i d' ∧ HRow wr base g c d' ∧ Only (· = g) w wr)
  case atStart => exact ⟨0, d.size - 1, d, rfl, rfl, rfl, by omega, by omega, Rvd.start d, hr, Only.refl _ _⟩
  case round =>
    clear hr
    obtain ⟨i, j, d', rfl, rfl, rfl, hij, hle, hrv, hr, ho⟩ := hrel
    by_cases hlt : i < j
    · have i1 : (i : Int) < (j : Int) := by omega
      have i2 : (i : Int) < (d.size : Int) := by omega
      have i3 : (j : Int) < (d.size : Int) := by omega
      have i4 : IntKind.i64.wrap ((i : Int) + 1) = ((i + 1 : Nat) : Int) := w64 (by omega) (by omega) (by omega)
      have i5 : IntKind.i64.wrap ((j : Int) - 1) = ((j - 1 : Nat) : Int) := w64 (by omega) (by omega) (by omega)
      have HV := Lib.hid (hrv.step hij hlt)
      obtain ⟨q0, q1, q2, q3, ⟨fz0, fz1, fz2, fz3⟩, ⟨u, uu, q4, q5, q6⟩, HRS, HOS⟩ := swap_step hr i j (by have := hrv.1; omega) (by have := hrv.1; omega) ho rfl rfl
      generalize d'[i]! = x at q0 q1 q2 q3 q4 q5 q6 HRS HOS
      generalize d'[j]! = y at q0 q1 q2 q3 q4 q5 q6 HRS HOS
      have HIJ := Lib.hid hij
      clear hrv hr ho hij
      go_wp2_with (fail)
      go_region
      go_wp2_with (fail)
      go_roundg (j - 1 - (i + 1))
      case measure => omega
      case rel => exact ⟨i + 1, j - 1, swp d' i j, rfl, rfl, rfl, by have := HIJ.out; omega, by omega, HV.out, HRS.out, HOS.out⟩
    · have i1 : ¬ (i : Int) < (j : Int) := by omega
      have HR := Lib.hid hr
      have HO := Lib.hid ho
      have HD := Lib.hid (hrv.done hij hlt)
      clear hr ho hrv
      go_wp2_with (fail)
      go_end0
      exact ⟨rfl, HO.out, d', HD.out, HR.out⟩
/-- a row of the call's own, turned round -/
theorem reverse_any (A : Option Addr) (R : List Hit) (c base : Nat) (w : World) (hsz : R.length * 16 ≤ 140737488355328) (ho : w.ownsRow base 30 2 (.slice A R.length c) R.length (hv R)) :
    Calls Try.prog 25 #[.slice A R.length c] w fun e w' =>
      e = .returned (.tuple #[]) ∧ Only (fun i => (Value.slice A R.length c).ownBlock = some i) w w' ∧ w'.ownsRow base 30 2 (.slice A R.length c) R.length (hv R.reverse) := by
  rcases Nat.eq_zero_or_pos R.length with h0 | h0
  · obtain rfl := List.eq_nil_of_length_eq_zero h0
    exact (rev_none A c w).mono fun e w' ⟨he, hw⟩ => ⟨he, hw ▸ Only.refl _ _, hw ▸ ho⟩
  · obtain ⟨g1, k1, e1, hgb, hgl, hk1⟩ := own_form ho h0
    injection e1 with e2 e3 e4
    subst e2 e4
    have hrow : HRow w base g1 c R.toArray := ho
    have h := rev_row hrow (by simpa using h0) (by simp; omega)
    simp only [List.size_toArray] at h
    refine h.mono fun e w' ⟨he, ho2, d', hd, hr⟩ => ⟨he, ho2.mono (fun i e => .inl (by rw [e]; rfl)), ?_⟩
    unfold HRow FRow at hr
    have hs : d'.size = R.length := by have := congrArg List.length hd; simpa using this
    rw [hs, hd] at hr
    exact hr
end Go.Proofs.Ytbpahlhmdbahjaa.best
