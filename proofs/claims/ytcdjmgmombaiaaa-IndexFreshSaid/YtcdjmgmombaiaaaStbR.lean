/-
  The contracts of swapRangeCmpFunc, rotateCmpFunc at items: two parts of a row change places.
-/
import Derived.Test.YtcdjmgmombaiaaaStbI
namespace Go.Proofs.Ytcdjmgmombaiaaa.stb
open Go.RowKit law bytes only flat ord obj
open aro (Kept zK kV)
open store (iE iE_len)
set_option linter.unusedVariables false

set_option maxRecDepth 100000 in
set_option maxHeartbeats 3200000 in
theorem swapRange_any {base g n c a b m : Nat} {X U M V Y : List (Int × Kept)} {w : World} (hr : IRow w base g n c (X ++ (U ++ (M ++ (V ++ Y))))) (ha : X.length = a) (hm : U.length = m) (hv : V.length = m) (hb : a + m + M.length = b) (fv : Value) (hsz : n < 2305843009213693952) :
    Calls Try.prog 28 #[.slice (some ⟨g, 0, none⟩) n c, .int .i64 a, .int .i64 b, .int .i64 m, fv] w fun e w' =>
      e = .returned (.tuple #[]) ∧ Only (· = g) w w' ∧ IRow w' base g n c (X ++ (V ++ (M ++ (U ++ Y)))) := by
  have hbn : b + m ≤ n := by have := hr.len; simp at this; omega
  have HA := Lib.hid ha
  have HB := Lib.hid hb
  have HM := Lib.hid (And.intro hm hv)
  have hab : a + m ≤ b := by omega
  clear ha hb hm hv
  go_enter Try.func28, Try.ntmps28
  go_wp2_with (fail)
  go_loopg [10] m (fun gk s10 wr => ∃ (k : Nat), gk = m - k ∧ k ≤ m ∧ s10 = .int .i64 k ∧ IRow wr base g n c (X ++ ((V.take k ++ U.drop k) ++ (M ++ ((U.take k ++ V.drop k) ++ Y)))) ∧ Only (· = g) w wr)
  case atStart => exact ⟨0, rfl, Nat.zero_le _, rfl, by simpa using hr, Only.refl _ _⟩
  case round =>
    clear hr
    obtain ⟨k, rfl, hk, rfl, hr, ho⟩ := hrel
    by_cases hlt : k < m
    · have hU : k < U.length := by have := HM.out; omega
      have hV : k < V.length := by have := HM.out; omega
      have i1 : (k : Int) < (m : Int) := by omega
      obtain ⟨ak, hak⟩ : ∃ ak, ak = a + k := ⟨_, rfl⟩
      obtain ⟨bk, hbk⟩ : ∃ bk, bk = b + k := ⟨_, rfl⟩
      have i2 : IntKind.i64.wrap ((a : Int) + (k : Int)) = (ak : Int) := w64 (by omega) (by omega) (by omega)
      have i3 : IntKind.i64.wrap ((b : Int) + (k : Int)) = (bk : Int) := w64 (by omega) (by omega) (by omega)
      have i4 : (ak : Int) < (n : Int) := by omega
      have i5 : (bk : Int) < (n : Int) := by omega
      have i6 : IntKind.i64.wrap ((k : Int) + 1) = ((k + 1 : Nat) : Int) := w64 (by omega) (by omega) (by omega)
      obtain ⟨x, hx⟩ : ∃ x, U[k] = x := ⟨_, rfl⟩
      obtain ⟨y, hy⟩ : ∃ y, V[k] = y := ⟨_, rfl⟩
      have du : U.drop k = x :: U.drop (k + 1) := by rw [List.drop_eq_getElem_cons hU, hx]
      have dv : V.drop k = y :: V.drop (k + 1) := by rw [List.drop_eq_getElem_cons hV, hy]
      have tu : U.take (k + 1) = U.take k ++ [x] := by rw [List.take_succ_eq_append_getElem hU, hx]
      have tv : V.take (k + 1) = V.take k ++ [y] := by rw [List.take_succ_eq_append_getElem hV, hy]
      have ee0 : X ++ ((V.take k ++ U.drop k) ++ (M ++ ((U.take k ++ V.drop k) ++ Y))) = (X ++ V.take k) ++ x :: ((U.drop (k + 1) ++ (M ++ U.take k)) ++ y :: (V.drop (k + 1) ++ Y)) := by rw [du, dv]; simp
      have ee1 : X ++ ((V.take (k + 1) ++ U.drop (k + 1)) ++ (M ++ ((U.take (k + 1) ++ V.drop (k + 1)) ++ Y))) = (X ++ V.take k) ++ y :: ((U.drop (k + 1) ++ (M ++ U.take k)) ++ x :: (V.drop (k + 1) ++ Y)) := by rw [tu, tv]; simp
      have l0 : (X ++ V.take k).length = ak := by have := HA.out; simp; omega
      have l1 : ak + 1 + (U.drop (k + 1) ++ (M ++ U.take k)).length = bk := by have := HB.out; have := HM.out; simp; omega
      rw [ee0] at hr
      have hxa : ((X ++ V.take k) ++ x :: ((U.drop (k + 1) ++ (M ++ U.take k)) ++ y :: (V.drop (k + 1) ++ Y)))[ak]? = some x := by rw [← l0]; exact at_mid _ _ _
      have hyb : ((X ++ V.take k) ++ x :: ((U.drop (k + 1) ++ (M ++ U.take k)) ++ y :: (V.drop (k + 1) ++ Y)))[bk]? = some y := by rw [← l1, ← l0]; exact at_mid2 _ _ _ _ _
      have hsw := swp_mid (X ++ V.take k) x (U.drop (k + 1) ++ (M ++ U.take k)) y (V.drop (k + 1) ++ Y)
      rw [l0, l1, ← ee1] at hsw
      obtain ⟨-, -, ⟨q0, q1, q2, q3, q4, q5, q6, q7⟩, ⟨fz0, fz1, fz2, fz3, fz4, fz5, fz6, fz7⟩, ⟨u0, u1, u2, u3, e0, e1, e2, e3, e4, e5, e6, e7, e8, e9⟩, HRS, HOS⟩ := swap_step hr hxa hyb ho
      rw [hsw] at HRS
      clear hr ho hxa hyb hsw ee0 ee1 du dv tu tv l0 l1 hx hy hak hbk hU hV
      go_wp2_with (fail)
      go_region
      go_wp2_with (fail)
      go_roundg (m - (k + 1))
      case measure => omega
      case rel => exact ⟨k + 1, rfl, by omega, rfl, HRS.out, HOS.out⟩
    · obtain rfl : k = m := by omega
      have i1 : ¬ (k : Int) < (k : Int) := by omega
      have hU : U.length ≤ k := by have := HM.out; omega
      have hV : V.length ≤ k := by have := HM.out; omega
      rw [List.take_of_length_le hU, List.take_of_length_le hV, List.drop_of_length_le hU, List.drop_of_length_le hV, List.append_nil, List.append_nil] at hr
      have HR := Lib.hid hr
      have HO := Lib.hid ho
      clear hr ho
      go_wp2_with (fail)
      go_end0
      exact ⟨rfl, HO.out, HR.out⟩
set_option maxRecDepth 100000 in
set_option maxHeartbeats 3200000 in
theorem rotate_any {base g n c a m b : Nat} {X U V Y : List (Int × Kept)} {w : World} (hr : IRow w base g n c (X ++ (U ++ (V ++ Y)))) (ha : X.length = a) (hm : a + U.length = m) (hb : m + V.length = b) (hU : 0 < U.length) (hV : 0 < V.length) (fv : Value) (hsz : n < 2305843009213693952) :
    Calls Try.prog 27 #[.slice (some ⟨g, 0, none⟩) n c, .int .i64 a, .int .i64 m, .int .i64 b, fv] w fun e w' =>
      e = .returned (.tuple #[]) ∧ Only (· = g) w w' ∧ IRow w' base g n c (X ++ (V ++ (U ++ Y))) := by
  have hbn : b ≤ n := by have := hr.len; simp at this; omega
  obtain ⟨i0, hi0⟩ : ∃ i0, i0 = U.length := ⟨_, rfl⟩
  obtain ⟨j0, hj0⟩ : ∃ j0, j0 = V.length := ⟨_, rfl⟩
  have i1 : IntKind.i64.wrap ((m : Int) - (a : Int)) = (i0 : Int) := w64 (by omega) (by omega) (by omega)
  have i2 : IntKind.i64.wrap ((b : Int) - (m : Int)) = (j0 : Int) := w64 (by omega) (by omega) (by omega)
  have HSR : Hid (∀ (W : World) (X U M V Y : List (Int × Kept)) (a b m : Nat), Only (· = g) w W → IRow W base g n c (X ++ (U ++ (M ++ (V ++ Y)))) → X.length = a → U.length = m → V.length = m → a + m + M.length = b → Calls Try.prog 28 #[.slice (some ⟨g, 0, none⟩) n c, .int .i64 a, .int .i64 b, .int .i64 m, fv] W fun e w' =>
      e = .returned (.tuple #[]) ∧ Only (· = g) w w' ∧ IRow w' base g n c (X ++ (V ++ (M ++ (U ++ Y))))) := Lib.hid fun W X U M V Y a b m ho hr h1 h2 h3 h4 =>
    (swapRange_any hr h1 h2 h3 h4 fv hsz).mono fun e w' ⟨he, ho', hr'⟩ => ⟨he, ho.trans ho' fun _ e => .inl e, hr'⟩
  have HST : Hid (X.length + i0 = m ∧ i0 = U.length ∧ j0 = V.length ∧ 0 < i0 ∧ 0 < j0) := Lib.hid ⟨by omega, hi0, hj0, by omega, by omega⟩
  clear hi0 hj0 ha hm hb
  go_enter Try.func27, Try.ntmps27
  go_wp2_with (fail)
  go_loopg [10, 11] (i0 + j0) (fun gk s10 s11 wr => ∃ (i j : Nat) (X1 U1 V1 Y1 : List (Int × Kept)), gk = i + j ∧ s10 = .int .i64 i ∧ s11 = .int .i64 j ∧ X1.length + i = m ∧ m + j ≤ n ∧ i = U1.length ∧ j = V1.length ∧ 0 < i ∧ 0 < j ∧ X1 ++ (V1 ++ (U1 ++ Y1)) = X ++ (V ++ (U ++ Y)) ∧ IRow wr base g n c (X1 ++ (U1 ++ (V1 ++ Y1))) ∧ Only (· = g) w wr)
  case atStart =>
    obtain ⟨h1, h2, h3, h4, h5⟩ := HST.out
    exact ⟨i0, j0, X, U, V, Y, rfl, rfl, rfl, h1, by have := hr.len; simp at this; omega, h2, h3, h4, h5, rfl, hr, Only.refl _ _⟩
  case round =>
    clear hr HST i1 i2
    obtain ⟨i, j, X1, U1, V1, Y1, rfl, rfl, rfl, hX1, hjn, hi, hj, hi0, hj0, hgoal, hr, ho⟩ := hrel
    obtain ⟨mi, hmi⟩ : ∃ mi, mi = X1.length := ⟨_, rfl⟩
    have k1 : IntKind.i64.wrap ((m : Int) - (i : Int)) = (mi : Int) := w64 (by omega) (by omega) (by omega)
    rcases Nat.lt_trichotomy j i with e | e | e
    · have k2 : ((i : Int) != (j : Int)) = true := by simp; omega
      have k2' : (i != j) = true := by simp; omega
      have k3 : (j : Int) < (i : Int) := by omega
      have k4 : IntKind.i64.wrap ((i : Int) - (j : Int)) = ((i - j : Nat) : Int) := w64 (by omega) (by omega) (by omega)
      have hs : X1 ++ (U1 ++ (V1 ++ Y1)) = X1 ++ (U1.take j ++ (U1.drop j ++ (V1 ++ Y1))) := by rw [← List.append_assoc (U1.take j), List.take_append_drop]
      rw [hs] at hr
      have HC := Lib.hid (HSR.out wr X1 (U1.take j) (U1.drop j) V1 Y1 mi m j ho hr hmi.symm (by simp; omega) hj.symm (by simp; omega))
      have hg2 : (X1 ++ V1) ++ (U1.take j ++ (U1.drop j ++ Y1)) = X ++ (V ++ (U ++ Y)) := by
        rw [← hgoal, ← List.append_assoc (U1.take j), List.take_append_drop]; simp
      have HG := Lib.hid hg2
      have HF : Hid ((X1 ++ V1).length + (i - j) = m ∧ i - j = (U1.drop j).length ∧ j = (U1.take j).length) := Lib.hid ⟨by simp; omega, by simp; omega, by simp; omega⟩
      clear hr ho hgoal hg2 hs hmi hX1 hi hj
      go_wp2_with (fail)
      refine HC.out.mono ?_
      rintro e2 w2 ⟨rfl, ho2, hr2⟩
      have HO2 := Lib.hid ho2
      have hr3 : IRow w2 base g n c ((X1 ++ V1) ++ (U1.drop j ++ (U1.take j ++ Y1))) := by simpa using hr2
      have HR2 := Lib.hid hr3
      clear ho2 hr2 hr3 HC
      go_wp2_with (fail)
      go_roundg (i - j + j)
      case measure => omega
      case rel => exact ⟨i - j, j, X1 ++ V1, U1.drop j, U1.take j, Y1, rfl, rfl, rfl, HF.out.1, hjn, HF.out.2.1, HF.out.2.2, by omega, hj0, HG.out, HR2.out, HO2.out⟩
    · have k2 : ((i : Int) != (j : Int)) = false := by simp; omega
      have k2' : (i != j) = false := by simp; omega
      have HC := Lib.hid (HSR.out wr X1 U1 [] V1 Y1 mi m i ho (by simpa using hr) hmi.symm hi.symm (by omega) (by simp; omega))
      have HG := Lib.hid hgoal
      clear hr ho hgoal hmi hX1 hi hj
      go_wp2_with (fail)
      refine HC.out.mono ?_
      rintro e2 w2 ⟨rfl, ho2, hr2⟩
      have HE : Hid (Only (· = g) w w2 ∧ IRow w2 base g n c (X ++ (V ++ (U ++ Y)))) := Lib.hid ⟨ho2, by rw [← HG.out]; simpa using hr2⟩
      clear ho2 hr2 HC
      go_wp2_with (fail)
      go_end0
      exact ⟨rfl, HE.out.1, HE.out.2⟩
    · have k2 : ((i : Int) != (j : Int)) = true := by simp; omega
      have k2' : (i != j) = true := by simp; omega
      have k3 : ¬ (j : Int) < (i : Int) := by omega
      obtain ⟨mj, hmj⟩ : ∃ mj, mj = m + j := ⟨_, rfl⟩
      obtain ⟨mji, hmji⟩ : ∃ mji, mji = m + j - i := ⟨_, rfl⟩
      have k4 : IntKind.i64.wrap ((j : Int) - (i : Int)) = ((j - i : Nat) : Int) := w64 (by omega) (by omega) (by omega)
      have k5 : IntKind.i64.wrap ((m : Int) + (j : Int)) = (mj : Int) := w64 (by omega) (by omega) (by omega)
      have k6 : IntKind.i64.wrap ((mj : Int) - (i : Int)) = (mji : Int) := w64 (by omega) (by omega) (by omega)
      have hs : X1 ++ (U1 ++ (V1 ++ Y1)) = X1 ++ (U1 ++ (V1.take (j - i) ++ (V1.drop (j - i) ++ Y1))) := by rw [← List.append_assoc (V1.take (j - i)), List.take_append_drop]
      rw [hs] at hr
      have HC := Lib.hid (HSR.out wr X1 U1 (V1.take (j - i)) (V1.drop (j - i)) Y1 mi mji i ho hr hmi.symm hi.symm (by simp; omega) (by simp; omega))
      have hg2 : X1 ++ (V1.take (j - i) ++ (V1.drop (j - i) ++ (U1 ++ Y1))) = X ++ (V ++ (U ++ Y)) := by
        rw [← hgoal, ← List.append_assoc (V1.take (j - i)), List.take_append_drop]
      have HG := Lib.hid hg2
      have HF : Hid (X1.length + i = m ∧ i = (V1.drop (j - i)).length ∧ j - i = (V1.take (j - i)).length) := Lib.hid ⟨by omega, by simp; omega, by simp; omega⟩
      clear hr ho hgoal hg2 hs hmi hX1 hi hj hmj hmji
      go_wp2_with (fail)
      refine HC.out.mono ?_
      rintro e2 w2 ⟨rfl, ho2, hr2⟩
      have HO2 := Lib.hid ho2
      have HR2 := Lib.hid hr2
      clear ho2 hr2 HC
      go_wp2_with (fail)
      go_roundg (i + (j - i))
      case measure => omega
      case rel => exact ⟨i, j - i, X1, V1.drop (j - i), V1.take (j - i), U1 ++ Y1, rfl, rfl, rfl, HF.out.1, by omega, HF.out.2.1, HF.out.2.2, hi0, by omega, HG.out, HR2.out, HO2.out⟩
end Go.Proofs.Ytcdjmgmombaiaaa.stb
