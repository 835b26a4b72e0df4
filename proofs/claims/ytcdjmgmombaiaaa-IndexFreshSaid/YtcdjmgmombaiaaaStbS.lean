/-
  The contract of symMergeCmpFunc at items, where either part holds one item alone: it is put in its place.
-/
import Derived.Test.YtcdjmgmombaiaaaStbR
namespace Go.Proofs.Ytcdjmgmombaiaaa.stb
open Go.RowKit law bytes only flat ord obj
open aro (Kept zK kV)
open store (iE iE_len)
set_option linter.unusedVariables false

/-- what a merge leaves -/
def Merged (base g n c : Nat) (X U V Y : List (Int × Kept)) (w : World) (e : Ending) (w' : World) : Prop := e = .returned (.tuple #[]) ∧ Only (· = g) w w' ∧ ∃ S, Stb ky (U ++ V) S ∧ IRow w' base g n c (X ++ (S ++ Y))
theorem u64_nat (n : Nat) (h : n < 18446744073709551616) : IntKind.u64.wrap (n : Int) = (n : Int) := by rw [IntKind.wrap_u64]; omega
set_option maxRecDepth 100000 in
set_option maxHeartbeats 6400000 in
theorem sym_first {base g n c a m b : Nat} {X V Y : List (Int × Kept)} {x : Int × Kept} {w : World} (hr : IRow w base g n c (X ++ ([x] ++ (V ++ Y)))) (ha : X.length = a) (hm : a + 1 = m) (hb : m + V.length = b) (hV : Srt ky V) (hsz : n < 2305843009213693952) :
    Calls Try.prog 26 #[.slice (some ⟨g, 0, none⟩) n c, .int .i64 a, .int .i64 m, .int .i64 b, FV] w (Merged base g n c X [x] V Y w) := by
  unfold FV
  have hbn : b ≤ n := by have := hr.len; simp at this; omega
  have i0 : IntKind.i64.wrap ((m : Int) - (a : Int)) = 1 := w64 (by omega) (by omega) (by omega)
  have HA := Lib.hid (And.intro ha (And.intro hm hb))
  have HV := Lib.hid hV
  have hm1 : a < m := by omega
  have hmb : m ≤ b := by omega
  clear ha hm hb hV
  go_enter Try.func26, Try.ntmps26
  go_wp2_with (fail)
  go_loopg [10, 11, 12] (b - m) (fun gk s10 s11 s12 wr => ∃ (i j s r : Nat), gk = j - i ∧ s10 = .int .i64 i ∧ s11 = .int .i64 j ∧ i = m + s ∧ j = m + r ∧ i ≤ j ∧ j ≤ b ∧ (s = 0 ∨ ∃ y, V[s - 1]? = some y ∧ ky y < ky x) ∧ (V.length ≤ r ∨ ∃ y, V[r]? = some y ∧ ky x ≤ ky y) ∧ IRow wr base g n c (X ++ ([x] ++ (V ++ Y))) ∧ Only (· = g) w wr)
  case atStart => exact ⟨m, b, 0, V.length, rfl, rfl, rfl, rfl, by have := HA.out; omega, hmb, Nat.le_refl _, .inl rfl, .inl (Nat.le_refl _), hr, Only.refl _ _⟩
  case round =>
    clear hr
    obtain ⟨i, j, s, r, rfl, rfl, rfl, his, hjr, hij, hjb, h1, h2, hr, ho⟩ := hrel
    by_cases hlt : i < j
    · have k0 : (i : Int) < (j : Int) := by omega
      obtain ⟨ij, hijs⟩ : ∃ ij, ij = i + j := ⟨_, rfl⟩
      obtain ⟨h, hh⟩ : ∃ h, h = ij / 2 := ⟨_, rfl⟩
      have k1 : IntKind.i64.wrap ((i : Int) + (j : Int)) = (ij : Int) := w64 (by omega) (by omega) (by omega)
      have k2 : IntKind.u64.wrap (ij : Int) = (ij : Int) := u64_nat ij (by omega)
      have k3 : (ij : Int) / 2 = (h : Int) := by omega
      have k3' : ij / 2 = h := hh.symm
      have k4 : IntKind.u64.wrap (h : Int) = (h : Int) := u64_nat h (by omega)
      have k5 : IntKind.i64.wrap (h : Int) = (h : Int) := w64 rfl (by omega) (by omega)
      have k6 : (h : Int) < (n : Int) := by omega
      have k7 : (a : Int) < (n : Int) := by omega
      have k8 : IntKind.i64.wrap ((h : Int) + 1) = ((h + 1 : Nat) : Int) := w64 (by omega) (by omega) (by omega)
      obtain ⟨q, hq⟩ : ∃ q, q = h - m := ⟨_, rfl⟩
      have hqV : q < V.length := by have := HA.out; omega
      obtain ⟨y, hy⟩ : ∃ y, V[q] = y := ⟨_, rfl⟩
      have hyq : V[q]? = some y := by rw [List.getElem?_eq_getElem hqV, hy]
      have hyh : (X ++ ([x] ++ (V ++ Y)))[h]? = some y := by
        have e : X ++ ([x] ++ (V ++ Y)) = (X ++ [x]) ++ (V ++ Y) := by simp
        rw [e, show h = (X ++ [x]).length + q by have := HA.out; simp; omega, at_part _ _ _ _ hqV, hyq]
      have hxa : (X ++ ([x] ++ (V ++ Y)))[a]? = some x := by rw [← HA.out.1]; exact at_mid _ _ _
      obtain ⟨hn1, hn2, rr, hl, HS, HCC, q0, q1, q2, q3, q4, q5, q6, q7⟩ := cmp_step hr hyh hxa
      have HR := Lib.hid hr
      have HO := Lib.hid ho
      have HL := Lib.hid hl
      have HT := Lib.hid (And.intro h1 h2)
      have HYQ := Lib.hid hyq
      have HF : Hid (h = m + q ∧ i = m + s ∧ j = m + r ∧ i ≤ h ∧ h < j) := Lib.hid ⟨by omega, his, hjr, by omega, by omega⟩
      clear hr ho hl h1 h2 hyq hyh hxa hy hijs hh hq his hjr
      obtain ⟨o, hd⟩ : ∃ o, decide (rr < 0) = o := ⟨_, rfl⟩
      rw [hd] at HL
      go_wp2_with (fail)
      go_region_held3 (fun W => W.cell? ⟨g, h * 4, none⟩ = some (.int .u64 y.1) ∧ W.cell? ⟨g, h * 4 + 1, none⟩ = some (.int .i64 y.2.x.tag) ∧ W.cell? ⟨g, h * 4 + 2, none⟩ = some (.slice y.2.A y.2.x.vec.length y.2.c) ∧ W.cell? ⟨g, h * 4 + 3, none⟩ = some (.string y.2.x.str) ∧ W.cell? ⟨g, a * 4, none⟩ = some (.int .u64 x.1) ∧ W.cell? ⟨g, a * 4 + 1, none⟩ = some (.int .i64 x.2.x.tag) ∧ W.cell? ⟨g, a * 4 + 2, none⟩ = some (.slice x.2.A x.2.x.vec.length x.2.c) ∧ W.cell? ⟨g, a * 4 + 3, none⟩ = some (.string x.2.x.str)) ((refine HS.out _ ?_; repeat' (first | (with_reducible exact Below.refl _ _) | (with_reducible assumption) | (with_reducible refine Below.drew ?_) | (with_reducible refine below_drewN' ?_ _))))
        (first
          | (go_at_call 17; (with_reducible refine (HCC.out _ (by repeat' (first | (with_reducible exact Below.refl _ _) | (with_reducible assumption) | (with_reducible refine Below.drew ?_) | (with_reducible refine below_drewN' ?_ _)))).mono ?_); rintro e w2 ⟨rfl, hb2⟩))
      have HR2 := Lib.hid (HR.out.below hb2 (Nat.le_refl _))
      have HO2 := Lib.hid (HO.out.on hb2)
      clear hb2 HCC HS HR q0 q1 q2 q3 q4 q5 q6 q7
      cases o with
      | true =>
        have hxy : ky y < ky x := by simpa using HL.out
        have HXY := Lib.hid hxy
        clear hd hxy
        go_wp2_with (fail)
        go_roundg (j - (h + 1))
        case measure => have := HF.out; omega
        case rel => exact ⟨h + 1, j, q + 1, r, rfl, by go_num, rfl, by have := HF.out; omega, HF.out.2.2.1, by have := HF.out; omega, hjb, .inr ⟨y, HYQ.out, HXY.out⟩, HT.out.2, HR2.out, HO2.out⟩
      | false =>
        have hxy : ky x ≤ ky y := by have := HL.out; simp at this; exact this
        have HXY := Lib.hid hxy
        clear hd hxy
        go_wp2_with (fail)
        go_roundg (h - i)
        case measure => have := HF.out; omega
        case rel => exact ⟨i, h, s, q, rfl, rfl, rfl, HF.out.2.1, HF.out.1, HF.out.2.2.2.1, by have := HF.out; omega, HT.out.1, .inr ⟨y, HYQ.out, HXY.out⟩, HR2.out, HO2.out⟩
    · obtain rfl : i = j := by omega
      obtain rfl : s = r := by omega
      have k0 : ¬ (i : Int) < (i : Int) := by omega
      obtain ⟨i9, hi9⟩ : ∃ i9, i9 = a + s := ⟨_, rfl⟩
      have k1 : IntKind.i64.wrap ((i : Int) - 1) = (i9 : Int) := w64 (by have := HA.out; omega) (by omega) (by omega)
      have hst : Stb ky ([x] ++ V) (V.take s ++ x :: V.drop s) := stb_one x HV.out h1 h2
      have HST := Lib.hid hst
      have HI9 : Hid (i9 = a + s ∧ s ≤ V.length) := Lib.hid ⟨hi9, by have := HA.out; omega⟩
      clear h1 h2 hst HV hi9 his hjr
      have hi9n : i9 < n := by have := HA.out; have := HI9.out; omega
      go_wp2_with (fail)
      go_loopg [13] s (fun gk s13 wr => ∃ (k t : Nat), gk = i9 - k ∧ s13 = .int .i64 k ∧ k = a + t ∧ k ≤ i9 ∧ IRow wr base g n c (X ++ (V.take t ++ (x :: (V.drop t ++ Y)))) ∧ Only (· = g) w wr)
      case atStart => exact ⟨a, 0, by have := HI9.out; omega, rfl, rfl, by have := HI9.out; omega, by simpa using hr, ho⟩
      case round =>
        clear hr ho
        obtain ⟨k, t, rfl, rfl, hkt, hki, hr, ho⟩ := hrel
        by_cases hlt : k < i9
        · have k2 : (k : Int) < (i9 : Int) := by omega
          have htV : t < V.length := by have := HI9.out; omega
          have k3 : IntKind.i64.wrap ((k : Int) + 1) = ((k + 1 : Nat) : Int) := w64 (by omega) (by omega) (by omega)
          have k4 : (k : Int) < (n : Int) := by omega
          obtain ⟨kk, hkk⟩ : ∃ kk, kk = k + 1 := ⟨_, rfl⟩
          rw [← hkk] at k3
          have k5 : (kk : Int) < (n : Int) := by omega
          obtain ⟨y, hy⟩ : ∃ y, V[t] = y := ⟨_, rfl⟩
          have dv : V.drop t = y :: V.drop (t + 1) := by rw [List.drop_eq_getElem_cons htV, hy]
          have tv : V.take (t + 1) = V.take t ++ [y] := by rw [List.take_succ_eq_append_getElem htV, hy]
          have l0 : (X ++ V.take t).length = k := by have := HA.out; simp; omega
          have ee0 : X ++ (V.take t ++ (x :: (V.drop t ++ Y))) = (X ++ V.take t) ++ x :: ([] ++ y :: (V.drop (t + 1) ++ Y)) := by rw [dv]; simp
          have ee1 : X ++ (V.take (t + 1) ++ (x :: (V.drop (t + 1) ++ Y))) = (X ++ V.take t) ++ y :: ([] ++ x :: (V.drop (t + 1) ++ Y)) := by rw [tv]; simp
          rw [ee0] at hr
          have hxk : ((X ++ V.take t) ++ x :: ([] ++ y :: (V.drop (t + 1) ++ Y)))[k]? = some x := by rw [← l0]; exact at_mid _ _ _
          have hyk : ((X ++ V.take t) ++ x :: ([] ++ y :: (V.drop (t + 1) ++ Y)))[kk]? = some y := by rw [hkk, ← l0]; exact at_mid2 _ _ [] _ _
          have hsw : ((((X ++ V.take t) ++ x :: ([] ++ y :: (V.drop (t + 1) ++ Y)))).set k y).set kk x = X ++ (V.take (t + 1) ++ (x :: (V.drop (t + 1) ++ Y))) := by
            rw [ee1, hkk, ← l0]
            exact swp_mid (X ++ V.take t) x [] y (V.drop (t + 1) ++ Y)
          obtain ⟨-, -, ⟨q0, q1, q2, q3, q4, q5, q6, q7⟩, ⟨fz0, fz1, fz2, fz3, fz4, fz5, fz6, fz7⟩, ⟨u0, u1, u2, u3, e0, e1, e2, e3, e4, e5, e6, e7, e8, e9⟩, HRS, HOS⟩ := swap_step hr hxk hyk ho
          rw [hsw] at HRS
          have HKK := Lib.hid (And.intro hkk hkt)
          clear hr ho hxk hyk hsw ee0 ee1 dv tv l0 hy hkk hkt
          go_wp2_with (fail)
          go_region
          go_wp2_with (fail)
          go_roundg (i9 - kk)
          case measure => have := HKK.out; omega
          case rel => exact ⟨kk, t + 1, rfl, by go_num, by have := HKK.out; omega, by have := HKK.out; omega, HRS.out, HOS.out⟩
        · have k2 : ¬ (k : Int) < (i9 : Int) := by omega
          obtain rfl : t = s := by have := HI9.out; omega
          have HE : Hid (Merged base g n c X [x] V Y w (.returned (.tuple #[])) wr) := Lib.hid ⟨rfl, ho, _, HST.out, by simpa using hr⟩
          clear hr ho
          go_wp2_with (fail)
          first
            | (refine bodyPost_ret (results_none rfl _ _ _) rfl ?_; exact HE.out)
            | (go_end0; exact HE.out)
            | exact HE.out
set_option maxRecDepth 100000 in
set_option maxHeartbeats 6400000 in
theorem sym_last {base g n c a m b : Nat} {X U Y : List (Int × Kept)} {y : Int × Kept} {w : World} (hr : IRow w base g n c (X ++ (U ++ ([y] ++ Y)))) (ha : X.length = a) (hm : a + U.length = m) (hb : m + 1 = b) (hU2 : 1 < U.length) (hU : Srt ky U) (hsz : n < 2305843009213693952) :
    Calls Try.prog 26 #[.slice (some ⟨g, 0, none⟩) n c, .int .i64 a, .int .i64 m, .int .i64 b, FV] w (Merged base g n c X U [y] Y w) := by
  unfold FV
  have hbn : b ≤ n := by have := hr.len; simp at this; omega
  obtain ⟨ma, hma⟩ : ∃ ma, ma = U.length := ⟨_, rfl⟩
  have i0 : IntKind.i64.wrap ((m : Int) - (a : Int)) = (ma : Int) := w64 (by omega) (by omega) (by omega)
  have i1 : IntKind.i64.wrap ((b : Int) - (m : Int)) = 1 := w64 (by omega) (by omega) (by omega)
  have i2 : ((ma : Int) == 1) = false := by simp; omega
  have i2' : (ma == 1) = false := by simp; omega
  have i2'' : ¬ ma = 1 := by omega
  have HA := Lib.hid (And.intro ha (And.intro hm hb))
  have HU := Lib.hid hU
  have ham : a ≤ m := by omega
  have hmb : m < b := by omega
  clear ha hm hb hU hma hU2
  go_enter Try.func26, Try.ntmps26
  go_wp2_with (fail)
  go_loopg [14, 15, 16] (m - a) (fun gk s10 s11 s12 wr => ∃ (i j s r : Nat), gk = j - i ∧ s10 = .int .i64 i ∧ s11 = .int .i64 j ∧ i = a + s ∧ j = a + r ∧ i ≤ j ∧ j ≤ m ∧ (s = 0 ∨ ∃ x, U[s - 1]? = some x ∧ ky x ≤ ky y) ∧ (U.length ≤ r ∨ ∃ x, U[r]? = some x ∧ ky y < ky x) ∧ IRow wr base g n c (X ++ (U ++ ([y] ++ Y))) ∧ Only (· = g) w wr)
  case atStart => exact ⟨a, m, 0, U.length, rfl, rfl, rfl, rfl, by have := HA.out; omega, ham, Nat.le_refl _, .inl rfl, .inl (Nat.le_refl _), hr, Only.refl _ _⟩
  case round =>
    clear hr
    obtain ⟨i, j, s, r, rfl, rfl, rfl, his, hjr, hij, hjb, h1, h2, hr, ho⟩ := hrel
    by_cases hlt : i < j
    · have k0 : (i : Int) < (j : Int) := by omega
      obtain ⟨ij, hijs⟩ : ∃ ij, ij = i + j := ⟨_, rfl⟩
      obtain ⟨h, hh⟩ : ∃ h, h = ij / 2 := ⟨_, rfl⟩
      have k1 : IntKind.i64.wrap ((i : Int) + (j : Int)) = (ij : Int) := w64 (by omega) (by omega) (by omega)
      have k2 : IntKind.u64.wrap (ij : Int) = (ij : Int) := u64_nat ij (by omega)
      have k3 : (ij : Int) / 2 = (h : Int) := by omega
      have k3' : ij / 2 = h := hh.symm
      have k4 : IntKind.u64.wrap (h : Int) = (h : Int) := u64_nat h (by omega)
      have k5 : IntKind.i64.wrap (h : Int) = (h : Int) := w64 rfl (by omega) (by omega)
      have k6 : (h : Int) < (n : Int) := by omega
      have k7 : (m : Int) < (n : Int) := by omega
      have k8 : IntKind.i64.wrap ((h : Int) + 1) = ((h + 1 : Nat) : Int) := w64 (by omega) (by omega) (by omega)
      obtain ⟨q, hq⟩ : ∃ q, q = h - a := ⟨_, rfl⟩
      have hqU : q < U.length := by have := HA.out; omega
      obtain ⟨x, hx⟩ : ∃ x, U[q] = x := ⟨_, rfl⟩
      have hxq : U[q]? = some x := by rw [List.getElem?_eq_getElem hqU, hx]
      have hxh : (X ++ (U ++ ([y] ++ Y)))[h]? = some x := by
        rw [show h = X.length + q by have := HA.out; omega, at_part _ _ _ _ hqU, hxq]
      have hym : (X ++ (U ++ ([y] ++ Y)))[m]? = some y := by
        have e : X ++ (U ++ ([y] ++ Y)) = (X ++ U) ++ y :: Y := by simp
        rw [e, show m = (X ++ U).length by have := HA.out; simp; omega]; exact at_mid _ _ _
      obtain ⟨hn1, hn2, rr, hl, HS, HCC, q0, q1, q2, q3, q4, q5, q6, q7⟩ := cmp_step hr hym hxh
      have HR := Lib.hid hr
      have HO := Lib.hid ho
      have HL := Lib.hid hl
      have HT := Lib.hid (And.intro h1 h2)
      have HXQ := Lib.hid hxq
      have HF : Hid (h = a + q ∧ i = a + s ∧ j = a + r ∧ i ≤ h ∧ h < j) := Lib.hid ⟨by omega, his, hjr, by omega, by omega⟩
      clear hr ho hl h1 h2 hxq hxh hym hx hijs hh hq his hjr
      obtain ⟨o, hd⟩ : ∃ o, decide (rr < 0) = o := ⟨_, rfl⟩
      rw [hd] at HL
      go_wp2_with (fail)
      go_region_held3 (fun W => W.cell? ⟨g, m * 4, none⟩ = some (.int .u64 y.1) ∧ W.cell? ⟨g, m * 4 + 1, none⟩ = some (.int .i64 y.2.x.tag) ∧ W.cell? ⟨g, m * 4 + 2, none⟩ = some (.slice y.2.A y.2.x.vec.length y.2.c) ∧ W.cell? ⟨g, m * 4 + 3, none⟩ = some (.string y.2.x.str) ∧ W.cell? ⟨g, h * 4, none⟩ = some (.int .u64 x.1) ∧ W.cell? ⟨g, h * 4 + 1, none⟩ = some (.int .i64 x.2.x.tag) ∧ W.cell? ⟨g, h * 4 + 2, none⟩ = some (.slice x.2.A x.2.x.vec.length x.2.c) ∧ W.cell? ⟨g, h * 4 + 3, none⟩ = some (.string x.2.x.str)) ((refine HS.out _ ?_; repeat' (first | (with_reducible exact Below.refl _ _) | (with_reducible assumption) | (with_reducible refine Below.drew ?_) | (with_reducible refine below_drewN' ?_ _))))
        (first
          | (go_at_call 17; (with_reducible refine (HCC.out _ (by repeat' (first | (with_reducible exact Below.refl _ _) | (with_reducible assumption) | (with_reducible refine Below.drew ?_) | (with_reducible refine below_drewN' ?_ _)))).mono ?_); rintro e w2 ⟨rfl, hb2⟩))
      have HR2 := Lib.hid (HR.out.below hb2 (Nat.le_refl _))
      have HO2 := Lib.hid (HO.out.on hb2)
      clear hb2 HCC HS HR q0 q1 q2 q3 q4 q5 q6 q7
      cases o with
      | true =>
        have hxy : ky y < ky x := by simpa using HL.out
        have HXY := Lib.hid hxy
        clear hd hxy
        go_wp2_with (fail)
        go_roundg (h - i)
        case measure => have := HF.out; omega
        case rel => exact ⟨i, h, s, q, rfl, rfl, rfl, HF.out.2.1, HF.out.1, HF.out.2.2.2.1, by have := HF.out; omega, HT.out.1, .inr ⟨x, HXQ.out, HXY.out⟩, HR2.out, HO2.out⟩
      | false =>
        have hxy : ky x ≤ ky y := by have := HL.out; simp at this; exact this
        have HXY := Lib.hid hxy
        clear hd hxy
        go_wp2_with (fail)
        go_roundg (j - (h + 1))
        case measure => have := HF.out; omega
        case rel => exact ⟨h + 1, j, q + 1, r, rfl, by go_num, rfl, by have := HF.out; omega, HF.out.2.2.1, by have := HF.out; omega, hjb, .inr ⟨x, HXQ.out, HXY.out⟩, HT.out.2, HR2.out, HO2.out⟩
    · obtain rfl : i = j := by omega
      obtain rfl : s = r := by omega
      have k0 : ¬ (i : Int) < (i : Int) := by omega
      have hst : Stb ky (U ++ [y]) (U.take s ++ y :: U.drop s) := stb_last y HU.out h1 h2
      have HST := Lib.hid hst
      have HIS := Lib.hid his
      clear h1 h2 hst HU his hjr
      go_wp2_with (fail)
      go_loopg [17] (m - i) (fun gk s13 wr => ∃ (k t : Nat), gk = k - i ∧ s13 = .int .i64 k ∧ k = a + t ∧ i ≤ k ∧ k ≤ m ∧ IRow wr base g n c (X ++ (U.take t ++ (y :: (U.drop t ++ Y)))) ∧ Only (· = g) w wr)
      case atStart => exact ⟨m, U.length, rfl, rfl, by have := HA.out; omega, hjb, Nat.le_refl _, by simpa using hr, ho⟩
      case round =>
        clear hr ho
        obtain ⟨k, t, rfl, rfl, hkt, hik, hkm, hr, ho⟩ := hrel
        by_cases hlt : i < k
        · have k2 : (i : Int) < (k : Int) := by omega
          obtain ⟨kk, hkk⟩ : ∃ kk, kk + 1 = k := ⟨k - 1, by omega⟩
          obtain ⟨t', rfl⟩ : ∃ t', t = t' + 1 := ⟨t - 1, by have := HIS.out; omega⟩
          have htU : t' < U.length := by have := HA.out; omega
          have k3 : IntKind.i64.wrap ((k : Int) - 1) = (kk : Int) := w64 (by omega) (by omega) (by omega)
          have k4 : (k : Int) < (n : Int) := by omega
          have k5 : (kk : Int) < (n : Int) := by omega
          obtain ⟨x, hx⟩ : ∃ x, U[t'] = x := ⟨_, rfl⟩
          have du : U.drop t' = x :: U.drop (t' + 1) := by rw [List.drop_eq_getElem_cons htU, hx]
          have tu : U.take (t' + 1) = U.take t' ++ [x] := by rw [List.take_succ_eq_append_getElem htU, hx]
          have l0 : (X ++ U.take t').length = kk := by have := HA.out; simp; omega
          have ee0 : X ++ (U.take (t' + 1) ++ (y :: (U.drop (t' + 1) ++ Y))) = (X ++ U.take t') ++ x :: ([] ++ y :: (U.drop (t' + 1) ++ Y)) := by rw [tu]; simp
          have ee1 : X ++ (U.take t' ++ (y :: (U.drop t' ++ Y))) = (X ++ U.take t') ++ y :: ([] ++ x :: (U.drop (t' + 1) ++ Y)) := by rw [du]; simp
          rw [ee0] at hr
          have hxk : ((X ++ U.take t') ++ x :: ([] ++ y :: (U.drop (t' + 1) ++ Y)))[kk]? = some x := by rw [← l0]; exact at_mid _ _ _
          have hyk : ((X ++ U.take t') ++ x :: ([] ++ y :: (U.drop (t' + 1) ++ Y)))[k]? = some y := by rw [← hkk, ← l0]; exact at_mid2 _ _ [] _ _
          have hsw : ((((X ++ U.take t') ++ x :: ([] ++ y :: (U.drop (t' + 1) ++ Y)))).set k x).set kk y = X ++ (U.take t' ++ (y :: (U.drop t' ++ Y))) := by
            rw [ee1, ← hkk, ← l0]
            exact swp_mid' (X ++ U.take t') x [] y (U.drop (t' + 1) ++ Y)
          obtain ⟨-, -, ⟨q0, q1, q2, q3, q4, q5, q6, q7⟩, ⟨fz0, fz1, fz2, fz3, fz4, fz5, fz6, fz7⟩, ⟨u0, u1, u2, u3, e0, e1, e2, e3, e4, e5, e6, e7, e8, e9⟩, HRS, HOS⟩ := swap_step hr hyk hxk ho
          rw [hsw] at HRS
          have HKK := Lib.hid (And.intro hkk hkt)
          clear hr ho hxk hyk hsw ee0 ee1 du tu l0 hx hkk hkt
          go_wp2_with (fail)
          go_region
          go_wp2_with (fail)
          go_roundg (kk - i)
          case measure => have := HKK.out; omega
          case rel => exact ⟨kk, t', rfl, rfl, by have := HKK.out; omega, by have := HKK.out; omega, by have := HKK.out; omega, HRS.out, HOS.out⟩
        · have k2 : ¬ (i : Int) < (k : Int) := by omega
          obtain rfl : t = s := by have := HIS.out; omega
          have HE : Hid (Merged base g n c X U [y] Y w (.returned (.tuple #[])) wr) := Lib.hid ⟨rfl, ho, _, HST.out, by simpa using hr⟩
          clear hr ho
          go_wp2_with (fail)
          first
            | (refine bodyPost_ret (results_none rfl _ _ _) rfl ?_; exact HE.out)
            | (go_end0; exact HE.out)
            | exact HE.out
end Go.Proofs.Ytcdjmgmombaiaaa.stb
