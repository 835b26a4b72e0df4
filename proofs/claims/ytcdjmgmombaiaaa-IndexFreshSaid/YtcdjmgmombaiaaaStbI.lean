/-
  The contract of insertionSortCmpFunc at items: a part of a row, put in stable order.
-/
import Derived.Test.YtcdjmgmombaiaaaStb
namespace Go.Proofs.Ytcdjmgmombaiaaa.stb
open Go.RowKit law bytes only flat ord obj
open aro (Kept zK kV)
open store (iE iE_len)
set_option linter.unusedVariables false

/-- the rest of a row, behind what the first t of it came to -/
theorem ins_len {X D R Y U : List (Int × Kept)} {n t : Nat} (h : (X ++ (D ++ (U.drop t ++ Y))).length = n) (hd : D.length = (U.take t).length) : (X ++ (U ++ Y)).length = n := by
  simp at h hd ⊢
  omega
set_option maxRecDepth 100000 in
set_option maxHeartbeats 3200000 in
theorem insertion_any {base g n c a b : Nat} {X U Y : List (Int × Kept)} {w : World} (hr : IRow w base g n c (X ++ (U ++ Y))) (ha : X.length = a) (hb : a + U.length = b) (hsz : n < 2305843009213693952) :
    Calls Try.prog 25 #[.slice (some ⟨g, 0, none⟩) n c, .int .i64 a, .int .i64 b, FV] w fun e w' =>
      e = .returned (.tuple #[]) ∧ Only (· = g) w w' ∧ ∃ U', Stb ky U U' ∧ IRow w' base g n c (X ++ (U' ++ Y)) := by
  unfold FV
  have hnl := hr.len
  have hbn : b ≤ n := by simp at hnl; omega
  obtain ⟨a1, ha1⟩ : ∃ a1, a1 = a + 1 := ⟨_, rfl⟩
  have i0 : IntKind.i64.wrap ((a : Int) + 1) = (a1 : Int) := w64 (by omega) (by omega) (by omega)
  have HA1 := Lib.hid ha1
  have HA := Lib.hid ha
  have HB := Lib.hid hb
  have HN := Lib.hid hnl
  have hab : a ≤ b := by omega
  clear ha1 ha hb hnl
  go_enter Try.func25, Try.ntmps25
  go_wp2_with (fail)
  go_loopg [8, 9] (b - (a + 1)) (fun gk s8 s9 wr => ∃ (t i : Nat) (D : List (Int × Kept)), gk = b - i ∧ s8 = .int .i64 i ∧ i = a + t ∧ 1 ≤ t ∧ i ≤ n + 1 ∧ Stb ky (U.take t) D ∧ IRow wr base g n c (X ++ (D ++ (U.drop t ++ Y))) ∧ Only (· = g) w wr)
  case atStart =>
    refine ⟨1, a1, U.take 1, by rw [HA1.out], rfl, HA1.out, Nat.le_refl _, by have := HA1.out; omega, Stb.of_srt ?_, ?_, Only.refl _ _⟩
    · cases U with
      | nil => exact srt_nil
      | cons x U => exact srt_one x
    · rw [← List.append_assoc (U.take 1), List.take_append_drop]; exact hr
  case round =>
    clear hr
    obtain ⟨t, i, D, rfl, rfl, hit, ht1, hin, hD, hr, ho⟩ := hrel
    by_cases hlt : i < b
    · have i1 : (i : Int) < (b : Int) := by omega
      have htU : t < U.length := by have := HB.out; omega
      obtain ⟨x, hx⟩ : ∃ x, U[t] = x := ⟨_, rfl⟩
      have hdr : U.drop t = x :: U.drop (t + 1) := by rw [List.drop_eq_getElem_cons htU, hx]
      have htk : U.take (t + 1) = U.take t ++ [x] := by rw [List.take_succ_eq_append_getElem htU, hx]
      rw [hdr] at hr
      have hDl : D.length = t := by have := hD.len; simp at this; omega
      obtain ⟨R, hR⟩ : ∃ R, U.drop (t + 1) ++ Y = R := ⟨_, rfl⟩
      rw [List.cons_append, hR] at hr
      obtain ⟨w0, hw0⟩ : ∃ w0, w0 = wr := ⟨_, rfl⟩
      subst hw0
      have HD := Lib.hid hD
      have HTK := Lib.hid htk
      have HIT := Lib.hid hit
      have HRR := Lib.hid hR
      have HDL := Lib.hid hDl
      clear hD htk hdr hx hit hR hDl
      go_wp2_with (fail)
      go_loopg [9] i (fun gk s9 wr => ∃ (j : Nat) (D1 D2 : List (Int × Kept)), j = gk ∧ s9 = .int .i64 j ∧ j ≤ i ∧ j = a + D1.length ∧ D = D1 ++ D2 ∧ (∀ y ∈ D2, ky x < ky y) ∧ IRow wr base g n c (X ++ (D1 ++ (x :: (D2 ++ R)))) ∧ Only (· = g) w wr)
      case atStart => exact ⟨i, D, [], rfl, rfl, Nat.le_refl _, by have := HIT.out; have := HDL.out; omega, by simp, fun y hy => by simp at hy, by simpa using hr, ho⟩
      case round =>
        clear hr ho
        obtain ⟨j, D1, D2, rfl, rfl, hji, hjD, hDD, hgt, hr, ho⟩ := hrel
        by_cases hja : a < j
        · have hne : D1 ≠ [] := by intro e; subst e; simp at hjD; omega
          obtain ⟨D0, y, rfl⟩ : ∃ D0 y, D1 = D0 ++ [y] := ⟨D1.dropLast, D1.getLast hne, (List.dropLast_concat_getLast hne).symm⟩
          clear hne
          obtain ⟨m, hm⟩ : ∃ m, m = a + D0.length := ⟨_, rfl⟩
          have hjm : j = m + 1 := by simp at hjD; omega
          have i2 : (a : Int) < (j : Int) := by omega
          have i3 : IntKind.i64.wrap ((j : Int) - 1) = (m : Int) := w64 (by omega) (by omega) (by omega)
          have i4 : (j : Int) < (n : Int) := by omega
          have i5 : (m : Int) < (n : Int) := by omega
          have hl0 : X ++ (D0 ++ [y] ++ x :: (D2 ++ R)) = (X ++ D0) ++ y :: ([] ++ x :: (D2 ++ R)) := by simp
          have hPl : (X ++ D0).length = m := by rw [List.length_append, HA.out, hm]
          rw [hl0] at hr
          have hym : ((X ++ D0) ++ y :: ([] ++ x :: (D2 ++ R)))[m]? = some y := by rw [← hPl]; exact at_mid _ _ _
          have hxj : ((X ++ D0) ++ y :: ([] ++ x :: (D2 ++ R)))[j]? = some x := by rw [hjm, ← hPl]; exact at_mid2 _ _ [] _ _
          obtain ⟨hjn, hmn, r, hl, HS, HCC, q0, q1, q2, q3, q4, q5, q6, q7⟩ := cmp_step hr hxj hym
          have HR := Lib.hid hr
          have HO := Lib.hid ho
          have HX := Lib.hid hxj
          have HY := Lib.hid hym
          have HL := Lib.hid hl
          have HP := Lib.hid hPl
          have HM := Lib.hid hm
          have HJM := Lib.hid hjm
          have HDD := Lib.hid hDD
          have HGT := Lib.hid hgt
          clear hr ho hxj hym hl hPl hm hDD hgt hl0 hjD hjm
          obtain ⟨o, hd⟩ : ∃ o, decide (r < 0) = o := ⟨_, rfl⟩
          rw [hd] at HL
          go_wp2_with (fail)
          go_region_held3 (fun W => W.cell? ⟨g, j * 4, none⟩ = some (.int .u64 x.1) ∧ W.cell? ⟨g, j * 4 + 1, none⟩ = some (.int .i64 x.2.x.tag) ∧ W.cell? ⟨g, j * 4 + 2, none⟩ = some (.slice x.2.A x.2.x.vec.length x.2.c) ∧ W.cell? ⟨g, j * 4 + 3, none⟩ = some (.string x.2.x.str) ∧ W.cell? ⟨g, m * 4, none⟩ = some (.int .u64 y.1) ∧ W.cell? ⟨g, m * 4 + 1, none⟩ = some (.int .i64 y.2.x.tag) ∧ W.cell? ⟨g, m * 4 + 2, none⟩ = some (.slice y.2.A y.2.x.vec.length y.2.c) ∧ W.cell? ⟨g, m * 4 + 3, none⟩ = some (.string y.2.x.str)) ((refine HS.out _ ?_; repeat' (first | (with_reducible exact Below.refl _ _) | (with_reducible assumption) | (with_reducible refine Below.drew ?_) | (with_reducible refine below_drewN' ?_ _))))
            (first
              | (go_at_call 17; (with_reducible refine (HCC.out _ (by repeat' (first | (with_reducible exact Below.refl _ _) | (with_reducible assumption) | (with_reducible refine Below.drew ?_) | (with_reducible refine below_drewN' ?_ _)))).mono ?_); rintro e w2 ⟨rfl, hb2⟩))
          have HR2 := Lib.hid (HR.out.below hb2 (Nat.le_refl _))
          have HO2 := Lib.hid (HO.out.on hb2)
          clear hb2 HCC HS HR q0 q1 q2 q3 q4 q5 q6 q7
          cases o with
          | true =>
            obtain ⟨-, -, ⟨q0, q1, q2, q3, q4, q5, q6, q7⟩, ⟨fz0, fz1, fz2, fz3, fz4, fz5, fz6, fz7⟩, ⟨u0, u1, u2, u3, e0, e1, e2, e3, e4, e5, e6, e7, e8, e9⟩, HRS, HOS⟩ := swap_step HR2.out HX.out HY.out HO2.out
            have hsw : (((X ++ D0) ++ y :: ([] ++ x :: (D2 ++ R))).set j y).set m x = X ++ (D0 ++ (x :: ((y :: D2) ++ R))) := by
              rw [HJM.out, ← HP.out]
              exact (swp_mid' (X ++ D0) y [] x (D2 ++ R)).trans (by simp)
            rw [hsw] at HRS
            have hxy : ky x < ky y := by simpa using HL.out
            have HXY : Hid (D = D0 ++ (y :: D2) ∧ ∀ z ∈ y :: D2, ky x < ky z) := Lib.hid ⟨by rw [HDD.out]; simp, fun z hz => by
              rcases List.mem_cons.1 hz with rfl | hz
              · exact hxy
              · exact HGT.out z hz⟩
            clear hsw hd hxy
            go_wp2_with (fail)
            go_region
            go_wp2_with (fail)
            go_roundg m
            case measure => have := HJM.out; omega
            case rel => exact ⟨m, D0, y :: D2, rfl, rfl, by have := HJM.out; omega, HM.out, HXY.out.1, HXY.out.2, HRS.out, HOS.out⟩
          | false =>
            have hxy : ky y ≤ ky x := by have := HL.out; simp at this; exact this
            have hst : Stb ky (U.take (t + 1)) (D0 ++ [y] ++ x :: D2) := by
              rw [HTK.out]
              have h1 := HD.out
              rw [HDD.out] at h1
              refine h1.put (fun z hz => ?_) HGT.out
              obtain ⟨s1, -, -⟩ := srt_append.1 h1.srt
              obtain ⟨-, -, s3⟩ := srt_append.1 s1
              rcases List.mem_append.1 hz with hz | hz
              · exact Int.le_trans (s3 z hz y (by simp)) hxy
              · rw [List.mem_singleton.1 hz]; exact hxy
            have hfi : IRow w2 base g n c (X ++ ((D0 ++ [y] ++ x :: D2) ++ (U.drop (t + 1) ++ Y))) := by
              have := HR2.out
              rw [HRR.out]
              simpa using this
            have HST := Lib.hid (And.intro hst hfi)
            have i7 : IntKind.i64.wrap ((i : Int) + 1) = ((i + 1 : Nat) : Int) := w64 (by omega) (by omega) (by omega)
            clear hst hfi hd hxy
            go_wp2_with (fail)
            go_roundg (b - (i + 1))
            case measure => omega
            case rel => exact ⟨t + 1, i + 1, _, rfl, rfl, by have := HIT.out; omega, by omega, by omega, HST.out.1, HST.out.2, HO2.out⟩
        · have i2 : ¬ (a : Int) < (j : Int) := by omega
          obtain rfl : D1 = [] := List.eq_nil_of_length_eq_zero (by omega)
          have hst : Stb ky (U.take (t + 1)) (x :: D2) := by
            rw [HTK.out]
            have h1 := HD.out
            rw [hDD] at h1
            exact h1.put (D1 := []) (fun z hz => by simp at hz) hgt
          have hfi : IRow wr base g n c (X ++ ((x :: D2) ++ (U.drop (t + 1) ++ Y))) := by
            rw [HRR.out]
            simpa using hr
          have HST := Lib.hid (And.intro hst hfi)
          have HO := Lib.hid ho
          have i7 : IntKind.i64.wrap ((i : Int) + 1) = ((i + 1 : Nat) : Int) := w64 (by omega) (by omega) (by omega)
          clear hst hfi hr ho hDD hgt hjD
          go_wp2_with (fail)
          go_region
          go_wp2_with (fail)
          go_roundg (b - (i + 1))
          case measure => omega
          case rel => exact ⟨t + 1, i + 1, _, rfl, rfl, by have := HIT.out; omega, by omega, by omega, HST.out.1, HST.out.2.drew_, HO.out.drew⟩
    · have i1 : ¬ (i : Int) < (b : Int) := by omega
      have htU : U.length ≤ t := by have := HB.out; omega
      rw [List.take_of_length_le htU] at hD
      rw [List.drop_of_length_le htU, List.nil_append] at hr
      have HE : Hid (∃ U', Stb ky U U' ∧ IRow wr base g n c (X ++ (U' ++ Y))) := Lib.hid ⟨D, hD, hr⟩
      have HO := Lib.hid ho
      clear hr ho hD
      go_wp2_with (fail)
      go_end0
      exact ⟨rfl, HO.out, HE.out⟩
end Go.Proofs.Ytcdjmgmombaiaaa.stb
