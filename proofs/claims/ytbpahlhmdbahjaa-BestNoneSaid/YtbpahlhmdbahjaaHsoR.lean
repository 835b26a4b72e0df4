/-
  The contracts of pdqsortCmpFunc and slices.SortFunc.
-/
import Derived.Test.YtbpahlhmdbahjaaHsoQ
import Derived.Deep.Cut
import Derived.Deep.CutRange
namespace Go.Proofs.Ytbpahlhmdbahjaa.hso
open Go.RowKit law bytes only flat hit heapM best Go.Sort Go.Shelf
set_option linter.unusedVariables false

set_option maxRecDepth 100000 in
set_option maxHeartbeats 12800000 in
theorem pdq_any : ∀ n, Sorts n := by
  intro n
  induction n with
  | zero => exact fun S lim k h => absurd h (Nat.not_lt_zero _)
  | succ n ih =>
    intro S lim k hn hlim hP
    have IH := Lib.hid ih
    have HOK := Lib.hid k
    have hsz := k.sz
    have hP0 : At S S.a S.b S.w := ⟨_, hP⟩
    have HP0 := Lib.hid hP0
    have hab : S.a ≤ S.b := hP.ab
    have hbD : S.b ≤ S.D := hP.bD
    clear ih k hP hP0
    unfold FV
    go_enter Try.func40, Try.ntmps40
    go_wp2_with (fail)
    go_loopg [1, 2, 3, 10, 11] (S.b - S.a) (fun gk s1 s2 s3 s10 s11 wr => ∃ (x y lm : Nat) (wb wp : Bool), s1 = .int .i64 x ∧ s2 = .int .i64 y ∧ s3 = .int .i64 lm ∧ s10 = .bool wb ∧ s11 = .bool wp ∧
      y - x = gk ∧ y - x ≤ S.b - S.a ∧ x ≤ y ∧ y ≤ S.D ∧ lm < 4611686018427387904 ∧ At S x y wr)
    case atStart => exact ⟨S.a, S.b, lim, true, true, rfl, rfl, rfl, rfl, rfl, rfl, Nat.le_refl _, hab, hbD, hlim, HP0.out⟩
    case round =>
      clear HP0
      obtain ⟨x, y, lm, wb, wp, rfl, rfl, rfl, rfl, rfl, hg, hyx, hxy, hyD, hlm, hA⟩ := hrel
      obtain ⟨l, hl⟩ : ∃ l, l = y - x := ⟨_, rfl⟩
      have i1 : IntKind.i64.wrap ((y : Int) - (x : Int)) = (l : Int) := w64 (by omega) (by omega) (by omega)
      have HL := Lib.hid hl
      have HG := Lib.hid hg
      have HA := Lib.hid hA
      clear hA hl hg
      by_cases h12 : (l : Int) ≤ 12
      · go_wp2_with (fail)
        refine (c_ins HOK.out HA.out).mono ?_
        rintro e w' ⟨rfl, hf⟩
        have HF := Lib.hid hf
        clear hf
        go_wp2_with (fail)
        refine bodyPost_ret (results_none rfl _ _ _) rfl ?_
        exact ⟨rfl, HF.out⟩
      · by_cases hl0 : (lm : Int) = 0
        · go_wp2_with (fail)
          refine (c_heap HOK.out HA.out (by have := HL.out; omega)).mono ?_
          rintro e w' ⟨rfl, hf⟩
          have HF := Lib.hid hf
          clear hf
          go_wp2_with (fail)
          refine bodyPost_ret (results_none rfl _ _ _) rfl ?_
          exact ⟨rfl, HF.out⟩
        · have i2 : IntKind.i64.wrap ((lm : Int) - 1) = ((lm - 1 : Nat) : Int) := w64 (by omega) (by omega) (by omega)
          go_upto_if 39 with (fail)
          go_cut [3] from 21 (fun s3 wc => (∃ lq : Nat, s3 = .int .i64 lq ∧ lq < 4611686018427387904) ∧ At S x y wc)
          case first =>
            cases wb
            · go_wp2_with (fail)
              refine (c_brk HOK.out HA.out (by have := HL.out; omega)).mono ?_
              rintro e w' ⟨rfl, hf⟩
              have HF := Lib.hid hf
              clear hf
              go_wp2_with (fail)
              go_meet
              case rel => exact ⟨⟨lm - 1, rfl, by omega⟩, HF.out⟩
            · go_wp2_with (fail)
              go_meet
              case rel => exact ⟨⟨lm, rfl, hlm⟩, HA.out⟩
          case rest =>
            obtain ⟨⟨lq, rfl, hlq⟩, hA1⟩ := hcut
            have HA1 := Lib.hid hA1
            clear hA1 HA i2 hl0
            go_wp2_with (fail)
            refine (c_piv HOK.out HA1.out (by have := HL.out; omega)).mono ?_
            rintro e w2 ⟨p, t, rfl, hp1, hp2, hA2⟩
            have HA2 := Lib.hid hA2
            clear hA2 HA1
            go_upto_if 56 with (fail)
            go_cut [13, 14] from 21 (fun s13 s14 wc => (∃ (q : Nat) (t2 : Int), s13 = .int .i64 q ∧ s14 = .int .i64 t2 ∧ x ≤ q ∧ q < y) ∧ At S x y wc)
            case first =>
              by_cases ht : t = 2
              · subst ht
                obtain ⟨y1, hy1⟩ : ∃ y1, y1 = y - 1 := ⟨_, rfl⟩
                obtain ⟨px, hpx⟩ : ∃ px, px = p - x := ⟨_, rfl⟩
                obtain ⟨q, hq⟩ : ∃ q, q = y1 - px := ⟨_, rfl⟩
                have i3 : IntKind.i64.wrap ((y : Int) - 1) = (y1 : Int) := w64 (by omega) (by omega) (by omega)
                have i4 : IntKind.i64.wrap ((p : Int) - (x : Int)) = (px : Int) := w64 (by omega) (by omega) (by omega)
                have i5 : IntKind.i64.wrap ((y1 : Int) - (px : Int)) = (q : Int) := w64 (by omega) (by omega) (by omega)
                have HQ : Hid (x ≤ q ∧ q < y) := Lib.hid ⟨by omega, by omega⟩
                clear hy1 hpx hq
                go_wp2_with (fail)
                refine (c_rev HOK.out HA2.out (by omega)).mono ?_
                rintro e w' ⟨rfl, hf⟩
                have HF := Lib.hid hf
                clear hf
                go_wp2_with (fail)
                go_meet
                case rel => exact ⟨⟨q, 1, rfl, rfl, HQ.out⟩, HF.out⟩
              · go_wp2_with (fail)
                go_meet
                case rel => exact ⟨⟨p, t, rfl, rfl, hp1, hp2⟩, HA2.out⟩
            case rest =>
              clear hp1 hp2
              obtain ⟨⟨q, t2, rfl, rfl, hq1, hq2⟩, hA3⟩ := hcut
              have HA3 := Lib.hid hA3
              clear hA3 HA2
              go_upto_region 15 with (fail)
              go_cut [14, 75] from 21 (fun s14 s75 wx => (∃ (t3 : Int), s14 = .int .i64 t3) ∧ (∃ o : Bool, s75 = .bool o) ∧ wx = wc)
              case first =>
                by_cases ht : t2 = 1
                · subst ht
                  cases wb <;> cases wp <;> (go_wp2_with (fail); go_meet; exact ⟨⟨_, rfl⟩, ⟨_, rfl⟩, rfl⟩)
                · cases wb <;> cases wp <;> (go_wp2_with (fail); go_meet; exact ⟨⟨_, rfl⟩, ⟨_, rfl⟩, rfl⟩)
              case rest =>
                obtain ⟨⟨t3, rfl⟩, ⟨o, rfl⟩, rfl⟩ := hcut
                go_upto_if 75 with (fail)
                go_cut [] from 21 (fun wx => At S x y wx)
                case first =>
                  cases o
                  · go_wp2_with (fail)
                    go_meet
                    case rel => exact HA3.out
                  · go_wp2_with (fail)
                    refine (c_par HOK.out HA3.out (by omega)).mono ?_
                    rintro e w' ⟨o2, rfl, hf, ha⟩
                    have HF := Lib.hid hf
                    have HA4 := Lib.hid ha
                    clear hf ha
                    cases o2
                    · go_wp2_with (fail)
                      go_meet
                      case rel => exact HA4.out
                    · go_wp2_with (fail)
                      refine bodyPost_ret (results_none rfl _ _ _) rfl ?_
                      exact ⟨rfl, HF.out (by simp)⟩
                case rest =>
                  obtain ⟨dk, hPt⟩ := hcut
                  have HPT := Lib.hid hPt
                  have hsd : dk.size = S.D := hPt.sz
                  clear hPt HA3
                  go_upto_region 17 with (fail)
                  go_cut [97] from 21 (fun s97 wx => ∃ o : Bool, s97 = .bool o ∧ (o = true → 0 < x ∧ lf S.cf dk[x - 1]! dk[q]! = false) ∧ Pt S x y wx dk)
                  case first =>
                    rcases Nat.eq_zero_or_pos x with hxz | hx0
                    rotate_left
                    · have z1 : decide (0 < x) = true := decide_eq_true hx0
                      have z2 : decide ((0 : Int) < (x : Int)) = true := decide_eq_true (by omega)
                      have z3 : (0 : Int) < (x : Int) := by omega
                      obtain ⟨xm, hxm⟩ : ∃ xm, xm = x - 1 := ⟨_, rfl⟩
                      have i3 : IntKind.i64.wrap ((x : Int) - 1) = (xm : Int) := w64 (by omega) (by omega) (by omega)
                      have i4 : (xm : Int) < (S.D : Int) := by omega
                      have i5 : (q : Int) < (S.D : Int) := by omega
                      obtain ⟨xv, yv, r, hx, hy, hl, HS, HCC, q0, q1, q2, q3⟩ := cmp_step HPT.out.cm HPT.out.row xm q (by omega) (by omega)
                      have HLL : Hid (lf S.cf dk[x - 1]! dk[q]! = decide (r < 0)) := Lib.hid (by rw [← hxm, hx, hy]; exact hl)
                      clear hx hy hl hxm
                      obtain ⟨o1, hd⟩ : ∃ o1, decide (r < 0) = o1 := ⟨_, rfl⟩
                      rw [hd] at HLL
                      go_wp2_with (fail)
                      go_region_held3 (fun W => W.cell? ⟨S.g, xm * 2, none⟩ = some (.int .u64 xv.1) ∧ W.cell? ⟨S.g, xm * 2 + 1, none⟩ = some (.int .i64 xv.2) ∧ W.cell? ⟨S.g, q * 2, none⟩ = some (.int .u64 yv.1) ∧ W.cell? ⟨S.g, q * 2 + 1, none⟩ = some (.int .i64 yv.2)) ((refine HS.out _ ?_; repeat' (first | (with_reducible exact Below.refl _ _) | (with_reducible assumption) | (with_reducible refine Below.drew ?_) | (with_reducible refine below_drewN' ?_ _))))
                        (first
                          | (go_at_call 36; (with_reducible refine (HCC.out _ (by repeat' (first | (with_reducible exact Below.refl _ _) | (with_reducible assumption) | (with_reducible refine Below.drew ?_) | (with_reducible refine below_drewN' ?_ _)))).mono ?_); rintro e w2 ⟨rfl, hb2⟩))
                      have HP2 : Hid (Pt S x y w2 dk) := Lib.hid (HPT.out.step HOK.out (Only.of_below hb2 (Nat.le_refl _) _) (permIn_refl _ _ _) (HPT.out.row.below hb2 (Nat.le_refl _)))
                      clear hb2 HCC HS q0 q1 q2 q3
                      cases o1 with
                      | false =>
                        go_wp2_with (fail)
                        go_meet
                        case rel => exact ⟨true, rfl, fun _ => ⟨hx0, HLL.out⟩, HP2.out⟩
                      | true =>
                        go_wp2_with (fail)
                        go_meet
                        case rel => exact ⟨false, rfl, (fun e => by cases e), HP2.out⟩
                    · have z1 : decide (0 < x) = false := decide_eq_false (by omega)
                      have z2 : decide ((0 : Int) < (x : Int)) = false := decide_eq_false (by omega)
                      have z3 : ¬ (0 : Int) < (x : Int) := by omega
                      have z4 : ¬ 0 < x := by omega
                      clear hxz
                      go_wp2_with (fail)
                      go_region
                      go_wp2_with (fail)
                      go_meet
                      case rel => exact ⟨false, rfl, (fun e => by cases e), HPT.out.step HOK.out (Only.refl _ _).drew (permIn_refl _ _ _) HPT.out.row.drew_⟩
                  case rest =>
                    obtain ⟨o, rfl, ho, hP2⟩ := hcut
                    have HP2 := Lib.hid hP2
                    have HT := Lib.hid ho
                    clear ho hP2 HPT hsd
                    cases o
                    · go_wp2_with (fail)
                      refine (c_part HOK.out HP2.out q hq1 hq2).mono ?_
                      rintro e w3 ⟨m, ap, rfl, hm1, hm2, hh⟩
                      have HH := Lib.hid hh
                      clear hh HP2 HT
                      obtain ⟨lx, hlx⟩ : ∃ lx, lx = m - x := ⟨_, rfl⟩
                      obtain ⟨ry, hry⟩ : ∃ ry, ry = y - m := ⟨_, rfl⟩
                      obtain ⟨m1, hm1e⟩ : ∃ m1, m1 = m + 1 := ⟨_, rfl⟩
                      obtain ⟨th, hth⟩ : ∃ th, th = l / 8 := ⟨_, rfl⟩
                      have i3 : IntKind.i64.wrap ((m : Int) - (x : Int)) = (lx : Int) := w64 (by omega) (by omega) (by omega)
                      have i4 : IntKind.i64.wrap ((y : Int) - (m : Int)) = (ry : Int) := w64 (by omega) (by omega) (by omega)
                      have i5 : IntKind.i64.wrap ((m : Int) + 1) = (m1 : Int) := w64 (by omega) (by omega) (by omega)
                      have i6 : ((l : Int) / 8) = (th : Int) := by omega
                      have HM1 := Lib.hid hm1e
                      clear hth hm1e hlx hry
                      by_cases hlr : (lx : Int) < (ry : Int)
                      · go_wp2_with (fail)
                        refine (c_left IH.out HOK.out HH.out (by omega) hlq).mono ?_
                        rintro e w4 ⟨rfl, ha⟩
                        have HA4 := Lib.hid ha
                        clear ha HH
                        go_wp2_with (fail)
                        go_roundg (y - (m + 1))
                        case measure => have := HG.out; omega
                        case rel => exact ⟨m + 1, y, lq, _, ap, by rw [HM1.out], rfl, rfl, rfl, rfl, rfl, by omega, by omega, hyD, hlq, HA4.out⟩
                      · go_wp2_with (fail)
                        rw [HM1.out]
                        refine (c_right IH.out HOK.out HH.out (by omega) hlq).mono ?_
                        rintro e w4 ⟨rfl, ha⟩
                        have HA4 := Lib.hid ha
                        clear ha HH
                        go_wp2_with (fail)
                        go_roundg (m - x)
                        case measure => have := HG.out; omega
                        case rel => exact ⟨x, m, lq, _, ap, rfl, rfl, rfl, rfl, rfl, rfl, by omega, hm1, by omega, hlq, HA4.out⟩
                    · have HT2 := Lib.hid (HT.out rfl)
                      clear HT
                      go_wp2_with (fail)
                      refine (c_eq HOK.out HP2.out q HT2.out.1 hq1 hq2 HT2.out.2).mono ?_
                      rintro e w3 ⟨m, rfl, hm1, hm2, ha⟩
                      have HA4 := Lib.hid ha
                      clear ha HP2 HT2
                      go_wp2_with (fail)
                      go_roundg (y - m)
                      case measure => have := HG.out; omega
                      case rel => exact ⟨m, y, lq, wb, wp, rfl, rfl, rfl, rfl, rfl, rfl, by omega, hm2, hyD, hlq, HA4.out⟩

set_option maxHeartbeats 1600000 in
theorem sort_any {hb K : Nat} {v : Value} {cf : Hit → Hit → Int} {base g c : Nat} {d : Array Hit} {w : World} (hc : Cm hb K v cf w) (hr : HRow w base g c d) (hne : hb ≠ g) (hO : SWO (lf cf)) (hsz : d.size < 2305843009213693952) :
    Calls Try.prog 35 #[.slice (some ⟨g, 0, none⟩) d.size c, FV hb] w fun e w' =>
      e = .returned (.tuple #[]) ∧ Only (· = g) w w' ∧ ∃ R, PermIn 0 d.size d R ∧ SortedIn (lf cf) 0 d.size R ∧ HRow w' base g c R := by
  have hk : bitsLen d.size ≤ 62 := (bitsLen_le_iff d.size 62).2 (by omega)
  have HS := Lib.hid (pdq_any (d.size + 1) ⟨hb, K, v, cf, base, g, c, d.size, 0, d.size, d, w⟩ (bitsLen d.size) ⟨hO, hne, hsz⟩ (by show d.size - 0 < d.size + 1; omega) (by omega) ⟨rfl, .inl rfl, fun R p1 p2 => ⟨p1, p2⟩, hr, hc, Only.refl _ _, Nat.zero_le _, Nat.le_refl _⟩)
  have HL : Hid (∀ w, Calls Try.prog 41 #[.int .u64 (d.size : Int)] w fun e w' => e = .returned (.int .i64 (bitsLen d.size : Nat)) ∧ w' = w) := Lib.hid fun w => by
    have h := Try.bits_Len (d.size : Int) w (by omega) (by omega)
    rwa [Int.toNat_natCast, bitLen_eq _ (by omega)] at h
  have wr : IntKind.u64.wrap (d.size : Int) = d.size := u64_nat d.size (by omega)
  generalize bitsLen d.size = lim at HS HL hk
  clear hc hr
  unfold FV
  go_enter Try.func35, Try.ntmps35
  go_wp2_with (fail)
  refine (HL.out _).mono ?_
  rintro e w' ⟨rfl, rfl⟩
  go_wp2_with (fail)
  refine HS.out.mono ?_
  rintro e w' ⟨rfl, ho, R, p1, p2, p3⟩
  have HF := Lib.hid (And.intro ho (And.intro p1 (And.intro p2 p3)))
  clear ho p1 p2 p3 HS
  go_wp2_with (fail)
  go_end0
  exact ⟨rfl, HF.out.1, R, HF.out.2.1, HF.out.2.2.1, HF.out.2.2.2⟩
end Go.Proofs.Ytbpahlhmdbahjaa.hso
