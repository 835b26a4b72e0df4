/-
  For all deeds and places the law DirectDoes returns true, and changes nothing that there was. No condition.
-/
import Derived.Test.YthcdppfnejfgeaaDirE
import Derived.Deep.Cut
import Derived.Deep.CutRange
import Derived.Deep.CutBlock
namespace Go.Proofs.Ythcdppfnejfgeaa.directDoes
open Go.RowKit law bytes only flat direct came
open Go.ChangeShapes Go.WideShapes Go.Deep Go.ChangeAt
set_option linter.unusedVariables false

set_option maxRecDepth 100000 in
set_option maxHeartbeats 12800000 in
theorem walk (A0 : Option Addr) (c0 : Nat) (l : List (Bool × Int × Int)) (at_ : Int) (hat_ : -9223372036854775808 ≤ at_ ∧ at_ ≤ 9223372036854775807) (hl : l.length * 24 ≤ 140737488355328) (w : World) (hr : Came 3 dC w A0 l) :
    Calls Try.prog 3 #[.slice A0 l.length c0, .int .i64 at_] w fun e w' => e = .returned (.bool true) ∧ Below w.heap.size w w' := by
  have HR := Lib.hid hr
  have HAT := Lib.hid hat_
  have HN := Lib.hid (new_dy w)
  clear hr hat_
  go_enter Try.func3, Try.ntmps3
  go_wp2_with (fail)
  refine HN.out.mono ?_
  rintro e w1 ⟨db, T, rfl, hb1, h1⟩
  have HP := Lib.hid (Md.start h1 hb1)
  clear hb1 h1 HN
  go_wp2_with (fail)
  go_loopg [6, 7, 8, 9, 10, 11, 12, 13, 14, 15, 16] l.length (fun gk s6 s7 s8 s9 s10 s11 s12 s13 s14 s15 s16 wr => ∃ (k c : Nat) (A : Option Addr) (r : List (Int × Int)), gk = l.length - k ∧ k ≤ l.length ∧ s7 = .int .i64 k ∧ s6 = .slice A r.length c ∧ P w db k A r wr)
  case atStart => exact ⟨0, 0, none, [], rfl, Nat.zero_le _, rfl, rfl, HP.out⟩
  case round =>
    clear HP
    obtain ⟨k, c, A, r, rfl, hk, rfl, rfl, hp⟩ := hrel
    obtain ⟨w0, hw0⟩ : ∃ w0, w0 = wr := ⟨_, rfl⟩
    subst hw0
    by_cases hlt : k < l.length
    · obtain ⟨rb, ro, rfl, hrb⟩ := HR.out.row (by decide) dC_len (by omega)
      have hat := HR.out.at_ k hlt
      obtain ⟨⟨cut, id, sl⟩, hx⟩ : ∃ x, l[k] = x := ⟨_, rfl⟩
      rw [hx] at hat
      have hcells : ∀ W, Below w.heap.size w W → W.cell? ⟨rb, ro + k * 3 + 1, none⟩ = some (.int .u64 id) ∧ W.cell? ⟨rb, ro + k * 3 + 2, none⟩ = some (.int .i64 sl) := fun W hW =>
        ⟨(hW.cell (p := ⟨rb, ro + k * 3 + 1, none⟩) hrb).trans (hat 1 (by decide)), (hW.cell (p := ⟨rb, ro + k * 3 + 2, none⟩) hrb).trans (hat 2 (by decide))⟩
      have q0 : w0.cell? ⟨rb, ro + k * 3, none⟩ = some (.bool cut) := (hp.below.cell (p := ⟨rb, ro + k * 3, none⟩) hrb).trans (hat 0 (by decide))
      obtain ⟨q1, q2⟩ := hcells w0 hp.below
      have HCD := Lib.hid hcells
      have i1 : (k : Int) < (l.length : Int) := by omega
      obtain ⟨T, F, hM, hpm, hrk⟩ := hp
      have HM := Lib.hid hM
      have HPM := Lib.hid hpm
      have HRK := Lib.hid hrk
      have hFl := hpm.length_eq
      have hl2 : l.length ≤ 5864062014805 := by omega
      clear hat hx hM hpm hrk hcells
      go_upto_if 28 with (fail)
      go_cut [6, 8, 9] from 18 to 173 (fun s6 s8 s9 wc => Sw w db k s6 s8 s9 wc)
      case first =>
        cases cut with
        | false =>
          have HPT : Hid (∀ W, Md w db T F A r W → Calls Try.prog 9 #[.pointer (some ⟨db, 0, none⟩), .int .u64 id, .int .i64 sl] W fun e w' => e = .returned (.bool (!(fd F id).isSome)) ∧ ∃ T2, Md w db T2 (putF F id sl) A r w') := Lib.hid fun W hW => hW.put id sl (by have := HRK.out; omega)
          have hm0 := HM.out
          obtain ⟨q, hq⟩ : ∃ q, (fd F id).isSome = q := ⟨_, rfl⟩
          rw [hq] at HPT
          go_wp2_with (fail)
          go_region_held3 (fun W => W.cell? ⟨rb, ro + k * 3 + 1, none⟩ = some (.int .u64 id) ∧ W.cell? ⟨rb, ro + k * 3 + 2, none⟩ = some (.int .i64 sl))
            (first | exact ⟨q1, q2⟩ | exact hq5)
            (first
              | (go_at_call 9; (with_reducible refine (HPT.out _ (by repeat' (first | (with_reducible assumption) | (with_reducible refine Md.drew ?_) | (with_reducible refine Md.drewN ?_ _)))).mono ?_); rintro e w5 ⟨rfl, T2, hm5⟩; have hq5 := HCD.out _ hm5.below))
          obtain ⟨p1, p2⟩ := hq5
          have H5 := Lib.hid hm5
          clear hm5 hm0 HPT
          cases q with
          | true =>
            have HRP : Hid (∀ W, Md w db T2 (putF F id sl) A r W → Calls Try.prog 10 #[.slice A r.length c, .int .u64 id, .int .i64 sl] W fun e w' => e = .returned (.tuple #[.slice A r.length c, .bool false]) ∧ Md w db T2 (putF F id sl) A r w') := Lib.hid fun W hW =>
              (rput_no hW.sl id sl (by have := HRK.out; omega) (by rw [fd_perm HM.out.dy.rise HPM.out]; exact hq)).mono fun e w' ⟨he, hw⟩ => by subst hw; exact ⟨he, hW⟩
            have HE : Hid (∀ W, Md w db T2 (putF F id sl) A r W → Sw w db k (.slice A r.length c) (.bool false) (.bool false) W) := Lib.hid fun W hW => by
              have e2 : putF F id sl = F := by unfold putF; rw [if_pos hq]
              rw [e2] at hW
              exact ⟨false, T2, F, A, c, r, rfl, rfl, rfl, by have := HRK.out; omega, HPM.out, hW⟩
            have hm5 := H5.out
            clear hq HM HPM
            go_wp2_with (fail)
            go_region_held3 (fun W => W.cell? ⟨rb, ro + k * 3 + 1, none⟩ = some (.int .u64 id) ∧ W.cell? ⟨rb, ro + k * 3 + 2, none⟩ = some (.int .i64 sl))
              (first | exact ⟨p1, p2⟩ | exact hq6)
              (first
                | (go_at_call 10; (with_reducible refine (HRP.out _ (by repeat' (first | (with_reducible assumption) | (with_reducible refine Md.drew ?_) | (with_reducible refine Md.drewN ?_ _)))).mono ?_); rintro e w6 ⟨rfl, hm6⟩; have hq6 := HCD.out _ hm6.below))
            have H6 := Lib.hid (HE.out _ hm6)
            clear hm6 hq6 hm5 HRP HE
            go_wp2_with (fail)
            go_meet
            case rel => exact H6.out
          | false =>
            have hnone : fd F id = none := by simpa using hq
            have HRP : Hid (∀ W, Md w db T2 (putF F id sl) A r W → Calls Try.prog 10 #[.slice A r.length c, .int .u64 id, .int .i64 sl] W fun e w' => ∃ A2 c2, e = .returned (.tuple #[.slice A2 (r ++ [(id, sl)]).length c2, .bool true]) ∧ Md w db T2 (putF F id sl) A2 (r ++ [(id, sl)]) w') := Lib.hid fun W hW =>
              (rput_yes hW.sl id sl (by have := HRK.out; omega) (by rw [fd_perm HM.out.dy.rise HPM.out]; exact hnone)).mono fun e w' hr => hW.laid hr
            have HE : Hid (∀ A2 c2 W, Md w db T2 (putF F id sl) A2 (r ++ [(id, sl)]) W → Sw w db k (.slice A2 (r ++ [(id, sl)]).length c2) (.bool true) (.bool true) W) := Lib.hid fun A2 c2 W hW => by
              have e2 : putF F id sl = ins F id sl := by unfold putF; rw [if_neg (by rw [hq]; simp)]
              rw [e2] at hW
              exact ⟨true, T2, _, A2, c2, _, rfl, rfl, rfl, by have := HRK.out; simp; omega, ins_perm' hnone HPM.out, hW⟩
            have hm5 := H5.out
            obtain ⟨r2, hr2⟩ : ∃ r2, r ++ [(id, sl)] = r2 := ⟨_, rfl⟩
            rw [hr2] at HRP HE
            clear hq HM HPM hr2 hnone
            go_wp2_with (fail)
            go_region_held3 (fun W => W.cell? ⟨rb, ro + k * 3 + 1, none⟩ = some (.int .u64 id) ∧ W.cell? ⟨rb, ro + k * 3 + 2, none⟩ = some (.int .i64 sl))
              (first | exact ⟨p1, p2⟩ | exact hq6)
              (first
                | (go_at_call 10; (with_reducible refine (HRP.out _ (by repeat' (first | (with_reducible assumption) | (with_reducible refine Md.drew ?_) | (with_reducible refine Md.drewN ?_ _)))).mono ?_); rintro e w6 ⟨A2, c2, rfl, hm6⟩; have hq6 := HCD.out _ hm6.below))
            have H6 := Lib.hid (HE.out _ c2 _ hm6)
            clear hm6 hq6 hm5 HRP HE
            go_wp2_with (fail)
            go_meet
            case rel => exact H6.out
        | true =>
          have HCT := Lib.hid (HM.out.cut id (by have := HRK.out; omega))
          obtain ⟨q, hq⟩ : ∃ q, (fd F id).isSome = q := ⟨_, rfl⟩
          rw [hq] at HCT
          have HQ := Lib.hid hq
          clear hq
          go_wp2_with (fail)
          refine HCT.out.mono ?_
          rintro e w5 ⟨rfl, T2, hm5⟩
          obtain ⟨p1, p2⟩ := HCD.out _ hm5.below
          obtain ⟨r2, hr2⟩ : ∃ r2, del r id = r2 := ⟨_, rfl⟩
          have HRC : Hid (Calls Try.prog 8 #[.slice A r.length c, .int .u64 id] w5 fun e w' => ∃ A2 c2, e = .returned (.tuple #[.slice A2 r2.length c2, .bool q]) ∧ Sw w db k (.slice A2 r2.length c2) (.bool q) (.bool q) w') := Lib.hid (by
            have h1 := rcut_any (c := c) hm5.sl id (by have := HRK.out; omega)
            rw [fd_perm HM.out.dy.rise HPM.out, HQ.out, hr2] at h1
            refine h1.mono fun e w' hr => ?_
            obtain ⟨A2, c2, he, h2⟩ := hm5.laid hr
            refine ⟨A2, c2, he, q, T2, del F id, A2, c2, r2, rfl, rfl, rfl, ?_, by rw [← hr2]; exact del_perm HPM.out, h2⟩
            rw [← hr2]
            have := del_length_le r id
            have := HRK.out
            omega)
          clear hm5 hr2 HCT HM HPM HQ q1 q2
          go_wp2_with (fail)
          refine HRC.out.mono ?_
          rintro e w6 ⟨A2, c2, rfl, hs⟩
          have H6 := Lib.hid hs
          clear hs HRC
          go_wp2_with (fail)
          go_meet
          case rel => exact H6.out
      case rest =>
        clear HM HPM HRK q0 q1 q2 hFl
        obtain ⟨b, T2, F2, A2, c2, r2, rfl, rfl, rfl, hk2, hp2, hM2⟩ := hcut
        obtain ⟨q1, q2⟩ := HCD.out wc hM2.below
        have HP2 := Lib.hid hp2
        have hlen := hp2.length_eq
        obtain ⟨n, hn⟩ : ∃ n, r2.length = n := ⟨_, rfl⟩
        have hFn : F2.length = n := by omega
        have hnm : n ≤ 5864062014806 := by omega
        have HK2 := Lib.hid (show r2.length ≤ k + 1 from hk2)
        have HRN := Lib.hid hn
        have HFN := Lib.hid hFn
        have HNM := Lib.hid hnm
        have HF1 := Lib.hid (hM2.find id)
        obtain ⟨v1, hv1⟩ : ∃ v, (fd F2 id).getD 0 = v := ⟨_, rfl⟩
        obtain ⟨v2, hv2⟩ : ∃ v, (fd F2 id).isSome = v := ⟨_, rfl⟩
        rw [hv1, hv2] at HF1
        have HV1 := Lib.hid hv1
        have HV2 := Lib.hid hv2
        rw [hn]
        clear hM2 hv1 hv2 hlen hn hFn hp2 hk2 hnm
        go_wp2_with (fail)
        refine HF1.out.mono ?_
        rintro e w2 ⟨rfl, hm2⟩
        have hrf := hm2.rfind (c := c2) HP2.out id (by have := HRN.out; have := HNM.out; omega)
        rw [HV1.out, HV2.out, HRN.out] at hrf
        have HF2 := Lib.hid hrf
        have HM2 := Lib.hid hm2
        obtain ⟨p1, p2⟩ := HCD.out w2 hm2.below
        clear hrf hm2 HF1 q1 q2 HV1 HV2
        go_wp2_with (fail)
        refine HF2.out.mono ?_
        rintro e w3 ⟨rfl, rfl⟩
        have hids := HM2.out.ids (c := c2) HP2.out (by have := HRN.out; have := HNM.out; omega)
        rw [HRN.out] at hids
        have HID := Lib.hid hids
        clear hids HF2 HM2
        go_wp2_with (fail)
        refine HID.out.mono ?_
        rintro e w4 ⟨A4, c4, rfl, hq4⟩
        have HATC := Lib.hid (hq4.at_ at_ HAT.out (by have := HFN.out; have := HNM.out; omega))
        obtain ⟨x, hx⟩ : ∃ v, (atp F2 at_).getD 0 = v := ⟨_, rfl⟩
        obtain ⟨th, hth⟩ : ∃ v, (atp F2 at_).isSome = v := ⟨_, rfl⟩
        rw [hx, hth] at HATC
        have HX := Lib.hid hx
        have HTH := Lib.hid hth
        clear hq4 hx hth HID p1 p2
        go_wp2_with (fail)
        refine HATC.out.mono ?_
        rintro e w5 ⟨rfl, hq5⟩
        have HQ5 := Lib.hid hq5
        clear hq5 HATC
        go_upto_region 16 with (fail)
        go_cut [129] from 18 to 173 (fun s129 wc => s129 = .bool false ∧ Q1 w db T2 F2 A2 r2 A4 wc)
        case first =>
          have hfl := HFN.out
          by_cases hge : 0 ≤ at_
          · have g0 : decide (0 ≤ at_) = true := decide_eq_true hge
            by_cases hlt2 : at_ < (n : Int)
            · have g1 : decide (at_ < (n : Int)) = true := decide_eq_true hlt2
              obtain ⟨j, rfl⟩ : ∃ j : Nat, at_ = (j : Int) := ⟨at_.toNat, by omega⟩
              have hj : j < F2.length := by omega
              have he : atp F2 (j : Int) = some F2[j].1 := by unfold atp; rw [if_pos (by omega), Int.toNat_natCast, List.getElem?_eq_getElem hj]; rfl
              have hxx := HX.out
              have htt := HTH.out
              rw [he] at hxx htt
              obtain rfl : th = true := htt.symm
              obtain ⟨ad, rfl, -, a0⟩ := key_at HQ5.out.2 j hj
              have hx2 : F2[j].1 = x := hxx
              rw [hx2] at a0
              have d0 : (x != x) = false := by simp
              have g2 : decide (j < n) = true := decide_eq_true (by omega)
              clear hx2 hxx htt he HX HTH hge
              go_wp2_with (fail)
              go_meet
              case rel => exact ⟨rfl, HQ5.out⟩
            · have g1 : decide (at_ < (n : Int)) = false := decide_eq_false hlt2
              have htt := HTH.out
              rw [atp_isSome, hfl, g0, g1] at htt
              obtain rfl : th = false := htt.symm
              have hnone : atp F2 at_ = none := by simpa using HTH.out
              have hxx := HX.out
              rw [hnone] at hxx
              obtain rfl : x = 0 := hxx.symm
              clear hxx hnone htt HX HTH
              go_wp2_with (fail)
              go_meet
              case rel => exact ⟨rfl, HQ5.out⟩
          · have g0 : decide (0 ≤ at_) = false := decide_eq_false hge
            have htt := HTH.out
            rw [atp_isSome, g0] at htt
            obtain rfl : th = false := by simpa using htt.symm
            have hnone : atp F2 at_ = none := by simpa using HTH.out
            have hxx := HX.out
            rw [hnone] at hxx
            obtain rfl : x = 0 := hxx.symm
            clear hxx hnone htt HX HTH
            go_wp2_with (fail)
            go_meet
            case rel => exact ⟨rfl, HQ5.out⟩
        case rest =>
          obtain ⟨rfl, hcut⟩ := hcut
          clear HX HTH HQ5 HAT
          have HQ6 := Lib.hid hcut
          obtain ⟨p1, p2⟩ := HCD.out _ hcut.1.below
          obtain ⟨y, hy⟩ : ∃ y, rk F2 id = y := ⟨_, rfl⟩
          have HL : Hid (∀ W, Q1 w db T2 F2 A2 r2 A4 W → Calls Try.prog 15 #[.pointer (some ⟨db, 0, none⟩)] W fun e w' => e = .returned (.int .i64 (n : Int)) ∧ Q1 w db T2 F2 A2 r2 A4 w') := Lib.hid fun W hW => hW.len HFN.out
          have HI : Hid (∀ W, Q1 w db T2 F2 A2 r2 A4 W → Calls Try.prog 17 #[.pointer (some ⟨db, 0, none⟩)] W fun e w' => ∃ A5 c5, e = .returned (.slice A5 n c5) ∧ Q2 w db T2 F2 A2 r2 A4 A5 w') := Lib.hid fun W hW => hW.dids HFN.out HNM.out
          have HSM : Hid (∀ A5 c5 W, Q2 w db T2 F2 A2 r2 A4 A5 W → Calls Try.prog 16 #[.slice A5 n c5, .slice A4 n c4] W fun e w' => e = .returned (.bool true) ∧ Q1 w db T2 F2 A2 r2 A4 w') := Lib.hid fun A5 c5 W hW => hW.same HFN.out HNM.out
          have HRA : Hid (∀ W, Q1 w db T2 F2 A2 r2 A4 W → Calls Try.prog 18 #[.pointer (some ⟨db, 0, none⟩), .int .u64 id] W fun e w' => e = .returned (.int .i64 (y : Int)) ∧ Q1 w db T2 F2 A2 r2 A4 w') := Lib.hid fun W hW => hW.rank hy (by have := HFN.out; have := HNM.out; omega)
          have HRR : Hid (∀ W, Q1 w db T2 F2 A2 r2 A4 W → Calls Try.prog 19 #[.slice A2 n c2, .int .u64 id] W fun e w' => e = .returned (.int .i64 (y : Int)) ∧ Q1 w db T2 F2 A2 r2 A4 w') := Lib.hid fun W hW => hW.rrank HP2.out hy HRN.out HNM.out
          have HCQ : Hid (∀ W, Q1 w db T2 F2 A2 r2 A4 W → W.cell? ⟨rb, ro + k * 3 + 1, none⟩ = some (.int .u64 id)) := Lib.hid fun W hW => (HCD.out W hW.1.below).1
          have HCQ2 : Hid (∀ A5 W, Q2 w db T2 F2 A2 r2 A4 A5 W → W.cell? ⟨rb, ro + k * 3 + 1, none⟩ = some (.int .u64 id)) := Lib.hid fun A5 W hW => (HCD.out W hW.1.1.below).1
          have HE : Hid (∀ W, Q1 w db T2 F2 A2 r2 A4 W → P w db (k + 1) A2 r2 W) := Lib.hid fun W hW => hW.done HP2.out HK2.out
          have d1 : (b != b) = false := by simp
          have d2 : (v1 != v1) = false := by simp
          have d3 : (v2 != v2) = false := by simp
          have d4 : ((n : Int) != (n : Int)) = false := by simp
          have d5 : ((y : Int) != (y : Int)) = false := by simp
          have hq0 := HQ6.out
          clear hy hcut HP2 HK2
          go_wp2_with (fail)
          go_region_held3 (fun W => W.cell? ⟨rb, ro + k * 3 + 1, none⟩ = some (.int .u64 id))
            ((first
              | (refine HCQ.out _ ?_; (repeat' (first | (with_reducible assumption) | (with_reducible refine Q1.drew ?_) | (with_reducible refine Q1.drewN ?_ _))); done)
              | (refine HCQ2.out _ _ ?_; (repeat' (first | (with_reducible assumption) | (with_reducible refine Q2.drew ?_) | (with_reducible refine Q2.drewN ?_ _))); done)))
            (first
              | (go_at_call 15; (with_reducible refine (HL.out _ (by repeat' (first | (with_reducible assumption) | (with_reducible refine Q1.drew ?_) | (with_reducible refine Q1.drewN ?_ _)))).mono ?_); rintro e w5 ⟨rfl, hq5⟩)
              | (go_at_call 17; (with_reducible refine (HI.out _ (by repeat' (first | (with_reducible assumption) | (with_reducible refine Q1.drew ?_) | (with_reducible refine Q1.drewN ?_ _)))).mono ?_); rintro e w6 ⟨A5, c5, rfl, hq6⟩; have hq6' := hq6.1)
              | (go_at_call 16; (with_reducible refine (HSM.out _ _ _ (by repeat' (first | (with_reducible assumption) | (with_reducible refine Q2.drew ?_) | (with_reducible refine Q2.drewN ?_ _)))).mono ?_); rintro e w7 ⟨rfl, hq7⟩)
              | (go_at_call 18; (with_reducible refine (HRA.out _ (by repeat' (first | (with_reducible assumption) | (with_reducible refine Q1.drew ?_) | (with_reducible refine Q1.drewN ?_ _)))).mono ?_); rintro e w8 ⟨rfl, hq8⟩)
              | (go_at_call 19; (with_reducible refine (HRR.out _ (by repeat' (first | (with_reducible assumption) | (with_reducible refine Q1.drew ?_) | (with_reducible refine Q1.drewN ?_ _)))).mono ?_); rintro e w9 ⟨rfl, hq9⟩))
          all_goals
            have HP9 := Lib.hid (HE.out _ hq9)
            go_wp2_with (fail)
            go_roundg (l.length - (k + 1))
            case measure => omega
            case rel => exact ⟨k + 1, c2, A2, r2, rfl, by omega, by go_num, by rw [HRN.out], HP9.out⟩
    · have i1 : ¬ (k : Int) < (l.length : Int) := by omega
      have HB := Lib.hid hp.below
      have HLV := Lib.hid (lives_any w0)
      clear hp
      go_wp2_with (fail)
      refine HLV.out.mono ?_
      rintro e w4 ⟨rfl, hb4⟩
      have HB4 := Lib.hid (HB.out.trans (hb4.mono HB.out.size))
      clear hb4 HLV
      go_wp2_with (fail)
      go_ret
      exact ⟨rfl, HB4.out⟩
theorem lifted (os : Os) (started : os.Started) (H : Type) (enc : TypeId × Value → H) :
    ReturnsInHanded {} Try.checked os 3 .any (Rows.directDoesSpec.pre6 enc Try.prog Try.f3 Rows.directDoesRow.domain false) (Rows.directDoesSpec.post enc Try.prog Try.f3 false true false false) := by
  refine lift (C := Try.checked) (by kernel_rfl) started (by kernel_rfl) Try.func3 rfl (by kernel_rfl) (by kernel_rfl) rfl Try.underlying4
    (fun ds hd => by match ds, hd with | [_, _], _ => exact ⟨rfl, rfl, rfl⟩)
    (ChangeSpec.witness6 (enc := enc) (C := Try.checked) false ⟨#[], #[.slice none 0 0, .int .i64 0], []⟩ 8 (by kernel_rfl) (by kernel_rfl) (by kernel_rfl) (by kernel_rfl)) ?_
  intro W base args ds before hval0 hA0 hfz hsz0
  have hval : ∀ (j : Nat) t v, Try.f3.params[j]? = some t → args[j]? = some v → Value.okWide Try.prog W .any base t v := hval0
  have hA : DataW.TrodAll enc Try.prog W 0 (fun _ => true) true Try.f3.params.toList args.toList ds before := hA0
  have hsz : (DataW.weightsEach Try.prog Try.f3.params.toList ds).all (· ≤ reachBytes) = true := hsz0
  rw [Try.params3] at hA hval hsz
  obtain ⟨v0, vs0, d0, ds0, p0, q0, hargs, rfl, rfl, h0, r0⟩ := trodAll_cons hA
  obtain ⟨v1, vs1, d1, ds1, p1, q1, rfl, rfl, rfl, h1, r1⟩ := trodAll_cons r0
  obtain ⟨rfl, rfl, rfl⟩ := trodAll_nil r1
  obtain rfl : args = #[v0, v1] := by cases args; simp_all
  obtain ⟨A, c, l, rfl, hr, hm⟩ := open_deeds (hval 0 22 v0 rfl rfl) h0 hsz (j := 0) rfl rfl
  obtain ⟨a1, rfl, rfl, rfl, w1⟩ := open_int Try.underlying3 (hval 1 3 v1 rfl rfl) h1
  have hb1 : -9223372036854775808 ≤ a1 ∧ a1 ≤ 9223372036854775807 := by simpa [Lit.wf, IntKind.min, IntKind.max, IntKind.signed, IntKind.bits] using w1
  exact walk A c l a1 hb1 hm W hr

theorem proved : Rows.DirectDoesSaid :=
  OpenClaim.holds_of_wide 3 Try.f3 rfl rfl rfl rfl rfl rfl rfl ⟨rfl, rfl, rfl, rfl, rfl⟩ rfl rfl rfl rfl rfl (by kernel_rfl) Try.func3 (by kernel_rfl)
    (of_decide_eq_true (by kernel_rfl)) (by unfold Func.isWrapper; first | (rw [if_pos (by decide +kernel)]; kernel_rfl) | (rw [if_neg (by decide +kernel)]; exact ⟨rfl, rfl⟩))
    (fun os started H enc _ => lifted os started H enc)
#print axioms proved
end Go.Proofs.Ythcdppfnejfgeaa.directDoes
