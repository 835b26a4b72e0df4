/-
  For all numbers and all deeds the law ArenaStays returns true, and changes nothing that there was. No condition.
-/
import Derived.Test.YteiggpdondbhoaaArD
namespace Go.Proofs.Yteiggpdondbhoaa.arenaStays
open Go.RowKit law bytes only flat arena came
open Go.ChangeShapes Go.WideShapes Go.Deep Go.ChangeAt
set_option linter.unusedVariables false

set_option maxRecDepth 100000 in
set_option maxHeartbeats 6400000 in
theorem walk (x : Int) (A0 : Option Addr) (c0 : Nat) (l : List (Int × Int × Int)) (hl : l.length * 24 ≤ 140737488355328) (w : World) (hr : Came 3 dC w A0 l) :
    Calls Try.prog 4 #[.int .i64 x, .slice A0 l.length c0] w fun e w' => e = .returned (.bool true) ∧ Below w.heap.size w w' := by
  have HR := Lib.hid hr
  have HN := Lib.hid (new_ar w)
  clear hr
  go_enter Try.func4, Try.ntmps4
  go_wp2_with (fail)
  refine HN.out.mono ?_
  rintro e w1 ⟨ab, T, rfl, hb1, h1⟩
  have HP := Lib.hid (Q.start h1 hb1 x)
  clear hb1 h1 HN
  go_wp2_with (fail)
  refine HP.out.mono ?_
  rintro e w2 ⟨rfl, hq⟩
  have HQ := Lib.hid hq
  clear hq HP
  go_wp2_with (fail)
  go_loopg [7, 8, 9] l.length (fun gk s7 s8 s9 wr => ∃ k : Nat, gk = l.length - k ∧ k ≤ l.length ∧ s7 = .int .i64 k ∧ Q w ab 0 x k wr)
  case atStart => exact ⟨0, rfl, Nat.zero_le _, rfl, HQ.out⟩
  case round =>
    clear HQ
    obtain ⟨k, rfl, hk, rfl, hq⟩ := hrel
    by_cases hlt : k < l.length
    · obtain ⟨rb, ro, rfl, hrb⟩ := HR.out.row (by decide) dC_len (by omega)
      have hat := HR.out.at_ k hlt
      obtain ⟨⟨kd, sl, xv⟩, hx⟩ : ∃ x, l[k] = x := ⟨_, rfl⟩
      rw [hx] at hat
      have HC : Hid (∀ W : World, Below w.heap.size w W → W.cell? ⟨rb, ro + k * 3, none⟩ = some (.int .i64 kd) ∧ W.cell? ⟨rb, ro + k * 3 + 1, none⟩ = some (.int .i64 sl) ∧ W.cell? ⟨rb, ro + k * 3 + 2, none⟩ = some (.int .i64 xv)) := Lib.hid fun W hW =>
        ⟨(hW.cell (p := ⟨rb, ro + k * 3, none⟩) hrb).trans (hat 0 (by decide)), (hW.cell (p := ⟨rb, ro + k * 3 + 1, none⟩) hrb).trans (hat 1 (by decide)), (hW.cell (p := ⟨rb, ro + k * 3 + 2, none⟩) hrb).trans (hat 2 (by decide))⟩
      obtain ⟨q0, q1, q2⟩ := HC.out wr hq.below
      have i1 : (k : Int) < (l.length : Int) := by omega
      have d1 : (x == x) = true := by simp
      have d2 : (x != x) = false := by simp
      have HQ := Lib.hid hq
      clear hat hx
      by_cases hk0 : kd = 0
      · have z0 : (kd == 0) = true := by rw [hk0]; rfl
        have HP := Lib.hid (HQ.out.put xv (by omega))
        clear hk0 hq
        go_wp2_with (fail)
        refine HP.out.mono ?_
        rintro e w3 ⟨s, rfl, hs, hq3⟩
        have z1 : ((s : Int) == 0) = false := by rw [beq_eq_false_iff_ne]; omega
        have z2 : ¬ (s : Int) = 0 := by omega
        have HQ3 := Lib.hid hq3
        clear hs hq3 HP HQ
        have HGHQ3 := Lib.hid (HQ3.out.get)
        go_wp2_with (fail)
        refine HGHQ3.out.mono ?_
        rintro e w5 ⟨rfl, rfl⟩
        clear HGHQ3
        go_wp2_with (fail)
        go_roundg (l.length - (k + 1))
        case measure => omega
        case rel => exact ⟨k + 1, rfl, by omega, by go_num, HQ3.out⟩
      · have z0 : (kd == 0) = false := by rw [beq_eq_false_iff_ne]; exact hk0
        by_cases hk1 : kd = 1
        · have z1 : (kd == 1) = true := by rw [hk1]; rfl
          by_cases hsl : sl = 0
          · have z2 : (sl != 0) = false := by rw [hsl]; rfl
            have HQ3 := Lib.hid hq.more
            clear hk0 hk1 hsl hq
            have HGHQ3 := Lib.hid (HQ3.out.get)
            go_wp2_with (fail)
            refine HGHQ3.out.mono ?_
            rintro e w5 ⟨rfl, rfl⟩
            clear HGHQ3
            go_wp2_with (fail)
            go_roundg (l.length - (k + 1))
            case measure => omega
            case rel => exact ⟨k + 1, rfl, by omega, by go_num, HQ3.out⟩
          · have z2 : (sl != 0) = true := by simpa using hsl
            have HP := Lib.hid (HQ.out.cut sl (by simpa using hsl) (by omega))
            clear hk0 hk1 hsl hq
            go_wp2_with (fail)
            refine HP.out.mono ?_
            rintro e w3 ⟨b, rfl, hq3⟩
            have HQ3 := Lib.hid hq3
            clear hq3 HP HQ
            have HGHQ3 := Lib.hid (HQ3.out.get)
            go_wp2_with (fail)
            refine HGHQ3.out.mono ?_
            rintro e w5 ⟨rfl, rfl⟩
            clear HGHQ3
            go_wp2_with (fail)
            go_roundg (l.length - (k + 1))
            case measure => omega
            case rel => exact ⟨k + 1, rfl, by omega, by go_num, HQ3.out⟩
        · have z1 : (kd == 1) = false := by rw [beq_eq_false_iff_ne]; exact hk1
          by_cases hsl : sl = 0
          · have z2 : (sl != 0) = false := by rw [hsl]; rfl
            have HQ3 := Lib.hid hq.more
            clear hk0 hk1 hsl hq
            have HGHQ3 := Lib.hid (HQ3.out.get)
            go_wp2_with (fail)
            refine HGHQ3.out.mono ?_
            rintro e w5 ⟨rfl, rfl⟩
            clear HGHQ3
            go_wp2_with (fail)
            go_roundg (l.length - (k + 1))
            case measure => omega
            case rel => exact ⟨k + 1, rfl, by omega, by go_num, HQ3.out⟩
          · have z2 : (sl != 0) = true := by simpa using hsl
            have HP : Hid (∀ W, Below wr.heap.size wr W → Calls Try.prog 11 #[.pointer (some ⟨ab, 0, none⟩), .int .i64 sl, .int .i64 xv] W fun e w' => ∃ b : Bool, e = .returned (.bool b) ∧ Q w ab 0 x (k + 1) w') := Lib.hid fun W hW =>
              (HQ.out.on hW).set sl xv (by simpa using hsl)
            have HS : Hid (∀ W, Below wr.heap.size wr W → W.cell? ⟨rb, ro + k * 3 + 1, none⟩ = some (.int .i64 sl) ∧ W.cell? ⟨rb, ro + k * 3 + 2, none⟩ = some (.int .i64 xv)) := Lib.hid fun W hW => (HC.out W (hq.below.trans (hW.mono hq.below.size))).2
            clear hk0 hk1 hsl hq
            go_wp2_with (fail)
            go_region_held3 (fun W => W.cell? ⟨rb, ro + k * 3 + 1, none⟩ = some (.int .i64 sl) ∧ W.cell? ⟨rb, ro + k * 3 + 2, none⟩ = some (.int .i64 xv)) ((first
              | (refine HS.out _ ?_; (repeat' (first | (with_reducible exact Below.refl _ _) | (with_reducible assumption) | (with_reducible refine Below.drew ?_) | (with_reducible refine below_drewN' ?_ _))); done)
              | (refine (HC.out _ ?_).2; (repeat' (first | (with_reducible assumption) | (with_reducible refine Below.drew ?_) | (with_reducible refine below_drewN' ?_ _))); done)))
              (first
                | (go_at_call 11; (with_reducible refine (HP.out _ (by repeat' (first | (with_reducible exact Below.refl _ _) | (with_reducible assumption) | (with_reducible refine Below.drew ?_) | (with_reducible refine below_drewN' ?_ _)))).mono ?_); rintro e w3 ⟨b, rfl, hq3⟩; have hq3b := hq3.below))
            have HQ3 := Lib.hid hq3
            clear hq3 HP HQ HS
            have HGHQ3 := Lib.hid (HQ3.out.get)
            go_wp2_with (fail)
            refine HGHQ3.out.mono ?_
            rintro e w5 ⟨rfl, rfl⟩
            clear HGHQ3
            go_wp2_with (fail)
            go_roundg (l.length - (k + 1))
            case measure => omega
            case rel => exact ⟨k + 1, rfl, by omega, by go_num, HQ3.out⟩
    · have i1 : ¬ (k : Int) < (l.length : Int) := by omega
      have HB := Lib.hid hq.below
      have HLV := Lib.hid (lives_any wr)
      clear hq
      go_wp2_with (fail)
      refine HLV.out.mono ?_
      rintro e w4 ⟨rfl, hb4⟩
      have HB4 := Lib.hid (HB.out.trans (hb4.mono HB.out.size))
      clear hb4 HLV
      go_wp2_with (fail)
      go_ret
      exact ⟨rfl, HB4.out⟩
theorem lifted (os : Os) (started : os.Started) (H : Type) (enc : TypeId × Value → H) :
    ReturnsInHanded {} Try.checked os 4 .any (Rows.arenaStaysSpec.pre6 enc Try.prog Try.f4 Rows.arenaStaysRow.domain false) (Rows.arenaStaysSpec.post enc Try.prog Try.f4 false true false false) := by
  refine lift (C := Try.checked) (by kernel_rfl) started (by kernel_rfl) Try.func4 rfl (by kernel_rfl) (by kernel_rfl) rfl Try.underlying4
    (fun ds hd => by match ds, hd with | [_, _], _ => exact ⟨rfl, rfl, rfl⟩)
    (ChangeSpec.witness6 (enc := enc) (C := Try.checked) false ⟨#[], #[.int .i64 0, .slice none 0 0], []⟩ 8 (by kernel_rfl) (by kernel_rfl) (by kernel_rfl) (by kernel_rfl)) ?_
  intro W base args ds before hval0 hA0 hfz hsz0
  have hval : ∀ (j : Nat) t v, Try.f4.params[j]? = some t → args[j]? = some v → Value.okWide Try.prog W .any base t v := hval0
  have hA : DataW.TrodAll enc Try.prog W 0 (fun _ => true) true Try.f4.params.toList args.toList ds before := hA0
  have hsz : (DataW.weightsEach Try.prog Try.f4.params.toList ds).all (· ≤ reachBytes) = true := hsz0
  rw [Try.params4] at hA hval hsz
  obtain ⟨v0, vs0, d0, ds0, p0, q0, hargs, rfl, rfl, h0, r0⟩ := trodAll_cons hA
  obtain ⟨v1, vs1, d1, ds1, p1, q1, rfl, rfl, rfl, h1, r1⟩ := trodAll_cons r0
  obtain ⟨rfl, rfl, rfl⟩ := trodAll_nil r1
  obtain rfl : args = #[v0, v1] := by cases args; simp_all
  obtain ⟨x, rfl, rfl, rfl, w0⟩ := open_int Try.underlying3 (hval 0 3 v0 rfl rfl) h0
  obtain ⟨A, c, l, rfl, hr, hm⟩ := open_deeds (hval 1 22 v1 rfl rfl) h1 hsz (j := 1) rfl rfl
  exact walk x A c l hm W hr

theorem proved : Rows.ArenaStaysSaid :=
  OpenClaim.holds_of_wide 4 Try.f4 rfl rfl rfl rfl rfl rfl rfl ⟨rfl, rfl, rfl, rfl, rfl⟩ rfl rfl rfl rfl rfl (by kernel_rfl) Try.func4 (by kernel_rfl)
    (of_decide_eq_true (by kernel_rfl)) (by unfold Func.isWrapper; first | (rw [if_pos (by decide +kernel)]; kernel_rfl) | (rw [if_neg (by decide +kernel)]; exact ⟨rfl, rfl⟩))
    (fun os started H enc _ => lifted os started H enc)
#print axioms proved
end Go.Proofs.Yteiggpdondbhoaa.arenaStays
