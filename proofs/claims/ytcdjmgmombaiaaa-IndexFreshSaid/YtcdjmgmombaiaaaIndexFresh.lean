/-
  For all rows of items and of numbers the law IndexFresh returns true, and changes nothing that there was. No condition.
-/
import Derived.Test.YtcdjmgmombaiaaaIdO
import Derived.Test.YtcdjmgmombaiaaaIdS
namespace Go.Proofs.Ytcdjmgmombaiaaa.indexFresh
open Go.RowKit law bytes only flat ord obj came idx
open aro (Kept zK)
open store (iE iE_len iE_one itemAt rM Lie Fit)
open Go.ChangeShapes Go.WideShapes Go.ChangeAt
set_option linter.unusedVariables false

set_option maxRecDepth 100000 in
set_option maxHeartbeats 6400000 in
theorem walk (A : Option Addr) (c : Nat) (l : List (Int × Kept)) (hl : l.length ≤ 2513169434843) (hw : Wf l) (A2 : Option Addr) (c2 : Nat) (there : List Int) (hl2 : there.length ≤ 17592186044416) (w : World) (hr : Sl w w.heap.size A (l.flatMap iE)) (hli : Lie w w.heap.size l) (hr2 : Sl w w.heap.size A2 (us there)) :
    Calls Try.prog 3 #[.slice A l.length c, .slice A2 there.length c2] w fun e w' => e = .returned (.bool true) ∧ Below w.heap.size w w' := by
  obtain ⟨V, hV⟩ : ∃ V, V = w.alloc (.cells #[.slice A2 there.length c2] 23) := ⟨_, rfl⟩
  have hbV : Below w.heap.size w V := by rw [hV]; exact (Below.refl _ _).alloc (Nat.le_refl _) _
  have hVs : V.heap.size = w.heap.size + 1 := by rw [hV]; simp
  have hVk : Blk V w.heap.size 23 #[.slice A2 there.length c2] := by rw [hV]; exact Blk.new w _ _
  obtain ⟨F, hF⟩ : ∃ F, F = Value.func (.func 4) #[] #[.pointer (some ⟨w.heap.size, 0, none⟩)] := ⟨_, rfl⟩
  have hH : Has F V.heap.size (Jq w.heap.size V.heap.size A2 c2 there) (isin there) := by rw [hF]; exact has_there w.heap.size V.heap.size A2 c2 there (by omega) hl2
  have HJ : Hid (∀ W, Below V.heap.size V W → Jq w.heap.size V.heap.size A2 c2 there W ∧ Sl W w.heap.size A (l.flatMap iE) ∧ Sl W w.heap.size A2 (us there) ∧ Below w.heap.size w W) := Lib.hid fun W hW =>
    have h1 := hbV.trans (hW.mono (by omega))
    ⟨⟨hVk.below hW (by omega), (hr2.below h1).more (by omega)⟩, hr.below h1, hr2.below h1, h1⟩
  obtain ⟨N, hN⟩ : ∃ N, N = fr (isin there) (ids l) := ⟨_, rfl⟩
  obtain ⟨E, hE⟩ : ∃ E, E = fe (isin there) (ids l) := ⟨_, rfl⟩
  have HF : Hid (∀ W, Below V.heap.size V W → Calls Try.prog 6 #[.slice A l.length c, F] W fun e w' => e = .returned (.tuple #[.int .i64 N, .int .i64 E]) ∧ Below V.heap.size V w') := Lib.hid fun W hW => by
    obtain ⟨h1, h2, h3, h4⟩ := HJ.out W hW
    rw [hN, hE]
    exact (fresh_any hH A c w.heap.size l W h1 hW.size (by have := hW.size; omega) h2 hw (by omega)).mono fun e w' ⟨he, hb⟩ => ⟨he, hW.trans (hb.mono hW.size)⟩
  have HRF : Hid (∀ W, Below V.heap.size V W → Calls Try.prog 7 #[.slice A l.length c, .slice A2 there.length c2] W fun e w' => e = .returned (.tuple #[.int .i64 N, .int .i64 E]) ∧ Below V.heap.size V w') := Lib.hid fun W hW => by
    obtain ⟨h1, h2, h3, h4⟩ := HJ.out W hW
    rw [hN, hE]
    exact (rfresh_any A A2 c c2 w.heap.size w.heap.size l there W (by have := hW.size; omega) h2 (by have := hW.size; omega) h3 (by omega) hl2).mono fun e w' ⟨he, hb⟩ => ⟨he, hW.trans (hb.mono hW.size)⟩
  have HIN : Hid (∀ W0 W id, Below V.heap.size V W0 → Below W0.heap.size W0 W → Calls Try.prog 5 #[.slice A2 there.length c2, .int .u64 id] W fun e w' => e = .returned (.bool (isin there id)) ∧ Below W0.heap.size W0 w') := Lib.hid fun W0 W id h0 hW => by
    have h5 := h0.trans (hW.mono h0.size)
    obtain ⟨h1, h2, h3, h4⟩ := HJ.out W h5
    exact (in_any A2 c2 w.heap.size there id W h3 hl2).mono fun e w' ⟨he, hb⟩ => ⟨he, hb ▸ hW⟩
  have HMI : Hid (∀ W, Below V.heap.size V W → Calls Try.prog 9 #[.slice A l.length c, F] W (Nums W (ms (isin there) (ids l)))) := Lib.hid fun W hW => by
    obtain ⟨h1, h2, h3, h4⟩ := HJ.out W hW
    exact missing_any hH A c w.heap.size l W h1 hW.size (by have := hW.size; omega) h2 (by omega)
  have HBY : Hid (∀ W, Below V.heap.size V W → Calls Try.prog 11 #[.slice A l.length c] W (Risen W l)) := Lib.hid fun W hW => by
    obtain ⟨h1, h2, h3, h4⟩ := HJ.out W hW
    exact byId_any A c w.heap.size l W (by have := hW.size; omega) h2 (fun p hp => ⟨(hli p hp).1.below h4, (hli p hp).2⟩) (by omega)
  have HRI : Hid (∀ W W' A5 c5 r, Below V.heap.size V W → Below W.heap.size W W' → W'.ownsRow W.heap.size 36 4 (.slice A5 r.length c5) r.length (r.flatMap iE) → stb.Stb Prod.fst (rM l) (rM r) → Ow W.heap.size W' r →
      Calls Try.prog 10 #[.slice A5 r.length c5, .slice A l.length c] W' fun e w' => e = .returned (.bool true) ∧ Below V.heap.size V w') := Lib.hid fun W W' A5 c5 r hW hW' ho hst how => by
    have h5 := hW.trans (hW'.mono hW.size)
    obtain ⟨h1, h2, h3, h4⟩ := HJ.out W' h5
    have hz : w.heap.size ≤ W'.heap.size := h4.size
    refine (rising_any A A5 c c5 l r W' (h2.more hz) (fun p hp => ⟨((hli p hp).1.below h4).more hz, (hli p hp).2⟩) (Sl.of_ownK ho) (fun p hp => ⟨Sl.of_own (how p hp), ?_⟩) hst hl).mono fun e w' ⟨he, hb⟩ => ⟨he, h5.trans (hb.mono h5.size)⟩
    have hm : (p.1, p.2.x) ∈ rM l := (hst.eqf.mem _).2 (List.mem_map.2 ⟨p, hp, rfl⟩)
    obtain ⟨p', hp', e⟩ := List.mem_map.1 hm
    have e2 : p'.2.x = p.2.x := congrArg Prod.snd e
    rw [← e2]
    exact (hli p' hp').2
  have HLV : Hid (∀ W, Below V.heap.size V W → Calls Try.prog 12 #[] W fun e w' => e = .returned (.bool true) ∧ Below V.heap.size V w') := Lib.hid fun W hW => (lives_any W).mono fun e w' ⟨he, hb⟩ => ⟨he, hW.trans (hb.mono hW.size)⟩
  have HCE : Hid (∀ W, Below V.heap.size V W → W.cell? ⟨w.heap.size, 0, none⟩ = some (.slice A2 there.length c2)) := Lib.hid fun W hW => (hVk.below hW (by omega)).cell 0
  have HAT : Hid (∀ W k, Below V.heap.size V W → (hk : k < l.length) → ∃ b o, A = some ⟨b, o, none⟩ ∧ W.cell? ⟨b, o + k * 4, none⟩ = some (.int .u64 l[k].1)) := Lib.hid fun W k hW hk => by
    obtain ⟨h1, h2, h3, h4⟩ := HJ.out W hW
    obtain ⟨b, o, e, -, d0, -⟩ := itemAt h2 hk
    exact ⟨b, o, e, d0⟩
  have HVV := Lib.hid (And.intro hV (And.intro hbV (And.intro hVs hF)))
  clear hr hli hr2 hbV hVs hVk hH hw hV HJ hN hE
  subst hF
  have hmf : ∀ (fn : Fn) (first cap : Array Value) (w : World), (Instr.makeFunc fn first cap).run Try.prog w = .ok (.func fn first cap) w := fun _ _ _ _ => rfl
  go_enter Try.func3, Try.ntmps3
  go_wp2_with (fail)
  rw [← HVV.out.1]
  refine (HF.out V (Below.refl _ _)).mono ?_
  rintro e w1 ⟨rfl, hb1⟩
  have e1 := HCE.out w1 hb1
  have HC1 := Lib.hid (HRF.out w1 hb1)
  clear HF HRF hb1
  go_wp2_with (fail)
  refine HC1.out.mono ?_
  rintro e w2 ⟨rfl, hb2⟩
  have HB2 := Lib.hid hb2
  have HR0 : Hid (w2.ownsRow V.heap.size 24 1 (.slice none 0 0) 0 (us (ms (isin there) ((ids l).take 0)))) := Lib.hid (World.ownsRow_nil _ _ _ _)
  clear HC1 hb2 e1
  go_wp2_with (fail)
  go_loopg [10, 11] l.length (fun gk s10 s11 wr => ∃ (k m c' : Nat) (A' : Option Addr), gk = l.length - k ∧ k ≤ l.length ∧ s11 = .int .i64 k ∧ s10 = .slice A' m c' ∧ m = (ms (isin there) ((ids l).take k)).length ∧ wr.ownsRow V.heap.size 24 1 (.slice A' m c') m (us (ms (isin there) ((ids l).take k))) ∧ Below V.heap.size V wr)
  case atStart => exact ⟨0, 0, 0, none, rfl, Nat.zero_le _, rfl, rfl, rfl, HR0.out, HB2.out⟩
  case round =>
    clear HR0 HB2
    obtain ⟨k, m, c', A', rfl, hk, rfl, rfl, hm, hown, hb⟩ := hrel
    by_cases hlt : k < l.length
    · have i1 : (k : Int) < (l.length : Int) := by omega
      have hmk : m ≤ k := by
        rw [hm]
        refine Nat.le_trans ms_le ?_
        simp
        omega
      obtain ⟨b, o, rfl, d0⟩ := HAT.out wr k hb hlt
      have hx := ms_snoc (p := isin there) (ids_at hlt)
      obtain ⟨id, hid⟩ : ∃ id, l[k].1 = id := ⟨_, rfl⟩
      have HS : Hid (∀ W, Below wr.heap.size wr W → W.cell? ⟨w.heap.size, 0, none⟩ = some (.slice A2 there.length c2) ∧ W.cell? ⟨b, o + k * 4, none⟩ = some (.int .u64 id)) := Lib.hid fun W hW => by
        have h5 := hb.trans (hW.mono hb.size)
        obtain ⟨b', o', e, h6⟩ := HAT.out W k h5 hlt
        injection e with e
        injection e with e1 e2
        subst e1 e2
        rw [hid] at h6
        exact ⟨HCE.out W h5, h6⟩
      rw [hid] at d0 hx
      have HCC : Hid (∀ W, Below wr.heap.size wr W → Calls Try.prog 5 #[.slice A2 there.length c2, .int .u64 id] W fun e w' => e = .returned (.bool (isin there id)) ∧ Below wr.heap.size wr w') := Lib.hid fun W hW => HIN.out wr W id hb hW
      have hce := HCE.out wr hb
      obtain ⟨r, hp⟩ : ∃ r, isin there id = r := ⟨_, rfl⟩
      rw [hp] at HCC hx
      have HX := Lib.hid (And.intro hx hm)
      have HO := Lib.hid hown
      have HB := Lib.hid hb
      clear hx hm hown hb hid hp
      go_wp2_with (fail)
      go_region_held3 (fun W => W.cell? ⟨w.heap.size, 0, none⟩ = some (.slice A2 there.length c2) ∧ W.cell? ⟨b, o + k * 4, none⟩ = some (.int .u64 id))
        ((refine HS.out _ ?_; repeat' (first | (with_reducible exact Below.refl _ _) | (with_reducible assumption) | (with_reducible refine Below.drew ?_) | (with_reducible refine below_drewN' ?_ _))))
        (first
          | (go_at_call 5; (with_reducible refine (HCC.out _ (by repeat' (first | (with_reducible exact Below.refl _ _) | (with_reducible assumption) | (with_reducible refine Below.drew ?_) | (with_reducible refine below_drewN' ?_ _)))).mono ?_); rintro e w3 ⟨rfl, hb3⟩))
      have hown3 := own_below HO.out hb3 (Nat.le_refl _)
      have hb4 : Below V.heap.size V w3 := HB.out.trans (hb3.mono HB.out.size)
      have hs4 := hb4.size
      obtain ⟨-, d3⟩ := HS.out w3 hb3
      clear hb3 HO HB HCC HS hce
      cases r with
      | true =>
        have hmm : ms (isin there) ((ids l).take (k + 1)) = ms (isin there) ((ids l).take k) := by simpa using HX.out.1
        have HE : Hid (m = (ms (isin there) ((ids l).take (k + 1))).length ∧ w3.ownsRow V.heap.size 24 1 (.slice A' m c') m (us (ms (isin there) ((ids l).take (k + 1)))) ∧ Below V.heap.size V w3) := Lib.hid (by rw [hmm]; exact ⟨HX.out.2, hown3, hb4⟩)
        clear hmm hown3 hb4 hs4
        go_wp2_with (fail)
        go_roundg (l.length - (k + 1))
        case measure => omega
        case rel => exact ⟨k + 1, m, c', A', rfl, by omega, by go_num, rfl, HE.out.1, HE.out.2.1, HE.out.2.2⟩
      | false =>
        have hmm : ms (isin there) ((ids l).take (k + 1)) = ms (isin there) ((ids l).take k) ++ [id] := by simpa using HX.out.1
        have HM := Lib.hid hmm
        clear hmm
        go_wp2_with (at_builtin
                     refine wpList_append_sl _ rfl (.tmp 39) (.tmp 45) _ rfl V.heap.size 24 _ 8 Try.underlying23 u64E (.slice A' m c') m (us (ms (isin there) ((ids l).take k))) rfl (World.ownsRow.alloc (w := w3) hown3 _) _ _ 1 1 [.int .u64 id] rfl (Sl.one w3 _ _) rfl (us_one [id]) (by omega) (by unfold maxLen; omega) (by simp; omega) ?_
                     intro v4 w4 hown4 hg4 hat4
                     have hb5 := below_append hb4 hs4 _ hown3 (Nat.le_refl _) hg4
                     obtain ⟨A4, c4, rfl, hc4⟩ := own_slice hown4)
        have HE : Hid (m + 1 = (ms (isin there) ((ids l).take (k + 1))).length ∧ w4.ownsRow V.heap.size 24 1 (.slice A4 (m + 1) c4) (m + 1) (us (ms (isin there) ((ids l).take (k + 1)))) ∧ Below V.heap.size V w4) := Lib.hid (by
          rw [HM.out]
          refine ⟨by rw [List.length_append, ← HX.out.2]; rfl, ?_, hb5⟩
          have := hown4
          unfold us at this ⊢
          rw [List.map_append]
          exact this)
        clear hown3 hb4 hs4 hown4 hg4 hat4 hb5
        go_wp2_with (fail)
        go_roundg (l.length - (k + 1))
        case measure => omega
        case rel => exact ⟨k + 1, m + 1, c4, A4, rfl, by omega, by go_num, rfl, HE.out.1, HE.out.2.1, HE.out.2.2⟩
    · obtain rfl : k = l.length := by omega
      have i1 : ¬ (l.length : Int) < (l.length : Int) := by omega
      rw [← ids_length l, List.take_length] at hm hown
      have n1 : ((N : Int) == (N : Int)) = true := by simp
      have n2 : (N == N) = true := by simp
      have n3 : (E == E) = true := by simp
      have HC3 := Lib.hid (HMI.out wr hb)
      have HSA : Hid (∀ W A6 c6, Below wr.heap.size wr W → W.ownsRow wr.heap.size 24 1 (.slice A6 (ms (isin there) (ids l)).length c6) (ms (isin there) (ids l)).length (us (ms (isin there) (ids l))) → Calls Try.prog 8 #[.slice A6 (ms (isin there) (ids l)).length c6, .slice A' m c'] W fun e w' => e = .returned (.bool true) ∧ Below V.heap.size V w') := Lib.hid fun W A6 c6 hW ho => by
        have h5 := hb.trans (hW.mono hb.size)
        have h6 := own_below hown hW (Nat.le_refl _)
        subst hm
        exact (rsameU_any A6 A' c6 c' W.heap.size W.heap.size (ms (isin there) (ids l)) W (Nat.le_refl _) (Sl.of_own ho) (Nat.le_refl _) (Sl.of_own h6) (by have := ms_le (p := isin there) (l := ids l); rw [ids_length] at this; omega)).mono fun e w' ⟨he, hb'⟩ => ⟨he, h5.trans (hb'.mono h5.size)⟩
      have HB := Lib.hid hb
      clear hm hown hb HMI
      generalize ms (isin there) (ids l) = q at HC3 HSA
      go_wp2_with (fail)
      refine HC3.out.mono ?_
      rintro e w3 ⟨A6, c6, rfl, ho6, hb6⟩
      have HC4 := Lib.hid (HSA.out w3 A6 c6 hb6 ho6)
      clear ho6 hb6 HC3 HSA
      go_wp2_with (fail)
      refine HC4.out.mono ?_
      rintro e w4 ⟨rfl, hb4⟩
      have HC5 := Lib.hid (HBY.out w4 hb4)
      have HB4 := Lib.hid hb4
      clear hb4 HC4 HBY
      go_wp2_with (fail)
      refine HC5.out.mono ?_
      rintro e w5 ⟨A5, c5, r, rfl, ho5, hst5, how5, hb5⟩
      have HC6 := Lib.hid (HRI.out w4 w5 A5 c5 r HB4.out hb5 ho5 hst5 how5)
      clear ho5 hst5 how5 hb5 HC5 HRI
      go_wp2_with (fail)
      refine HC6.out.mono ?_
      rintro e w6 ⟨rfl, hb6⟩
      have HC7 := Lib.hid (HLV.out w6 hb6)
      clear hb6 HC6
      go_wp2_with (fail)
      refine HC7.out.mono ?_
      rintro e w7 ⟨rfl, hb7⟩
      have HE : Hid (Below w.heap.size w w7) := Lib.hid (HVV.out.2.1.trans (hb7.mono (by have := HVV.out.2.2.1; omega)))
      clear hb7 HC7
      go_wp2_with (fail)
      go_ret
      exact ⟨rfl, HE.out⟩
theorem lifted (os : Os) (started : os.Started) (H : Type) (enc : TypeId × Value → H) :
    ReturnsInHanded {} Try.checked os 3 .any (Rows.indexFreshSpec.pre6 enc Try.prog Try.f3 Rows.indexFreshRow.domain false) (Rows.indexFreshSpec.post enc Try.prog Try.f3 false true false false) := by
  refine lift (C := Try.checked) (by kernel_rfl) started (by kernel_rfl) Try.func3 rfl (by kernel_rfl) (by kernel_rfl) rfl Try.underlying4
    (fun ds hd => by match ds, hd with | [_, _], _ => exact ⟨rfl, rfl, rfl⟩)
    (ChangeSpec.witness6 (enc := enc) (C := Try.checked) false ⟨#[], #[.slice none 0 0, .slice none 0 0], []⟩ 8 (by kernel_rfl) (by kernel_rfl) (by kernel_rfl) (by kernel_rfl)) ?_
  intro W base args ds before hval0 hA0 hfz hsz0
  have hval : ∀ (j : Nat) t v, Try.f3.params[j]? = some t → args[j]? = some v → Value.okWide Try.prog W .any base t v := hval0
  have hA : DataW.TrodAll enc Try.prog W 0 (fun _ => true) true Try.f3.params.toList args.toList ds before := hA0
  have hsz : (DataW.weightsEach Try.prog Try.f3.params.toList ds).all (· ≤ reachBytes) = true := hsz0
  rw [Try.params3] at hA hval hsz
  obtain ⟨v0, vs0, d0, ds0, p0, q0, hargs, rfl, rfl, h0, r0⟩ := trodAll_cons hA
  obtain ⟨v1, vs1, d1, ds1, p1, q1, rfl, rfl, rfl, h1, r1⟩ := trodAll_cons r0
  obtain ⟨rfl, rfl, rfl⟩ := trodAll_nil r1
  obtain rfl : args = #[v0, v1] := by cases args; simp_all
  obtain ⟨A, c, l, rfl, hr, hli, hw, hm⟩ := open_itemsW (hval 0 22 v0 rfl rfl) h0 hsz (j := 0) rfl rfl
  obtain ⟨A2, c2, there, rfl, hr2, hm2⟩ := open_u64s (hval 1 23 v1 rfl rfl) h1 hsz (j := 1) rfl rfl
  exact walk A c l (by omega) hw A2 c2 there (by omega) W (flat.Came.sl hr (by decide) iE_len) hli hr2

theorem proved : Rows.IndexFreshSaid :=
  OpenClaim.holds_of_wide 3 Try.f3 rfl rfl rfl rfl rfl rfl rfl ⟨rfl, rfl, rfl, rfl, rfl⟩ rfl rfl rfl rfl rfl (by kernel_rfl) Try.func3 (by kernel_rfl)
    (of_decide_eq_true (by kernel_rfl)) (by unfold Func.isWrapper; first | (rw [if_pos (by decide +kernel)]; kernel_rfl) | (rw [if_neg (by decide +kernel)]; exact ⟨rfl, rfl⟩))
    (fun os started H enc _ => lifted os started H enc)
#print axioms proved
end Go.Proofs.Ytcdjmgmombaiaaa.indexFresh
