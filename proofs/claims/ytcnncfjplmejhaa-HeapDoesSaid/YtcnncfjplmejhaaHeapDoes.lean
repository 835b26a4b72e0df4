/-
  For all deeds the law HeapDoes returns true, and changes nothing that there was. No condition.
-/
import Derived.Test.YtcnncfjplmejhaaHDoesM
import Derived.Deep.Cut
import Derived.Deep.CutRange
namespace Go.Proofs.Ytcnncfjplmejhaa.heapDoes
open Go.RowKit law bytes only heapM heap put came Go.Sort Go.Shelf
open Go.ChangeShapes Go.WideShapes Go.Deep Go.ChangeAt
set_option linter.unusedVariables false

set_option maxRecDepth 100000 in
set_option maxHeartbeats 6400000 in
theorem walk (A0 : Option Addr) (c0 : Nat) (l : List (Bool × Int)) (hl : l.length * 16 ≤ 140737488355328) (w : World) (hr : Came 2 dC w A0 l) :
    Calls Try.prog 3 #[.slice A0 l.length c0] w fun e w' => e = .returned (.bool true) ∧ Below w.heap.size w w' := by
  have HR := Lib.hid hr
  clear hr
  go_enter Try.func3, Try.ntmps3
  go_wp2_with (fail)
  refine (new_int 7 w.heap.size w (Nat.le_refl _)).mono ?_
  rintro e w1 ⟨rfl, hb1, hp1⟩
  have HS1 : Hid (St w w1 (.slice none 0 0) #[] none []) := Lib.hid ⟨hp1, heap_empty, hb1, List.Pairwise.nil, List.Perm.refl _, Rr.nil⟩
  clear hb1 hp1
  go_wp2_with (fail)
  go_loopg [4, 5, 6, 7, 8, 9] l.length (fun gk s4 s5 s6 s7 s8 s9 wr => ∃ k : Nat, k ≤ l.length ∧ gk = l.length - k ∧ s5 = .int .i64 k ∧ Got w k s4 wr)
  case atStart => exact ⟨0, Nat.zero_le _, rfl, rfl, .slice none 0 0, #[], none, 0, [], rfl, Nat.le_refl _, Nat.le_refl _, HS1.out⟩
  case round =>
    clear HS1
    obtain ⟨k, hk, rfl, rfl, v, d, A, c, xs, rfl, hdc, hdk, hst⟩ := hrel
    by_cases hlt : k < l.length
    · obtain ⟨rb, ro, rfl, hrb⟩ := HR.out.row (by decide) dC_len (by omega)
      have hat := HR.out.at_ k hlt
      obtain ⟨⟨b, n⟩, hx⟩ : ∃ x, l[k] = x := ⟨_, rfl⟩
      rw [hx] at hat
      have p0 : wr.cell? ⟨rb, ro + k * 2, none⟩ = some (.bool b) := (hst.below.cell (p := ⟨rb, ro + k * 2, none⟩) hrb).trans (hat 0 (by decide))
      have HQ : Hid (∀ W : World, Below w.heap.size w W → W.cell? ⟨rb, ro + k * 2 + 1, none⟩ = some (.int .i64 n)) := Lib.hid fun W hW => (hW.cell (p := ⟨rb, ro + k * 2 + 1, none⟩) hrb).trans (hat 1 (by decide))
      have i1 : (k : Int) < (l.length : Int) := by omega
      have HST := Lib.hid hst
      have hlen : Hid (xs.length = d.size) := Lib.hid hst.len
      clear hst hat hx
      go_upto_if 21 with (fail)
      go_cut [4, 6, 7] from 11 to 108 (fun s4 s6 s7 wc => Got w (k + 1) s4 wc)
      case first =>
        cases b with
        | true =>
          by_cases h0 : 0 < d.size
          · obtain ⟨t, ht⟩ := first_is HST.out.heap h0 HST.out.perm HST.out.rises
            subst ht
            have HP := Lib.hid (pop_int cI order_enters order_tells cI_swo wr HST.out.hp HST.out.heap h0 (by omega))
            obtain ⟨x, hx⟩ : ∃ x, d[0]! = x := ⟨_, rfl⟩
            have HFX : Hid (∀ W v2 d2, Only (Mine w.heap.size v) wr W → Hp W w.heap.size w.heap.size v2 7 d2 → Heap (lf cI) d2 → (d[0]! :: d2.toList).Perm d.toList → v2.ownBlock = v.ownBlock →
                St w W v2 d2 (A.map (·.add 1)) t ∧ d2.size = d.size - 1 ∧ ∃ g o, A = some ⟨g, o, none⟩ ∧ W.cell? ⟨g, o, none⟩ = some (.int .i64 x)) := Lib.hid fun W v2 d2 q1 q2 q3 q4 q5 =>
              ⟨HST.out.popped q1 q2 q3 q4 q5, by have := q4.length_eq; simp at this; omega, by
                have := (HST.out.row.step q1 (HST.out.away (.inl q5))).first
                rwa [hx] at this⟩
            rw [hx] at HP
            have z1 : decide (0 < d.size) = true := decide_eq_true h0
            have z2 : decide ((0 : Int) < (d.size : Int)) = true := decide_eq_true (by omega)
            have z3 : (0 : Int) < (d.size : Int) := by omega
            have d1 : (x == x) = true := by simp
            have d2 : (x != x) = false := by simp
            have HX := Lib.hid hx
            clear hx HST
            go_wp2_with (fail)
            refine HP.out.mono ?_
            rintro e w2 ⟨rfl, ho, v2, d2, hp2, hH2, hpe, hv2⟩
            rw [← HX.out] at hpe
            obtain ⟨hs2, hd2, g, o, rfl, hc⟩ := HFX.out w2 v2 d2 ho hp2 hH2 hpe hv2
            have HS2 := Lib.hid hs2
            have HD2 := Lib.hid hd2
            clear ho hp2 hH2 hpe hv2 HFX hs2 hd2
            by_cases hc1 : c = 1
            · subst hc1
              have HS0 : Hid (St w w2 v2 d2 (some ⟨g, o, none⟩) t) := Lib.hid (by
                obtain ⟨s1, s2, s3, s4, s5, s6⟩ := HS2.out
                have e1 := s5.length_eq
                have e2 := HD2.out
                have e3 : d2.toList.length = d2.size := by simp
                obtain rfl : t = [] := List.eq_nil_of_length_eq_zero (by omega)
                exact ⟨s1, s2, s3, s4, s5, Rr.nil⟩)
              go_wp2_with (fail)
              go_meet
              case rel => exact ⟨v2, d2, some ⟨g, o, none⟩, 0, t, by rw [show d2.size = 0 by have := HD2.out; omega], by have := HD2.out; omega, by have := HD2.out; omega, HS0.out⟩
            · go_wp2_with (fail)
              go_meet
              case rel => exact ⟨v2, d2, some ⟨g, o + 1, none⟩, c - 1, t, by rw [HD2.out], by have := HD2.out; omega, by have := HD2.out; omega, HS2.out⟩
          · have hd0 : d.size = 0 := by omega
            have HP := Lib.hid (pop_int_empty HST.out.hp hd0)
            have z1 : decide (0 < d.size) = false := decide_eq_false (by omega)
            have z2 : decide ((0 : Int) < (d.size : Int)) = false := decide_eq_false (by omega)
            go_wp2_with (fail)
            refine HP.out.mono ?_
            rintro e w2 ⟨rfl, rfl⟩
            go_wp2_with (fail)
            go_meet
            case rel => exact ⟨v, d, A, c, xs, by rw [hd0], hdc, by omega, HST.out⟩
        | false =>
          have HP := Lib.hid (push_int cI order_enters order_tells cI_swo n wr HST.out.hp HST.out.heap HST.out.below.size (by omega))
          have HFX : Hid (∀ W v2 d2, Only (Mine w.heap.size v) wr W → Hp W w.heap.size w.heap.size v2 7 d2 → Heap (lf cI) d2 → d2.toList.Perm (n :: d.toList) → Moved wr v v2 →
              W.cell? ⟨rb, ro + k * 2 + 1, none⟩ = some (.int .i64 n) ∧ d2.size = d.size + 1 ∧ Calls Try.prog 10 #[.slice A d.size c, .int .i64 n] W fun e w' => ∃ A2 c2, e = .returned (.slice A2 d2.size c2) ∧ d2.size ≤ c2 ∧ St w w' v2 d2 A2 (putL n xs)) := Lib.hid fun W v2 d2 q1 q2 q3 q4 q5 => by
            have hd2 : d2.size = d.size + 1 := by have := q4.length_eq; simpa using this
            have hB := HST.out.mine q1
            refine ⟨HQ.out W hB, hd2, ?_⟩
            have hput := put_any A c xs n W (by have := hlen.out; omega) (HST.out.pushed_row q1 q5).sl
            rw [hlen.out] at hput
            refine hput.mono fun e w' ⟨A2, c2, he, hown, hb⟩ => ?_
            have e1 : xs.length + 1 = d2.size := by rw [hd2, hlen.out]
            obtain ⟨A3, c3, hv3, hc3⟩ := own_slice hown
            injection hv3 with _ _ hv3
            refine ⟨A2, c2, by rw [he, e1], by rw [← e1]; omega, HST.out.put q1 q2 q3 q4 hb hown⟩
          have q0 := HQ.out wr HST.out.below
          clear HST
          go_wp2_with (fail)
          refine HP.out.mono ?_
          rintro e w2 ⟨rfl, ho, v2, d2, hp2, hH2, hpe, hv2⟩
          obtain ⟨hc, hd2, hput⟩ := HFX.out w2 v2 d2 ho hp2 hH2 hpe hv2
          have HD2 := Lib.hid hd2
          have HPT := Lib.hid hput
          clear ho hp2 hH2 hpe hv2 HFX hd2 hput q0
          go_wp2_with (fail)
          refine HPT.out.mono ?_
          rintro e w3 ⟨A2, c2, rfl, hc2, hs2⟩
          have HS2 := Lib.hid hs2
          clear hs2 HPT
          go_wp2_with (fail)
          go_meet
          case rel => exact ⟨v2, d2, A2, c2, putL n xs, rfl, hc2, by have := HD2.out; omega, HS2.out⟩
      case rest =>
        clear HST hlen HQ p0 hdc hdk
        obtain ⟨v, d, A, c, xs, rfl, hdc, hdk, hst⟩ := hcut
        have HL := Lib.hid (len_int hst.hp)
        have HT := Lib.hid (top_int hst.hp)
        have HA := Lib.hid (all_int cI order_enters order_tells cI_swo wc hst.hp (by omega))
        have HI : Hid (∀ e W, Sorted cI d wc e W → ∃ A1 c1, e = .returned (.slice A1 d.size c1) ∧ Calls Try.prog 13 #[.slice A1 d.size c1, .slice A d.size c] W fun e w' => e = .returned (.bool true) ∧ Got w (k + 1) (.slice A d.size c) w') := Lib.hid fun e W ⟨A1, c1, R, he, hown, p1, p2, hb⟩ => by
          refine ⟨A1, c1, he, ?_⟩
          have hR : R.toList = xs := sorted_is p1 p2 hst.perm hst.rises
          have hl2 := hst.len
          have hs1 := Sl.of_own hown
          rw [il_iv, hR] at hs1
          have hs2 := (hst.row.sl).below hb
          have := ints_same A1 A xs c1 c _ _ W (by omega) hs1 hs2
          rw [hl2] at this
          exact this.mono fun e w' ⟨he, hb2⟩ => ⟨he, v, d, A, c, xs, rfl, hdc, hdk, hst.on (hb.trans (hb2.mono hb.size))⟩
        have d0 : ((d.size : Int) != (d.size : Int)) = false := by simp
        have hfirst : Hid (0 < d.size → ∃ g o, A = some ⟨g, o, none⟩ ∧ wc.cell? ⟨g, o, none⟩ = some (.int .i64 d[0]!)) := Lib.hid fun h0 => by
          obtain ⟨t, ht⟩ := first_is hst.heap h0 hst.perm hst.rises
          have := hst.row
          rw [ht] at this
          exact this.first
        unfold topv at HT
        clear hst
        by_cases h0 : 0 < d.size
        · rw [if_neg (by omega)] at HT
          obtain ⟨g, o, rfl, hc⟩ := hfirst.out h0
          obtain ⟨x, hx⟩ : ∃ x, d[0]! = x := ⟨_, rfl⟩
          rw [hx] at HT hc
          have z1 : decide (0 < d.size) = true := decide_eq_true h0
          have z2 : decide ((0 : Int) < (d.size : Int)) = true := decide_eq_true (by omega)
          have z3 : (0 : Int) < (d.size : Int) := by omega
          have d1 : (x == x) = true := by simp
          have d2 : (x != x) = false := by simp
          clear hx hfirst
          go_wp2_with (fail)
          refine HT.out.mono ?_
          rintro e w2 ⟨rfl, rfl⟩
          go_wp2_with (fail)
          refine HL.out.mono ?_
          rintro e w2 ⟨rfl, rfl⟩
          go_wp2_with (fail)
          refine HA.out.mono ?_
          intro e w2 hs
          obtain ⟨A1, c1, rfl, hi⟩ := HI.out e w2 hs
          have HII := Lib.hid hi
          clear hi hs HI HA HL HT
          go_wp2_with (fail)
          refine HII.out.mono ?_
          rintro e w3 ⟨rfl, hg⟩
          have HG := Lib.hid hg
          clear hg HII
          go_wp2_with (fail)
          go_roundg (l.length - (k + 1))
          case measure => omega
          case rel => exact ⟨k + 1, by omega, rfl, by go_num, HG.out⟩
        · rw [if_pos (by omega)] at HT
          have z1 : decide (0 < d.size) = false := decide_eq_false h0
          have z2 : decide ((0 : Int) < (d.size : Int)) = false := decide_eq_false (by omega)
          clear hfirst
          go_wp2_with (fail)
          refine HT.out.mono ?_
          rintro e w2 ⟨rfl, rfl⟩
          go_wp2_with (fail)
          refine HL.out.mono ?_
          rintro e w2 ⟨rfl, rfl⟩
          go_wp2_with (fail)
          refine HA.out.mono ?_
          intro e w2 hs
          obtain ⟨A1, c1, rfl, hi⟩ := HI.out e w2 hs
          have HII := Lib.hid hi
          clear hi hs HI HA HL HT
          go_wp2_with (fail)
          refine HII.out.mono ?_
          rintro e w3 ⟨rfl, hg⟩
          have HG := Lib.hid hg
          clear hg HII
          go_wp2_with (fail)
          go_roundg (l.length - (k + 1))
          case measure => omega
          case rel => exact ⟨k + 1, by omega, rfl, by go_num, HG.out⟩
    · have HST := Lib.hid hst
      have HLV := Lib.hid (lives_any wr)
      have i1 : ¬ (k : Int) < (l.length : Int) := by omega
      clear hst
      go_wp2_with (fail)
      refine HLV.out.mono ?_
      rintro e w4 ⟨rfl, hb4⟩
      have HB4 := Lib.hid (HST.out.below.trans (hb4.mono HST.out.below.size))
      clear hb4
      go_wp2_with (fail)
      go_ret
      exact ⟨rfl, HB4.out⟩
theorem lifted (os : Os) (started : os.Started) (H : Type) (enc : TypeId × Value → H) :
    ReturnsInHanded {} Try.checked os 3 .any (Rows.heapDoesSpec.pre6 enc Try.prog Try.f3 Rows.heapDoesRow.domain false) (Rows.heapDoesSpec.post enc Try.prog Try.f3 false true false false) := by
  refine lift (C := Try.checked) (by kernel_rfl) started (by kernel_rfl) Try.func3 rfl (by kernel_rfl) (by kernel_rfl) rfl Try.underlying4
    (fun ds hd => by match ds, hd with | [_], _ => exact ⟨rfl, rfl, rfl⟩)
    (ChangeSpec.witness6 (enc := enc) (C := Try.checked) false ⟨#[], #[.slice none 0 0], []⟩ 8 (by kernel_rfl) (by kernel_rfl) (by kernel_rfl) (by kernel_rfl)) ?_
  intro W base args ds before hval0 hA0 hfz hsz0
  have hval : ∀ (j : Nat) t v, Try.f3.params[j]? = some t → args[j]? = some v → Value.okWide Try.prog W .any base t v := hval0
  have hA : DataW.TrodAll enc Try.prog W 0 (fun _ => true) true Try.f3.params.toList args.toList ds before := hA0
  have hsz : (DataW.weightsEach Try.prog Try.f3.params.toList ds).all (· ≤ reachBytes) = true := hsz0
  rw [Try.params3] at hA hval hsz
  obtain ⟨v0, vs0, d0, ds0, p0, q0, hargs, rfl, rfl, h0, r0⟩ := trodAll_cons hA
  obtain ⟨rfl, rfl, rfl⟩ := trodAll_nil r0
  obtain rfl : args = #[v0] := by cases args; simp_all
  have k : ∀ (fuel : Nat) (cs : List Value) (y : DataW H × List MemPlace), DataW.trod enc Try.prog W 0 (fun _ => true) true fuel 28 cs = some y → ∃ p : Bool × Int, cs = dC p ∧ True := fun fuel cs y h =>
    cells_deed Try.underlying28 (by kernel_rfl) (by kernel_rfl) Try.underlying4 Try.underlying3 h
  obtain ⟨B, cap, l, rfl, hl, -, hr, hd⟩ := open_row (N := 2) Try.underlying22 (by kernel_rfl) k (hval 0 22 v0 rfl rfl) h0
  have hm : l.length * 16 ≤ 140737488355328 := by
    rcases hd with rfl | ⟨el, sp, rfl, hle⟩
    · simp
    · have h2 := sized_slice hsz (j := 0) rfl rfl Try.underlying22
      rw [show Try.prog.bytesOf 28 = 16 from by kernel_rfl] at h2
      have hr := reachBytes_lt
      omega
  exact walk B cap l hm W hr

theorem proved : Rows.HeapDoesSaid :=
  OpenClaim.holds_of_wide 3 Try.f3 rfl rfl rfl rfl rfl rfl rfl ⟨rfl, rfl, rfl, rfl, rfl⟩ rfl rfl rfl rfl rfl (by kernel_rfl) Try.func3 (by kernel_rfl)
    (of_decide_eq_true (by kernel_rfl)) (by unfold Func.isWrapper; first | (rw [if_pos (by decide +kernel)]; kernel_rfl) | (rw [if_neg (by decide +kernel)]; exact ⟨rfl, rfl⟩))
    (fun os started H enc _ => lifted os started H enc)
#print axioms proved
end Go.Proofs.Ytcnncfjplmejhaa.heapDoes
