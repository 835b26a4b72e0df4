/-
  For every graph the law FrontRises returns true, and changes nothing that there was. No condition.
-/
import Derived.Test.YtjahgiplaogmlaaFrY
namespace Go.Proofs.Ytjahgiplaogmlaa.frontRises
open Go.RowKit law bytes only flat fro
open Go.ChangeShapes Go.WideShapes Go.ChangeAt
set_option linter.unusedVariables false
set_option maxRecDepth 100000

/-- where a told hit's distance stands -/
theorem dist_at {w : World} {B : Nat} {A : Option Addr} {l : List (Int × Int)} (h : Sl w B A (hit.hv l)) (h0 : 0 < l.length) : ∃ b o, A = some ⟨b, o, none⟩ ∧ b < B ∧ ∀ k (hk : k < l.length), w.cell? ⟨b, o + k * 2 + 1, none⟩ = some (.int .i64 l[k].2) := by
  have hl : (hit.hv l).length = l.length * 2 := hit.hv_length l
  obtain ⟨b, o, rfl, hb, hc⟩ := Sl.place h (by omega)
  refine ⟨b, o, rfl, hb, fun k hk => ?_⟩
  have g : (hit.hv l)[k * 2 + 1]? = (hit.hc l[k])[1]? := flat_get hit.hc_len l k 1 hk (by omega)
  have l0 : k * 2 + 1 < (hit.hv l).length := by omega
  have := (List.getElem?_eq_getElem l0).symm.trans g
  have h1 := hc _ l0
  rw [Option.some.inj (this.trans rfl : some _ = some (Value.int .i64 l[k].2))] at h1
  rw [Nat.add_assoc]
  exact h1
/-- what the law is told -/
def Rising (w0 : World) (e : Ending) (w' : World) : Prop := ∃ t A c, e = .returned (.slice A (t : List (Int × Int)).length c) ∧ t.length ≤ 2000 ∧ (∀ i (hi : i + 1 < t.length), t[i].2 ≤ t[i + 1].2) ∧ Sl w' w'.heap.size A (hit.hv t) ∧ Below w0.heap.size w0 w'
theorem rising {d : Dat} {w0 w W : World} {wb hb : Nat} {T : Nat → Prop} {dd : Array Ent} (hG : Mays d) (hm : d.rows.length ≤ maxLen) (h0 : w0.heap.size ≤ w.heap.size) (hk : Wk W (w.heap.size + 2) wb hb T (fv w.heap.size) dd 0) (hp : dd.toList.Perm d.f.l) (hJ : Js d w.heap.size (w.heap.size + 2) () W) (hb0 : Below w0.heap.size w0 W) :
    Calls Try.prog 8 #[.pointer (some ⟨wb, 0, none⟩), .int .i64 2000] W fun e w' => Rising w0 e w' := by
  have hs : wsum wg dd.toList + 0 ≤ 1099511627776 := by
    rw [wsum_perm hp]
    have h1 := wsum_le (wt := wg) (l := d.f.l) (M := 390625) fun x _ => wg_le _
    have h2 := hG.2.1
    have h3 := Nat.mul_le_mul_right 390625 h2
    omega
  refine (take_any (op_graph hG hm w.heap.size (w.heap.size + 2) (by omega)) hk hJ (fun x _ h => h) hs 2000).mono fun e w' hh => ?_
  obtain ⟨t, k, s1, l1, j, s2, l2, d2, A, c, T', rfl, h1, h2, h3, h4, h5, h6, h7, h8, h9, h10, h11⟩ := hh
  refine ⟨t, A, c, rfl, by omega, h2.rises.1, Sl.of_ownK h1, hb0.trans (h9.below hb0.size fun i e => ?_)⟩
  rcases e with e | e
  · have := (hk.low i e).1; omega
  · exact e.elim
set_option maxHeartbeats 3200000 in
theorem walk (d : Dat) (w : World) (h : Hyp w d) : Calls Try.prog 3 #[.agg (aC d)] w fun e w' => e = .returned (.bool true) ∧ Below w.heap.size w w' := by
  obtain ⟨V, hV⟩ : ∃ V, V = w.alloc (.cells (aC d) 25) := ⟨_, rfl⟩
  have hb : Below w.heap.size w V := by rw [hV]; exact (Below.refl _ _).alloc (Nat.le_refl _) _
  have hon : ∀ W, Below w.heap.size w W → Hyp W d := fun W hW => ⟨(h.lay.below hW).more hW.size, h.cap, h.len⟩
  have b0 : Blk V w.heap.size 25 (aC d) := by rw [hV]; exact Blk.new w _ _
  have HMY := Lib.hid (may_any d V (hon V hb))
  have HB : Hid (∀ W, Below V.heap.size V W → Below w.heap.size w W ∧ W.cell? ⟨w.heap.size, 0, none⟩ = some (.slice d.f.A d.f.l.length d.f.c) ∧ W.cell? ⟨w.heap.size, 1, none⟩ = some (.slice d.B d.rows.length d.c)) := Lib.hid fun W hW => ⟨hb.trans (hW.mono hb.size), (b0.below hW b0.lt).cell 0, (b0.below hW b0.lt).cell 1⟩
  have HW : Hid (∀ W, Below w.heap.size w W → Mays d → Calls Try.prog 7 #[.agg (aC d)] W fun e w' => Wks d W e w') := Lib.hid fun W hW hG => walks_any d W (hon W hW) hG
  have HT : Hid (∀ W w1 w2 wb hb T dd, Mays d → Below w.heap.size w W → Wk w1 (W.heap.size + 2) wb hb T (fv W.heap.size) dd 0 → dd.toList.Perm d.f.l → Js d W.heap.size (W.heap.size + 2) () w1 → Below W.heap.size W w1 → Below w1.heap.size w1 w2 → Calls Try.prog 8 #[.pointer (some ⟨wb, 0, none⟩), .int .i64 2000] w2 fun e w' => Rising w e w') := Lib.hid fun W w1 w2 wb hb T dd hG k1 k2 k3 k4 k5 k6 =>
    rising hG h.len.2.1 k1.size (k2.below k6) k3 ⟨k4.1.below k6 k4.1.lt, k4.2.below (k6.mono k2.base_le)⟩ ((k1.trans (k5.mono k1.size)).trans (k6.mono (Nat.le_trans k1.size k5.size)))
  have HLV : Hid (∀ W, Below w.heap.size w W → Calls Try.prog 6 #[] W fun e w' => e = .returned (.bool true) ∧ Below w.heap.size w w') := Lib.hid fun W hW => (lives_any W).mono fun e w' ⟨he, hb'⟩ => ⟨he, hW.trans (hb'.mono hW.size)⟩
  obtain ⟨_, c0, c1⟩ := HB.out V (Below.refl _ _)
  have HV := Lib.hid hV
  clear hV hb hon b0 h
  unfold Wks at HW
  unfold aC at HMY HW HV ⊢
  go_enter Try.func3, Try.ntmps3
  go_wp2_with (fail)
  rw [← HV.out]
  go_wp2_with (fail)
  refine HMY.out.mono ?_
  rintro e w1 ⟨t, rfl, ht, hb1⟩
  obtain ⟨hbw, c0, c1⟩ := HB.out w1 hb1
  cases t with
  | false =>
    have HL := Lib.hid (HLV.out w1 hbw)
    clear HMY HB HW HT HLV HV ht hb1 hbw
    go_wp2_with (fail)
    refine HL.out.mono ?_
    rintro e w2 ⟨rfl, hb⟩
    have HE := Lib.hid hb
    clear hb HL
    go_wp2_with (fail)
    go_ret
    exact ⟨rfl, HE.out⟩
  | true =>
    have hG := ht rfl
    have HK := Lib.hid (HW.out w1 hbw hG)
    have HT1 := Lib.hid (fun w2 w3 wb hb T dd => HT.out w1 w2 w3 wb hb T dd hG hbw)
    clear HMY HB HW HT HV ht hb1 hbw
    go_wp2_with (fail)
    refine HK.out.mono ?_
    rintro e w2 ⟨wb, hb, T, dd, rfl, k1, k2, k3, k4⟩
    have HTK := Lib.hid (HT1.out w2 (w2.alloc (.cells #[.slice d.f.A d.f.l.length d.f.c, .slice d.B d.rows.length d.c, .int .i64 0] 30)) wb hb T dd k1 k2 k3 k4 ((Below.refl _ _).alloc (Nat.le_refl _) _))
    clear k1 k2 k3 k4 HK HT1 c0 c1
    go_wp2_with (fail)
    refine HTK.out.mono ?_
    rintro e w5 ⟨t, A, c, rfl, hl, hr, hs, hb5⟩
    have HR := Lib.hid hr
    have HS := Lib.hid hs
    have HB5 := Lib.hid hb5
    clear hr hs hb5 HTK
    go_wp2_with (fail)
    go_loopg [6] 2001 (fun gk s6 wr => ∃ i : Nat, gk = 2002 - i ∧ s6 = .int .i64 i ∧ 1 ≤ i ∧ i ≤ 2001 ∧ Below w5.heap.size w5 wr)
    case atStart => exact ⟨1, rfl, rfl, by omega, by omega, Below.refl _ _⟩
    case round =>
      obtain ⟨i, rfl, rfl, hi1, hi2, hb⟩ := hrel
      by_cases hlt : i < t.length
      · obtain ⟨b, o, rfl, -, hc⟩ := dist_at (HS.out.below hb) (by omega)
        obtain ⟨p, hp⟩ : ∃ p, p = i - 1 := ⟨_, rfl⟩
        have e0 := hc i hlt
        have e1 := hc p (by omega)
        have hle : t[p].2 ≤ t[i].2 := by
          have := HR.out p (by omega)
          simpa [hp, show i - 1 + 1 = i by omega] using this
        have i1 : (i : Int) < (t.length : Int) := by omega
        have i2 : (p : Int) < (t.length : Int) := by omega
        have i3 : IntKind.i64.wrap ((i : Int) - 1) = (p : Int) := by rw [IntKind.wrap_i64]; omega
        have i4 : IntKind.i64.wrap ((i : Int) + 1) = ((i + 1 : Nat) : Int) := by rw [IntKind.wrap_i64]; omega
        generalize t[i].2 = x at e0 hle
        generalize t[p].2 = y at e1 hle
        have d1 : decide (x < y) = false := decide_eq_false (by omega)
        have HBB := Lib.hid hb.drew
        clear hc hb hp hle HLV HB5
        go_wp2_with (fail)
        go_region
        go_wp2_with (fail)
        go_roundg (2002 - (i + 1))
        case measure => omega
        case rel => exact ⟨i + 1, rfl, rfl, by omega, by omega, HBB.out⟩
      · have i1 : ¬ (i : Int) < (t.length : Int) := by omega
        have HL := Lib.hid (HLV.out wr (HB5.out.trans (hb.mono HB5.out.size)))
        clear HLV HB5 hb HR HS
        go_wp2_with (fail)
        refine HL.out.mono ?_
        rintro e w6 ⟨rfl, hb⟩
        have HE := Lib.hid hb
        clear hb HL
        go_wp2_with (fail)
        go_ret
        exact ⟨rfl, HE.out⟩

theorem lifted (os : Os) (started : os.Started) (H : Type) (enc : TypeId × Value → H) :
    ReturnsInHanded {} Try.checked os 3 .any (Rows.frontRisesSpec.pre6 enc Try.prog Try.f3 Rows.frontRisesRow.domain false) (Rows.frontRisesSpec.post enc Try.prog Try.f3 false true false false) := by
  refine lift (C := Try.checked) (by kernel_rfl) started (by kernel_rfl) Try.func3 rfl (by kernel_rfl) (by kernel_rfl) rfl Try.underlying4
    (fun ds hd => by match ds, hd with | [_], _ => exact ⟨rfl, rfl, rfl⟩)
    (ChangeSpec.witness6 (enc := enc) (C := Try.checked) false ⟨#[], #[.agg #[.slice none 0 0, .slice none 0 0]], []⟩ 8 (by kernel_rfl) (by kernel_rfl) (by kernel_rfl) (by kernel_rfl)) ?_
  intro W base args ds before hval0 hA0 hfz hsz0
  have hval : ∀ (j : Nat) t v, Try.f3.params[j]? = some t → args[j]? = some v → Value.okWide Try.prog W .any base t v := hval0
  have hA : DataW.TrodAll enc Try.prog W 0 (fun _ => true) true Try.f3.params.toList args.toList ds before := hA0
  have hsz : (DataW.weightsEach Try.prog Try.f3.params.toList ds).all (· ≤ reachBytes) = true := hsz0
  rw [Try.params3] at hA hval hsz
  obtain ⟨v0, vs0, d0, ds0, p0, q0, hargs, rfl, rfl, h0, r0⟩ := trodAll_cons hA
  obtain ⟨rfl, rfl, rfl⟩ := trodAll_nil r0
  obtain rfl : args = #[v0] := by cases args; simp_all
  obtain ⟨a, rfl, hy⟩ := open_graph (hval 0 25 v0 rfl rfl) h0
  exact walk a W hy

theorem proved : Rows.FrontRisesSaid :=
  OpenClaim.holds_of_wide 3 Try.f3 rfl rfl rfl rfl rfl rfl rfl ⟨rfl, rfl, rfl, rfl, rfl⟩ rfl rfl rfl rfl rfl (by kernel_rfl) Try.func3 (by kernel_rfl)
    (of_decide_eq_true (by kernel_rfl)) (by unfold Func.isWrapper; first | (rw [if_pos (by decide +kernel)]; kernel_rfl) | (rw [if_neg (by decide +kernel)]; exact ⟨rfl, rfl⟩))
    (fun os started H enc _ => lifted os started H enc)
#print axioms proved
end Go.Proofs.Ytjahgiplaogmlaa.frontRises
