/-
  For all rows of fars and every number the law SplitHalves returns true, and changes nothing that there was. No condition.
-/
import Derived.Test.YtikdnpfnijhkkaaFarH
import Derived.Test.YtikdnpfnijhkkaaFarN
import Derived.Test.YtikdnpfnijhkkaaFarU
import Derived.Test.YtikdnpfnijhkkaaFarL
import Derived.Test.YtikdnpfnijhkkaaFarO
namespace Go.Proofs.Ytikdnpfnijhkkaa.splitHalves
open Go.RowKit law bytes only flat came hit spl far Go.Sort Go.Shelf
open Go.ChangeShapes Go.WideShapes Go.Deep Go.ChangeAt
set_option linter.unusedVariables false

/-- two rows that come back, of p and q -/
def Pair (p q : Nat) (a b : List Hit) (w : World) (e : Ending) (w' : World) : Prop :=
  ∃ A c A' c', e = .returned (.tuple #[.slice A p c, .slice A' q c']) ∧ Sl w' w'.heap.size A (fv a) ∧ Sl w' w'.heap.size A' (fv b) ∧ Below w.heap.size w w'
theorem Pair.of {p q : Nat} {a b : List Hit} {w w' : World} {e : Ending} (h : Rows2 a b w e w') (hp : a.length = p) (hq : b.length = q) : Pair p q a b w e w' := by
  subst hp hq
  obtain ⟨A, c, A', c', he, _, _, h1, h2, h3⟩ := h
  exact ⟨A, c, A', c', he, h1, h2, h3⟩
/-- what the law's calls come to -/
structure Law (w : World) (A : Option Addr) (n c : Nat) (K : Int) (l a b : List Hit) (p q : Nat) (x : Hit) (ok : Bool) : Prop where
  fars : ∀ W, Below w.heap.size w W → Calls Try.prog 8 #[.slice A n c] W fun e w' => ∃ A1 c1, e = .returned (.slice A1 n c1) ∧ n ≤ c1 ∧ Sl w' w'.heap.size A1 (fv l) ∧ Below W.heap.size W w'
  nth : ∀ (W : World) (A1 : Option Addr) (c1 : Nat), n ≤ c1 → Sl W W.heap.size A1 (fv l) → Calls Try.prog 7 #[.slice A1 n c1, .int .i64 K] W fun e w' => e = .returned (.tuple #[.agg #[.int .i64 x.1, .int .i64 x.2], .bool ok]) ∧ Below W.heap.size W w'
  rnth : ∀ W, Below w.heap.size w W → Calls Try.prog 9 #[.slice A n c, .int .i64 K] W fun e w' => e = .returned (.tuple #[.agg #[.int .i64 x.1, .int .i64 x.2], .bool ok]) ∧ Below W.heap.size W w'
  halve : ∀ (W : World) (A1 : Option Addr) (c1 : Nat), n ≤ c1 → Sl W W.heap.size A1 (fv l) → Calls Try.prog 10 #[.slice A1 n c1, .int .i64 K] W (Pair p q a b W)
  rhalve : ∀ W, Below w.heap.size w W → Calls Try.prog 11 #[.slice A n c, .int .i64 K] W (Pair p q a b W)
  samea : ∀ (W : World) (A1 A2 : Option Addr) (c1 c2 : Nat), Sl W W.heap.size A1 (fv a) → Sl W W.heap.size A2 (fv a) → Calls Try.prog 12 #[.slice A1 p c1, .slice A2 p c2] W fun e w' => e = .returned (.bool true) ∧ Below W.heap.size W w'
  sameb : ∀ (W : World) (A1 A2 : Option Addr) (c1 c2 : Nat), Sl W W.heap.size A1 (fv b) → Sl W W.heap.size A2 (fv b) → Calls Try.prog 12 #[.slice A1 q c1, .slice A2 q c2] W fun e w' => e = .returned (.bool true) ∧ Below W.heap.size W w'
theorem got_eq {o : Option Hit} {x y : Hit} {p q : Bool} (h1 : opt o = (x, p)) (h2 : opt o = (y, q)) : x = y ∧ p = q := Prod.mk.inj (h1.symm.trans h2)
theorem law_of (w : World) (A : Option Addr) (c : Nat) (K : Int) (l : List Hit) (hn : l.length ≤ 300) (hu : unlike l = true) (hs : Sl w w.heap.size A (fv l)) :
    Law w A l.length c K l (cut l K).1 (cut l K).2 (cut l K).1.length (cut l K).2.length (opt (nth l K)).1 (opt (nth l K)).2 := by
  have hnd := unlike_nodup hu
  have hca : (cut l K).1.length ≤ 300 ∧ (cut l K).2.length ≤ 300 := by
    rw [cut_is hnd]
    exact ⟨Nat.le_trans (List.length_filter_le ..) hn, Nat.le_trans (List.length_filter_le ..) hn⟩
  refine ⟨fun W hW => ?_, fun W A1 c1 h1 h2 => ?_, fun W hW => ?_, fun W A1 c1 h1 h2 => ?_, fun W hW => ?_, fun W A1 A2 c1 c2 h1 h2 => ?_, fun W A1 A2 c1 c2 h1 h2 => ?_⟩
  · exact (fars_any A l c _ W (by omega) hW.size (hs.below hW)).mono fun e w' h => by
      obtain ⟨A1, c1, he, hc, h1, h2⟩ := h.rows
      exact ⟨A1, c1, he, hc, h1, h2⟩
  · exact (nth_any l A1 c1 _ K W (by omega) (Nat.le_refl _) h1 h2).mono fun e w' ⟨x, ok, he, ho, hb⟩ => by
      rw [ho]
      exact ⟨he, hb⟩
  · have h := rnth_any A l c _ K W (by omega) hW.size (hs.below hW)
    rw [find_rank hnd] at h
    exact h.mono fun e w' ⟨x, ok, he, ho, hb⟩ => by
      rw [ho]
      exact ⟨he, hb⟩
  · exact (halve_any A1 l c1 _ K W (by omega) (Nat.le_refl _) h1 h2).mono fun e w' h => Pair.of h rfl rfl
  · have h := rhalve_any A l c _ K W (by omega) hW.size (hs.below hW)
    rw [show l.filter (fewer l K) = (cut l K).1 by rw [cut_is hnd], show (l.filter fun x => !fewer l K x) = (cut l K).2 by rw [cut_is hnd]] at h
    exact h.mono fun e w' h => Pair.of h rfl rfl
  · exact same_any A1 A2 _ c1 c2 _ _ W (by omega) (Nat.le_refl _) (Nat.le_refl _) h1 h2
  · exact same_any A1 A2 _ c1 c2 _ _ W (by omega) (Nat.le_refl _) (Nat.le_refl _) h1 h2
/-- where the law stands: both fars laid, and what there was as it was -/
structure St (w W : World) (g h : Nat) (x : Hit) : Prop where
  found : Blk W g 26 #[.int .i64 x.1, .int .i64 x.2]
  want : Blk W h 31 #[.int .i64 x.1, .int .i64 x.2]
  below : Below w.heap.size w W
theorem St.on {w W W' : World} {g h : Nat} {x : Hit} (s : St w W g h x) (hb : Below W.heap.size W W') : St w W' g h x :=
  ⟨s.found.below hb s.found.lt, s.want.below hb s.want.lt, s.below.trans (hb.mono s.below.size)⟩

set_option maxRecDepth 100000 in
set_option maxHeartbeats 1600000 in
theorem walk3 (w : World) (A : Option Addr) (n c : Nat) (K : Int) (l a b : List Hit) (p q : Nat) (x1 x2 : Int) (ok : Bool) (hn : n ≤ 300) (L : Law w A n c K l a b p q (x1, x2) ok)
    (hU : Calls Try.prog 5 #[.slice A n c] w fun e w' => e = .returned (.bool true) ∧ Below w.heap.size w w') :
    Calls Try.prog 3 #[.slice A n c, .int .i64 K] w fun e w' => e = .returned (.bool true) ∧ Below w.heap.size w w' := by
  have HL := Lib.hid L
  have HU := Lib.hid hU
  have d1 : decide (300 < (n : Int)) = false := decide_eq_false (by omega)
  clear L hU
  go_enter Try.func3, Try.ntmps3
  go_wp2_with (fail)
  refine HU.out.mono ?_
  rintro e w1 ⟨rfl, hb1⟩
  have HC := Lib.hid (HL.out.fars w1 hb1)
  have HB1 := Lib.hid hb1
  clear HU hb1
  go_wp2_with (fail)
  refine HC.out.mono ?_
  rintro e w2 ⟨A1, c1, rfl, hc1, hs1, h2⟩
  have HB2 := Lib.hid (HB1.out.trans (h2.mono HB1.out.size))
  have HD := Lib.hid (HL.out.nth w2 A1 c1 hc1 hs1)
  clear HC HB1 hc1 hs1 h2
  go_wp2_with (fail)
  refine HD.out.mono ?_
  rintro e w3 ⟨rfl, h3⟩
  dsimp only
  have HB3 := Lib.hid (HB2.out.trans (h3.mono HB2.out.size))
  obtain ⟨V3, hV3⟩ : ∃ V, V = w3.alloc (.cells #[.int .i64 x1, .int .i64 x2] 26) := ⟨_, rfl⟩
  have hk3 : Blk V3 w3.heap.size 26 #[.int .i64 x1, .int .i64 x2] := by rw [hV3]; exact Blk.new w3 _ _
  have hb3 : Below w.heap.size w V3 := by rw [hV3]; exact HB3.out.alloc HB3.out.size _
  have HE := Lib.hid (HL.out.rnth V3 hb3)
  have HK3 := Lib.hid (And.intro hk3 hb3)
  have HV3 := Lib.hid hV3
  clear HD HB2 h3 hk3 hb3 hV3
  go_wp2_with (fail)
  rw [← HV3.out]
  refine HE.out.mono ?_
  rintro e w4 ⟨rfl, h4⟩
  dsimp only
  obtain ⟨V4, hV4⟩ : ∃ V, V = w4.alloc (.cells #[.int .i64 x1, .int .i64 x2] 31) := ⟨_, rfl⟩
  have hst4 : St w V4 w3.heap.size w4.heap.size (x1, x2) := by
    have hb4 := HK3.out.2.trans (h4.mono HK3.out.2.size)
    rw [hV4]
    exact ⟨(HK3.out.1.below h4 HK3.out.1.lt).alloc _, Blk.new w4 _ _, hb4.alloc hb4.size _⟩
  have HF := Lib.hid (HL.out.fars V4 hst4.below)
  have HST4 := Lib.hid hst4
  have HV4 := Lib.hid hV4
  clear HE HK3 HV3 h4 hst4 hV4
  go_wp2_with (fail)
  rw [← HV4.out]
  refine HF.out.mono ?_
  rintro e w5 ⟨A2, c2, rfl, hc2, hs2, h5⟩
  have HST5 := Lib.hid (HST4.out.on h5)
  have HG := Lib.hid (HL.out.halve w5 A2 c2 hc2 hs2)
  clear HF HST4 HV4 hc2 hs2 h5
  go_wp2_with (fail)
  refine HG.out.mono ?_
  rintro e w6 ⟨A3, c3, A4, c4, rfl, hs3, hs4, h6⟩
  have HST6 := Lib.hid (HST5.out.on h6)
  have HH := Lib.hid (HL.out.rhalve w6 HST6.out.below)
  have HS6 := Lib.hid (And.intro hs3 hs4)
  clear HG HST5 hs3 hs4 h6
  go_wp2_with (fail)
  refine HH.out.mono ?_
  rintro e w7 ⟨A5, c5, A6, c6, rfl, hs5, hs6, h7⟩
  have hst7 := HST6.out.on h7
  have e0 := hst7.found.cell 0
  have e1 := hst7.found.cell 1
  have g0 := hst7.want.cell 0
  have g1 := hst7.want.cell 1
  have HI := Lib.hid (HL.out.samea w7 A3 A5 c3 c5 (HS6.out.1.on h7) hs5)
  have HJ : Hid (∀ w8, Below w7.heap.size w7 w8 → Calls Try.prog 12 #[.slice A4 q c4, .slice A6 q c6] w8 fun e w' => e = .returned (.bool true) ∧ Below w.heap.size w w') := Lib.hid fun w8 h8 =>
    (HL.out.sameb w8 A4 A6 c4 c6 ((HS6.out.2.on h7).on h8) (hs6.on h8)).mono fun e w' ⟨he, h9⟩ => ⟨he, (hst7.on h8).below.trans (h9.mono (hst7.on h8).below.size)⟩
  have d2 : (x1 == x1) = true := by simp
  have d3 : (x2 == x2) = true := by simp
  have d4 : (ok == ok) = true := by simp
  clear HH HST6 HS6 hst7 hs5 hs6 h7
  go_wp2_with (fail)
  refine HI.out.mono ?_
  rintro e w8 ⟨rfl, h8⟩
  have HJJ := Lib.hid (HJ.out w8 h8)
  clear HI HJ h8 e0 e1 g0 g1
  go_wp2_with (fail)
  refine HJJ.out.mono ?_
  rintro e w9 ⟨rfl, h9⟩
  have HM : Hid (Calls Try.prog 6 #[] w9 fun e w' => e = .returned (.bool true) ∧ Below w.heap.size w w') := Lib.hid ((lives_any w9).mono fun e w' ⟨he, h⟩ => ⟨he, h9.trans (h.mono h9.size)⟩)
  clear HJJ h9
  go_wp2_with (fail)
  refine HM.out.mono ?_
  rintro e w10 ⟨rfl, h10⟩
  have HN := Lib.hid h10
  clear HM h10
  go_wp2_with (fail)
  go_ret
  exact ⟨rfl, HN.out⟩

set_option maxRecDepth 100000 in
set_option maxHeartbeats 800000 in
theorem walk (A : Option Addr) (c : Nat) (l : List Hit) (K : Int) (w : World) (hs : Sl w w.heap.size A (fv l)) :
    Calls Try.prog 3 #[.slice A l.length c, .int .i64 K] w fun e w' => e = .returned (.bool true) ∧ Below w.heap.size w w' := by
  rcases Nat.lt_or_ge 300 l.length with hn | hn
  · have d1 : decide (300 < (l.length : Int)) = true := decide_eq_true (by omega)
    have HV := Lib.hid (lives_any w)
    clear hs
    go_enter Try.func3, Try.ntmps3
    go_wp2_with (fail)
    refine HV.out.mono ?_
    rintro e w1 ⟨rfl, h1⟩
    have HB := Lib.hid h1
    clear h1 HV
    go_wp2_with (fail)
    go_ret
    exact ⟨rfl, HB.out⟩
  · have hU := unlike_any A l c _ w (by omega) (Nat.le_refl _) hs
    cases hu : unlike l with
    | true =>
      rw [hu] at hU
      exact walk3 w A l.length c K l _ _ _ _ _ _ _ hn (law_of w A c K l hn hu hs) hU
    | false =>
      rw [hu] at hU
      have HU := Lib.hid hU
      have d1 : decide (300 < (l.length : Int)) = false := decide_eq_false (by omega)
      clear hU hs hu
      go_enter Try.func3, Try.ntmps3
      go_wp2_with (fail)
      refine HU.out.mono ?_
      rintro e w1 ⟨rfl, h1⟩
      have HV : Hid (Calls Try.prog 6 #[] w1 fun e w' => e = .returned (.bool true) ∧ Below w.heap.size w w') := Lib.hid ((lives_any w1).mono fun e w' ⟨he, h⟩ => ⟨he, h1.trans (h.mono h1.size)⟩)
      clear h1 HU
      go_wp2_with (fail)
      refine HV.out.mono ?_
      rintro e w2 ⟨rfl, h2⟩
      have HB := Lib.hid h2
      clear h2 HV
      go_wp2_with (fail)
      go_ret
      exact ⟨rfl, HB.out⟩

theorem lifted (os : Os) (started : os.Started) (H : Type) (enc : TypeId × Value → H) :
    ReturnsInHanded {} Try.checked os 3 .any (Rows.splitHalvesSpec.pre6 enc Try.prog Try.f3 Rows.splitHalvesRow.domain false) (Rows.splitHalvesSpec.post enc Try.prog Try.f3 false true false false) := by
  refine lift (C := Try.checked) (by kernel_rfl) started (by kernel_rfl) Try.func3 rfl (by kernel_rfl) (by kernel_rfl) rfl Try.underlying4
    (fun ds hd => by match ds, hd with | [_, _], _ => exact ⟨rfl, rfl, rfl⟩)
    (ChangeSpec.witness6 (enc := enc) (C := Try.checked) false ⟨#[], #[.slice none 0 0, .int .i64 0], []⟩ 8 (by kernel_rfl) (by kernel_rfl) (by kernel_rfl) (by kernel_rfl)) ?_
  intro W base args ds before hval0 hA0 hfz hsz0
  have hval : ∀ (j : Nat) t v, Try.f3.params[j]? = some t → args[j]? = some v → Value.okWide Try.prog W .any base t v := hval0
  have hA : DataW.TrodAll enc Try.prog W 0 (fun _ => true) true Try.f3.params.toList args.toList ds before := hA0
  have hsz : (DataW.weightsEach Try.prog Try.f3.params.toList ds).all (· ≤ reachBytes) = true := hsz0
  rw [Try.params3] at hA hval hsz
  obtain ⟨v0, vs0, d0, ds0, p0, q0, hargs, rfl, rfl, h0, r0⟩ := trodAll_cons hA
  obtain ⟨v1, vs1, d1, ds1, p1, q1, rfl, rfl, rfl, h1, r1⟩ := trodAll_cons r0
  obtain ⟨rfl, rfl, rfl⟩ := trodAll_nil r1
  obtain rfl : args = #[v0, v1] := by cases args; simp_all
  obtain ⟨A, c, l, rfl, hs⟩ := open_fars (hval 0 22 v0 rfl rfl) h0
  obtain ⟨K, rfl, rfl, rfl, w1⟩ := open_int Try.underlying3 (hval 1 3 v1 rfl rfl) h1
  exact walk A c l K W hs

theorem proved : Rows.SplitHalvesSaid :=
  OpenClaim.holds_of_wide 3 Try.f3 rfl rfl rfl rfl rfl rfl rfl ⟨rfl, rfl, rfl, rfl, rfl⟩ rfl rfl rfl rfl rfl (by kernel_rfl) Try.func3 (by kernel_rfl)
    (of_decide_eq_true (by kernel_rfl)) (by unfold Func.isWrapper; first | (rw [if_pos (by decide +kernel)]; kernel_rfl) | (rw [if_neg (by decide +kernel)]; exact ⟨rfl, rfl⟩))
    (fun os started H enc _ => lifted os started H enc)
#print axioms proved
end Go.Proofs.Ytikdnpfnijhkkaa.splitHalves
