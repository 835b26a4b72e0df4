/-
  For all rows of fars and every number the law SplitBounds returns true, and changes nothing that there was. No condition.
-/
import Derived.Test.YtikdnpfnijhkkaaFarH
import Derived.Test.YtikdnpfnijhkkaaFarB
import Derived.Test.YtikdnpfnijhkkaaFarU
import Derived.Test.YtikdnpfnijhkkaaFarL
import Derived.Test.YtikdnpfnijhkkaaFarO
namespace Go.Proofs.Ytikdnpfnijhkkaa.splitBounds
open Go.RowKit law bytes only flat came hit spl far Go.Sort Go.Shelf
open Go.ChangeShapes Go.WideShapes Go.Deep Go.ChangeAt
set_option linter.unusedVariables false

/-- two rows that come back, of p and q -/
def Pair (p q : Nat) (a b : List Hit) (w : World) (e : Ending) (w' : World) : Prop :=
  ∃ A c A' c', e = .returned (.tuple #[.slice A p c, .slice A' q c']) ∧ Sl w' w'.heap.size A (fv a) ∧ Sl w' w'.heap.size A' (fv b) ∧ Below w.heap.size w w'
theorem Pair.of {p q : Nat} {a b : List Hit} {w w' : World} {e : Ending} (h : Rows2 a b w e w') (hp : a.length = p) (hq : b.length = q) : Pair p q a b w e w' := by
  subst hp hq
  obtain ⟨A, c, A', c', he, _, _, h1, h2, h3⟩ := h
  exact ⟨A, c, A', c', he, h1, h2, h3⟩
/-- what the law's calls come to -/
structure Law (w : World) (A : Option Addr) (n c : Nat) (K : Int) (l a b : List Hit) (p q : Nat) (low high low1 top bottom high2 : Int) : Prop where
  fars : ∀ W, Below w.heap.size w W → Calls Try.prog 8 #[.slice A n c] W fun e w' => ∃ A1 c1, e = .returned (.slice A1 n c1) ∧ n ≤ c1 ∧ Sl w' w'.heap.size A1 (fv l) ∧ Below W.heap.size W w'
  halve : ∀ (W : World) (A1 : Option Addr) (c1 : Nat), n ≤ c1 → Sl W W.heap.size A1 (fv l) → Calls Try.prog 10 #[.slice A1 n c1, .int .i64 K] W (Pair p q a b W)
  all : ∀ (W : World) (A1 : Option Addr) (c1 : Nat), Sl W W.heap.size A1 (fv l) → Calls Try.prog 13 #[.slice A1 n c1] W fun e w' => e = .returned (.tuple #[.int .i64 low, .int .i64 high]) ∧ Below W.heap.size W w'
  one : ∀ (W : World) (A1 : Option Addr) (c1 : Nat), Sl W W.heap.size A1 (fv a) → Calls Try.prog 13 #[.slice A1 p c1] W fun e w' => e = .returned (.tuple #[.int .i64 low1, .int .i64 top]) ∧ Below W.heap.size W w'
  two : ∀ (W : World) (A1 : Option Addr) (c1 : Nat), Sl W W.heap.size A1 (fv b) → Calls Try.prog 13 #[.slice A1 q c1] W fun e w' => e = .returned (.tuple #[.int .i64 bottom, .int .i64 high2]) ∧ Below W.heap.size W w'
  row : ∀ W, Below w.heap.size w W → Sl W w.heap.size A (fv l)
  apart : 0 < p → 0 < q → top ≤ bottom
  none_ : l.length = 0 → low = 1 ∧ high = 0
  some_ : ∀ h : 0 < l.length, low = lo l[0].2 l ∧ high = hi l[0].2 l
theorem law_of (w : World) (A : Option Addr) (c : Nat) (K : Int) (l : List Hit) (hn : l.length ≤ 300) (hu : unlike l = true) (hs : Sl w w.heap.size A (fv l)) :
    Law w A l.length c K l (cut l K).1 (cut l K).2 (cut l K).1.length (cut l K).2.length (bnd l).1 (bnd l).2 (bnd (cut l K).1).1 (bnd (cut l K).1).2 (bnd (cut l K).2).1 (bnd (cut l K).2).2 := by
  have hnd := unlike_nodup hu
  have hca : (cut l K).1.length ≤ 300 ∧ (cut l K).2.length ≤ 300 := by
    rw [cut_is hnd]
    exact ⟨Nat.le_trans (List.length_filter_le ..) hn, Nat.le_trans (List.length_filter_le ..) hn⟩
  refine ⟨fun W hW => ?_, fun W A1 c1 h1 h2 => ?_, fun W A1 c1 h1 => ?_, fun W A1 c1 h1 => ?_, fun W A1 c1 h1 => ?_, fun W hW => hs.below hW, fun h1 h2 => cut_apart l K h1 h2, fun h => ?_, fun h => ?_⟩
  · exact (fars_any A l c _ W (by omega) hW.size (hs.below hW)).mono fun e w' h => by
      obtain ⟨A1, c1, he, hc, h1, h2⟩ := h.rows
      exact ⟨A1, c1, he, hc, h1, h2⟩
  · exact (halve_any A1 l c1 _ K W (by omega) (Nat.le_refl _) h1 h2).mono fun e w' h => Pair.of h rfl rfl
  · exact bounds_any A1 l c1 _ W (by omega) (Nat.le_refl _) h1
  · exact bounds_any A1 _ c1 _ W (by omega) (Nat.le_refl _) h1
  · exact bounds_any A1 _ c1 _ W (by omega) (Nat.le_refl _) h1
  · obtain rfl := List.eq_nil_of_length_eq_zero h
    exact ⟨rfl, rfl⟩
  · rw [bnd_is h]
    exact ⟨rfl, rfl⟩
/-- how far the law's own loop has come -/
def Come (l : List Hit) (k : Nat) (met : Bool) (s t : Int) : Prop :=
  (l.length = 0 → met = true ∧ s = 1 ∧ t = 0) ∧ (∀ h : 0 < l.length, 0 < k → met = true ∧ s = lo l[0].2 (l.take k) ∧ t = hi l[0].2 (l.take k))
theorem Come.first {l : List Hit} (h : 0 < l.length) : Come l 1 true (min l[0].2 l[0].2) (max l[0].2 l[0].2) := by
  refine ⟨fun h0 => by omega, fun _ _ => ⟨rfl, ?_, ?_⟩⟩
  · rw [show 1 = 0 + 1 from rfl, lo_step h]
    simp [lo]
  · rw [show 1 = 0 + 1 from rfl, hi_step h]
    simp [hi]
theorem Come.next {l : List Hit} {k : Nat} {met : Bool} {s t : Int} (h : Come l k met s t) (hk : k < l.length) (h0 : 0 < k) : Come l (k + 1) true (min s l[k].2) (max t l[k].2) := by
  refine ⟨fun e => by omega, fun h1 _ => ?_⟩
  obtain ⟨-, e1, e2⟩ := h.2 h1 h0
  exact ⟨rfl, by rw [lo_step hk, ← e1], by rw [hi_step hk, ← e2]⟩

set_option maxRecDepth 100000 in
set_option maxHeartbeats 3200000 in
theorem walk3 (w : World) (A : Option Addr) (n c : Nat) (K : Int) (l a b : List Hit) (p q : Nat) (low high low1 top bottom high2 : Int) (hnl : l.length = n) (hn : n ≤ 300) (L : Law w A n c K l a b p q low high low1 top bottom high2)
    (hU : Calls Try.prog 5 #[.slice A n c] w fun e w' => e = .returned (.bool true) ∧ Below w.heap.size w w') :
    Calls Try.prog 4 #[.slice A n c, .int .i64 K] w fun e w' => e = .returned (.bool true) ∧ Below w.heap.size w w' := by
  have HL := Lib.hid L
  have HU := Lib.hid hU
  have HNL := Lib.hid hnl
  have d1 : decide (300 < (n : Int)) = false := decide_eq_false (by omega)
  clear L hU hnl
  go_enter Try.func4, Try.ntmps4
  go_wp2_with (fail)
  refine HU.out.mono ?_
  rintro e w1 ⟨rfl, hb1⟩
  have HC := Lib.hid (HL.out.fars w1 hb1)
  have HB1 := Lib.hid hb1
  clear HU hb1
  go_wp2_with (fail)
  refine HC.out.mono ?_
  rintro e w2 ⟨A1, c1, rfl, hc1, hs1, h2⟩
  have HB2 := Lib.hid (HB1.out.trans (h2.mono HB1.out.size))
  have HD := Lib.hid (HL.out.halve w2 A1 c1 hc1 hs1)
  clear HC HB1 hc1 hs1 h2
  go_wp2_with (fail)
  refine HD.out.mono ?_
  rintro e w3 ⟨A3, c3, A4, c4, rfl, hs3, hs4, h3⟩
  have HB3 := Lib.hid (HB2.out.trans (h3.mono HB2.out.size))
  have HS3 := Lib.hid (And.intro hs3 hs4)
  have HE := Lib.hid (HL.out.fars w3 HB3.out)
  clear HD HB2 hs3 hs4 h3
  go_wp2_with (fail)
  refine HE.out.mono ?_
  rintro e w4 ⟨A2, c2, rfl, hc2, hs2, h4⟩
  have HB4 := Lib.hid (HB3.out.trans (h4.mono HB3.out.size))
  have HS4 := Lib.hid (And.intro (HS3.out.1.on h4) (HS3.out.2.on h4))
  have HF := Lib.hid (HL.out.all w4 A2 c2 hs2)
  clear HE HB3 HS3 hc2 hs2 h4
  go_wp2_with (fail)
  refine HF.out.mono ?_
  rintro e w5 ⟨rfl, h5⟩
  have HB5 := Lib.hid (HB4.out.trans (h5.mono HB4.out.size))
  have HS5 := Lib.hid (HS4.out.2.on h5)
  have HG := Lib.hid (HL.out.one w5 A3 c3 (HS4.out.1.on h5))
  clear HF HB4 HS4 h5
  go_wp2_with (fail)
  refine HG.out.mono ?_
  rintro e w6 ⟨rfl, h6⟩
  have HB6 := Lib.hid (HB5.out.trans (h6.mono HB5.out.size))
  have HH := Lib.hid (HL.out.two w6 A4 c4 (HS5.out.on h6))
  clear HG HB5 HS5 h6
  go_wp2_with (fail)
  refine HH.out.mono ?_
  rintro e w7 ⟨rfl, h7⟩
  have HB7 := Lib.hid (HB6.out.trans (h7.mono HB6.out.size))
  clear HH HB6 h7
  obtain ⟨m0, hm0⟩ : ∃ m0, ((n : Int) == 0) = m0 := ⟨_, rfl⟩
  have HM0 : Hid (Come l 0 m0 1 0) := Lib.hid ⟨fun h => ⟨by rw [← hm0, ← HNL.out, h]; rfl, rfl, rfl⟩, fun _ h => by omega⟩
  have hcond : (decide (0 < (p : Int)) = false ∧ decide (0 < p) = false ∧ ¬ 0 < p) ∨ (decide (0 < (p : Int)) = true ∧ decide (0 < p) = true ∧ 0 < p ∧ decide (0 < (q : Int)) = false ∧ decide (0 < q) = false ∧ ¬ 0 < q) ∨ (decide (0 < (p : Int)) = true ∧ decide (0 < p) = true ∧ 0 < p ∧ decide (0 < (q : Int)) = true ∧ decide (0 < q) = true ∧ 0 < q ∧ decide (bottom < top) = false ∧ ¬ bottom < top) := by
    rcases Nat.eq_zero_or_pos p with h | h
    · left; exact ⟨decide_eq_false (by omega), decide_eq_false (by omega), by omega⟩
    · rcases Nat.eq_zero_or_pos q with h1 | h1
      · right; left; exact ⟨decide_eq_true (by omega), decide_eq_true (by omega), h, decide_eq_false (by omega), decide_eq_false (by omega), by omega⟩
      · have := HL.out.apart h h1
        right; right; exact ⟨decide_eq_true (by omega), decide_eq_true (by omega), h, decide_eq_true (by omega), decide_eq_true (by omega), h1, decide_eq_false (by omega), by omega⟩
  rcases hcond with ⟨a1, a2, a3⟩ | ⟨a1, a2, a3, a4, a5, a6⟩ | ⟨a1, a2, a3, a4, a5, a6, a7, a8⟩
  all_goals
    go_wp2_with (fail)
    go_loopg [13, 14, 15, 16] n (fun gk s13 s14 s15 s16 wr => ∃ (k : Nat) (met : Bool) (s t : Int), gk = n - k ∧ k ≤ n ∧ s13 = .bool met ∧ s14 = .int .i64 s ∧ s15 = .int .i64 t ∧ s16 = .int .i64 k ∧ Come l k met s t ∧ Below w.heap.size w wr)
    case atStart => exact ⟨0, m0, 1, 0, rfl, Nat.zero_le _, rfl, rfl, rfl, rfl, HM0.out, HB7.out⟩
    case round =>
      clear HM0 HB7 hm0
      obtain ⟨k, met, s, t, rfl, hk, rfl, rfl, rfl, rfl, hcome, hb⟩ := hrel
      by_cases hlt : k < n
      · have hkl : k < l.length := by rw [HNL.out]; exact hlt
        obtain ⟨ba, oa, hA, hb1, hc0, hc1⟩ := Sl.farAt (HL.out.row wr hb) hkl
        have HB := Lib.hid hb
        have i1 : (k : Int) < (n : Int) := by omega
        have i2 : decide ((n : Int) ≤ (k : Int)) = false := decide_eq_false (by omega)
        have i3 : decide (n ≤ k) = false := decide_eq_false (by omega)
        by_cases hk0 : k = 0
        · subst hk0
          have HT : Hid (Come l 1 true (min l[0].2 l[0].2) (max l[0].2 l[0].2)) := Lib.hid (Come.first hkl)
          obtain ⟨d, hd⟩ : ∃ d, l[0].2 = d := ⟨_, rfl⟩
          rw [hd] at hc1 HT
          have HT2 : Hid (Come l 1 true d d) := Lib.hid (by have := HT.out; simpa using this)
          have c1 : wr.cell? ⟨ba, oa + 1, none⟩ = some (.int .i64 d) := by simpa using hc1
          subst hA
          clear hcome hb hc0 hd hc1
          go_wp2_with (fail)
          go_roundg (n - 1)
          case measure => omega
          case rel => first
            | exact ⟨1, true, _, _, rfl, by omega, rfl, rfl, rfl, by go_num, HT2.out, HB.out⟩
            | exact ⟨1, true, _, _, rfl, by omega, rfl, rfl, rfl, by go_num, HT.out, HB.out⟩
        · have HT : Hid (Come l (k + 1) true (min s l[k].2) (max t l[k].2)) := Lib.hid (hcome.next hkl (by omega))
          have e1 : ((k : Int) == 0) = false := by rw [beq_eq_false_iff_ne]; omega
          have e2 : ¬ (k : Int) = 0 := by omega
          obtain ⟨d, hd⟩ : ∃ d, l[k].2 = d := ⟨_, rfl⟩
          rw [hd] at hc1 HT
          subst hA
          clear hcome hb hc0 hd
          go_wp2_with (fail)
          go_roundg (n - (k + 1))
          case measure => omega
          case rel => exact ⟨k + 1, true, _, _, rfl, by omega, rfl, rfl, rfl, by go_num, HT.out, HB.out⟩
      · obtain rfl : k = n := by omega
        have hfin : met = true ∧ s = low ∧ t = high := by
          rcases Nat.eq_zero_or_pos l.length with h | h
          · obtain ⟨f1, f2, f3⟩ := hcome.1 h
            obtain ⟨f4, f5⟩ := HL.out.none_ h
            exact ⟨f1, f2.trans f4.symm, f3.trans f5.symm⟩
          · obtain ⟨f1, f2, f3⟩ := hcome.2 h (by have := HNL.out; omega)
            obtain ⟨f4, f5⟩ := HL.out.some_ h
            rw [← HNL.out, List.take_length] at f2 f3
            exact ⟨f1, f2.trans f4.symm, f3.trans f5.symm⟩
        obtain ⟨rfl, rfl, rfl⟩ := hfin
        have i1 : ¬ (k : Int) < (k : Int) := by omega
        have q1 : (s == s) = true := by simp
        have q2 : (t == t) = true := by simp
        have HV : Hid (Calls Try.prog 6 #[] wr fun e w' => e = .returned (.bool true) ∧ Below w.heap.size w w') := Lib.hid ((lives_any wr).mono fun e w' ⟨he, h⟩ => ⟨he, hb.trans (h.mono hb.size)⟩)
        clear hcome hb
        go_wp2_with (fail)
        refine HV.out.mono ?_
        rintro e w9 ⟨rfl, h9⟩
        have HN := Lib.hid h9
        clear h9 HV
        go_wp2_with (fail)
        go_ret
        exact ⟨rfl, HN.out⟩

set_option maxRecDepth 100000 in
set_option maxHeartbeats 800000 in
theorem walk (A : Option Addr) (c : Nat) (l : List Hit) (K : Int) (w : World) (hs : Sl w w.heap.size A (fv l)) :
    Calls Try.prog 4 #[.slice A l.length c, .int .i64 K] w fun e w' => e = .returned (.bool true) ∧ Below w.heap.size w w' := by
  rcases Nat.lt_or_ge 300 l.length with hn | hn
  · have d1 : decide (300 < (l.length : Int)) = true := decide_eq_true (by omega)
    have HV := Lib.hid (lives_any w)
    clear hs
    go_enter Try.func4, Try.ntmps4
    go_wp2_with (fail)
    refine HV.out.mono ?_
    rintro e w1 ⟨rfl, h1⟩
    have HB := Lib.hid h1
    clear h1 HV
    go_wp2_with (fail)
    go_ret
    exact ⟨rfl, HB.out⟩
  · have hU := unlike_any A l c _ w (by omega) (Nat.le_refl _) hs
    cases hu : unlike l with
    | true =>
      rw [hu] at hU
      exact walk3 w A l.length c K l _ _ _ _ _ _ _ _ _ _ rfl hn (law_of w A c K l hn hu hs) hU
    | false =>
      rw [hu] at hU
      have HU := Lib.hid hU
      have d1 : decide (300 < (l.length : Int)) = false := decide_eq_false (by omega)
      clear hU hs hu
      go_enter Try.func4, Try.ntmps4
      go_wp2_with (fail)
      refine HU.out.mono ?_
      rintro e w1 ⟨rfl, h1⟩
      have HV : Hid (Calls Try.prog 6 #[] w1 fun e w' => e = .returned (.bool true) ∧ Below w.heap.size w w') := Lib.hid ((lives_any w1).mono fun e w' ⟨he, h⟩ => ⟨he, h1.trans (h.mono h1.size)⟩)
      clear h1 HU
      go_wp2_with (fail)
      refine HV.out.mono ?_
      rintro e w2 ⟨rfl, h2⟩
      have HB := Lib.hid h2
      clear h2 HV
      go_wp2_with (fail)
      go_ret
      exact ⟨rfl, HB.out⟩

theorem lifted (os : Os) (started : os.Started) (H : Type) (enc : TypeId × Value → H) :
    ReturnsInHanded {} Try.checked os 4 .any (Rows.splitBoundsSpec.pre6 enc Try.prog Try.f4 Rows.splitBoundsRow.domain false) (Rows.splitBoundsSpec.post enc Try.prog Try.f4 false true false false) := by
  refine lift (C := Try.checked) (by kernel_rfl) started (by kernel_rfl) Try.func4 rfl (by kernel_rfl) (by kernel_rfl) rfl Try.underlying4
    (fun ds hd => by match ds, hd with | [_, _], _ => exact ⟨rfl, rfl, rfl⟩)
    (ChangeSpec.witness6 (enc := enc) (C := Try.checked) false ⟨#[], #[.slice none 0 0, .int .i64 0], []⟩ 8 (by kernel_rfl) (by kernel_rfl) (by kernel_rfl) (by kernel_rfl)) ?_
  intro W base args ds before hval0 hA0 hfz hsz0
  have hval : ∀ (j : Nat) t v, Try.f4.params[j]? = some t → args[j]? = some v → Value.okWide Try.prog W .any base t v := hval0
  have hA : DataW.TrodAll enc Try.prog W 0 (fun _ => true) true Try.f4.params.toList args.toList ds before := hA0
  have hsz : (DataW.weightsEach Try.prog Try.f4.params.toList ds).all (· ≤ reachBytes) = true := hsz0
  rw [Try.params4] at hA hval hsz
  obtain ⟨v0, vs0, d0, ds0, p0, q0, hargs, rfl, rfl, h0, r0⟩ := trodAll_cons hA
  obtain ⟨v1, vs1, d1, ds1, p1, q1, rfl, rfl, rfl, h1, r1⟩ := trodAll_cons r0
  obtain ⟨rfl, rfl, rfl⟩ := trodAll_nil r1
  obtain rfl : args = #[v0, v1] := by cases args; simp_all
  obtain ⟨A, c, l, rfl, hs⟩ := open_fars (hval 0 22 v0 rfl rfl) h0
  obtain ⟨K, rfl, rfl, rfl, w1⟩ := open_int Try.underlying3 (hval 1 3 v1 rfl rfl) h1
  exact walk A c l K W hs

theorem proved : Rows.SplitBoundsSaid :=
  OpenClaim.holds_of_wide 4 Try.f4 rfl rfl rfl rfl rfl rfl rfl ⟨rfl, rfl, rfl, rfl, rfl⟩ rfl rfl rfl rfl rfl (by kernel_rfl) Try.func4 (by kernel_rfl)
    (of_decide_eq_true (by kernel_rfl)) (by unfold Func.isWrapper; first | (rw [if_pos (by decide +kernel)]; kernel_rfl) | (rw [if_neg (by decide +kernel)]; exact ⟨rfl, rfl⟩))
    (fun os started H enc _ => lifted os started H enc)
#print axioms proved
end Go.Proofs.Ytikdnpfnijhkkaa.splitBounds
