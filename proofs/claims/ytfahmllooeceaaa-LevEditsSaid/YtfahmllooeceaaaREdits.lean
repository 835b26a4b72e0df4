/-
  The contract of the document's own Edits.
-/
import Derived.Test.YtfahmllooeceaaaRTab
import Derived.Test.YtfahmllooeceaaaEd1
import Derived.Deep.RegionHeld3
namespace Go.Proofs.Ytfahmllooeceaaa.lev
open Go.RowKit law bytes
set_option linter.unusedVariables false

theorem cat_one {Pr : Program} (x : List UInt8) (c : UInt8) (hx : x.length ≤ 1048576) (W : World) : (Op.stringOp .add (of x) ⟨#[c]⟩).run Pr W = .ok (.string (of (x ++ [c]))) W := by
  rw [run_string_add_sum W _ _ (by rw [of_size]; show x.length + 1 ≤ _; omega)]
  congr 2
theorem onB {Pr : Program} {f : FuncId} {args : Array Value} {v : Value} {w W : World} (hb : Below w.heap.size w W) (h : Calls Pr f args W (Tells v W)) : Calls Pr f args W fun e w' => e = .returned v ∧ Below w.heap.size w w' :=
  h.mono fun e w' ⟨he, hb2⟩ => ⟨he, hb.trans (hb2.mono hb.size)⟩
theorem tail_of (a : ByteArray) (h : 0 < a.size) : bl a = (a[0]'h) :: bl (a.extract 1 a.size) := by
  have c := bl_cons a 0 h
  rw [List.drop_zero] at c
  rw [bl_from]
  exact c
theorem tail_size (a : ByteArray) (h : 0 < a.size) : (a.extract 1 a.size).size = a.size - 1 := by simp

set_option maxHeartbeats 6400000 in
set_option maxRecDepth 100000 in
theorem redits_any (a b : ByteArray) (ha : a.size ≤ 64) (hb : b.size ≤ 64) (w : World) :
    Calls Try.prog 18 #[.string a, .string b] w (Tells (.string (of (E (bl a) (bl b)))) w) := by
  obtain ⟨EE, hEE⟩ : ∃ EE, EE = E (bl a) (bl b) := ⟨_, rfl⟩
  rw [← hEE]
  have hEl : EE.length ≤ 128 := by have := E_len (bl a) (bl b); rw [bl_len, bl_len] at this; rw [hEE]; omega
  have HE0 := Lib.hid hEE
  clear hEE
  go_enter Try.func18, Try.ntmps18
  go_wp2_with (fail)
  go_loopw [0, 1, 5] (fun x y o wr => ∃ (s t : ByteArray) (pf : List UInt8), x = .string s ∧ y = .string t ∧ o = .string (of pf) ∧ s.size ≤ 64 ∧ t.size ≤ 64 ∧ Hid (EE = pf ++ E (bl s) (bl t)) ∧ Below w.heap.size w wr) (fun x y _ _ => (match x with | .string s => s.size | _ => 0) + (match y with | .string s => s.size | _ => 0))
  case atStart => exact ⟨a, b, [], rfl, rfl, rfl, ha, hb, HE0, Below.refl _ _⟩
  case round =>
    obtain ⟨s, t, pf, rfl, rfl, rfl, hs, ht, HE, hB⟩ := hrel
    have hpl : pf.length ≤ 128 := by have := congrArg List.length HE.out; rw [List.length_append] at this; omega
    have HD := Lib.hid (fun W => rdist_any s t (by omega) (by omega) W)
    have HB := Lib.hid hB
    clear hB
    by_cases h1 : 0 < s.size
    · have k1 := tail_of s h1
      have z1 := tail_size s h1
      have l1 : 1 ≤ s.size := h1
      have l1' : (1 : Int) ≤ (s.size : Int) := by omega
      have l1'' : (0 : Int) < (s.size : Int) := by omega
      obtain ⟨s1, hs1⟩ : ∃ s1, s1 = s.extract 1 s.size := ⟨_, rfl⟩
      rw [← hs1] at k1 z1
      by_cases h2 : 0 < t.size
      · have k2 := tail_of t h2
        have z2 := tail_size t h2
        have l2 : 1 ≤ t.size := h2
        have l2' : (1 : Int) ≤ (t.size : Int) := by omega
        have l2'' : (0 : Int) < (t.size : Int) := by omega
        obtain ⟨t1, ht1⟩ : ∃ t1, t1 = t.extract 1 t.size := ⟨_, rfl⟩
        rw [← ht1] at k2 z2
        have e1 : s.extract 1 s.size = s1 := hs1.symm
        have e2 : t.extract 1 t.size = t1 := ht1.symm
        have HDD := Lib.hid (fun W => rdist_any s1 t1 (by omega) (by omega) W)
        have HDS := Lib.hid (fun W => rdist_any s1 t (by omega) (by omega) W)
        have bD := L_max (bl s) (bl t)
        have bDD := L_max (bl s1) (bl t1)
        have bDS := L_max (bl s1) (bl t)
        simp only [bl_len] at bD bDD bDS
        have hD : L (bl s) (bl t) ≤ 64 := by omega
        have hDD : L (bl s1) (bl t1) ≤ 64 := by omega
        have hDS : L (bl s1) (bl t) ≤ 64 := by omega
        have Z1 := Lib.hid z1
        have Z2 := Lib.hid z2
        clear bD bDD bDS hs1 ht1 z1 z2
        by_cases he : s[0]'h1 = t[0]'h2
        · obtain ⟨q1, q2⟩ := eq_get h1 h2 he
          have hst : E (bl s) (bl t) = 61 :: E (bl s1) (bl t1) := by rw [k1, k2, he, E_same]
          have hdd : L (bl s) (bl t) = L (bl s1) (bl t1) := by rw [k1, k2, he, L_same]
          have HN : Hid (EE = (pf ++ [(61 : UInt8)]) ++ E (bl s1) (bl t1)) := Lib.hid (by rw [HE.out, hst, List.append_assoc]; rfl)
          have hcat := cat_one (Pr := Try.prog) pf 61 (by omega)
          clear k1 k2 he HE hst HDS hDS
          generalize L (bl s) (bl t) = D at *
          generalize L (bl s1) (bl t1) = DD at *
          subst hdd
          have q3 : ((D : Int) == (D : Int)) = true := by simp
          go_wp2_with (fail)
          refine (HD.out _).mono ?_
          rintro e w1 ⟨rfl, hb1⟩
          have HB1 := Lib.hid (HB.out.trans (hb1.mono HB.out.size))
          clear hb1 HD
          have hB0 := HB1.out
          go_wp2_with (fail)
          go_region_held3 (fun w' => Below w.heap.size w w') ((repeat' (first | (with_reducible assumption) | (with_reducible refine Below.drew ?_))))
            (first | (go_at_call 9; (with_reducible refine (onB (by with_reducible assumption) (HDD.out _)).mono ?_); rintro e' w2 ⟨rfl, hB2⟩))
          all_goals
            go_wp2_with (fail)
            go_roundw
            case rel => exact ⟨s1, t1, pf ++ [61], rfl, rfl, rfl, by first | omega | (rw [Z1.out]; omega), by first | omega | (rw [Z2.out]; omega), HN, (Lib.hid hB2).out⟩
            case measure =>
              show s1.size + t1.size < s.size + t.size
              first | omega | (rw [Z1.out]; omega) | (rw [Z2.out]; omega) | (rw [Z1.out, Z2.out]; omega)
        · by_cases c1 : L (bl s) (bl t) = L (bl s1) (bl t1)
          · by_cases c2 : L (bl s) (bl t) = L (bl s1) (bl t) + 1
            · obtain ⟨q1, q2⟩ := ne_get h1 h2 he
              have hst : E (bl s) (bl t) = 45 :: E (bl s1) (bl t) := by
                have e1' := c1
                have e2' := c2
                rw [k1, k2] at e1' e2' ⊢
                exact E_goes he e1' e2'
              have HN : Hid (EE = (pf ++ [(45 : UInt8)]) ++ E (bl s1) (bl t)) := Lib.hid (by rw [HE.out, hst, List.append_assoc]; rfl)
              have hcat := cat_one (Pr := Try.prog) pf 45 (by omega)
              have HN' := HN.out
              clear k1 k2 HE hst he HN'
              generalize L (bl s) (bl t) = D at *
              generalize L (bl s1) (bl t1) = DD at *
              generalize L (bl s1) (bl t) = DS at *
              have w1' : IntKind.i64.wrap ((DD : Int) + 1) = (DD : Int) + 1 := by rw [IntKind.wrap_i64]; omega
              have q3 : (((DD : Int) + 1) == (D : Int)) = false := by simp; omega
              have q4 : (((DS : Int) + 1) == (D : Int)) = true := by simp; omega
              clear c1 c2
              go_wp2_with (fail)
              refine (HD.out _).mono ?_
              rintro e w1 ⟨rfl, hb1⟩
              have HB1 := Lib.hid (HB.out.trans (hb1.mono HB.out.size))
              clear hb1 HD
              go_wp2_with (fail)
              go_quiet (fail)
              go_wp2_with (fail)
              have hBz := HB1.out
              go_region_held3 (fun w' => Below w.heap.size w w') ((repeat' (first | (with_reducible assumption) | (with_reducible refine Below.drew ?_) | (with_reducible refine below_drewN' ?_ _))))
                (first | (go_at_call 9; (with_reducible refine (onB (by with_reducible assumption) (HDD.out _)).mono ?_); rintro e' w2 ⟨rfl, hB2⟩))
              all_goals have HB2 := Lib.hid hB2
              all_goals clear hB2
              all_goals
                go_wp2_with (fail)
                refine (HDS.out _).mono ?_
                rintro e w3 ⟨rfl, hb3⟩
                have HB3 := Lib.hid (HB2.out.trans (hb3.mono HB2.out.size))
                clear hb3
                go_wp2_with (fail)
                go_roundw
                case rel => exact ⟨s1, t, pf ++ [45], rfl, rfl, rfl, by first | omega | (rw [Z1.out]; omega), by first | omega | (rw [Z2.out]; omega), HN, HB3.out⟩
                case measure =>
                  show s1.size + t.size < s.size + t.size
                  first | omega | (rw [Z1.out]; omega) | (rw [Z2.out]; omega) | (rw [Z1.out, Z2.out]; omega)
            · obtain ⟨q1, q2⟩ := ne_get h1 h2 he
              have hst : E (bl s) (bl t) = 43 :: E (bl s) (bl t1) := by
                have e1' := c1
                have e2' := c2
                rw [k1, k2] at e1' e2' ⊢
                exact E_comes he e1' e2'
              have HN : Hid (EE = (pf ++ [(43 : UInt8)]) ++ E (bl s) (bl t1)) := Lib.hid (by rw [HE.out, hst, List.append_assoc]; rfl)
              have hcat := cat_one (Pr := Try.prog) pf 43 (by omega)
              have HN' := HN.out
              clear k1 k2 HE hst he HN'
              generalize L (bl s) (bl t) = D at *
              generalize L (bl s1) (bl t1) = DD at *
              generalize L (bl s1) (bl t) = DS at *
              have w1' : IntKind.i64.wrap ((DD : Int) + 1) = (DD : Int) + 1 := by rw [IntKind.wrap_i64]; omega
              have q3 : (((DD : Int) + 1) == (D : Int)) = false := by simp; omega
              have q4 : (((DS : Int) + 1) == (D : Int)) = false := by simp; omega
              clear c1 c2
              go_wp2_with (fail)
              refine (HD.out _).mono ?_
              rintro e w1 ⟨rfl, hb1⟩
              have HB1 := Lib.hid (HB.out.trans (hb1.mono HB.out.size))
              clear hb1 HD
              go_wp2_with (fail)
              go_quiet (fail)
              go_wp2_with (fail)
              have hBz := HB1.out
              go_region_held3 (fun w' => Below w.heap.size w w') ((repeat' (first | (with_reducible assumption) | (with_reducible refine Below.drew ?_) | (with_reducible refine below_drewN' ?_ _))))
                (first | (go_at_call 9; (with_reducible refine (onB (by with_reducible assumption) (HDD.out _)).mono ?_); rintro e' w2 ⟨rfl, hB2⟩))
              all_goals have HB2 := Lib.hid hB2
              all_goals clear hB2
              all_goals
                go_wp2_with (fail)
                refine (HDS.out _).mono ?_
                rintro e w3 ⟨rfl, hb3⟩
                have HB3 := Lib.hid (HB2.out.trans (hb3.mono HB2.out.size))
                clear hb3
                go_wp2_with (fail)
                go_roundw
                case rel => exact ⟨s, t1, pf ++ [43], rfl, rfl, rfl, by first | omega | (rw [Z1.out]; omega), by first | omega | (rw [Z2.out]; omega), HN, HB3.out⟩
                case measure =>
                  show s.size + t1.size < s.size + t.size
                  first | omega | (rw [Z1.out]; omega) | (rw [Z2.out]; omega) | (rw [Z1.out, Z2.out]; omega)
          · obtain ⟨q1, q2⟩ := ne_get h1 h2 he
            have hst : E (bl s) (bl t) = 33 :: E (bl s1) (bl t1) := by
              have e1' := c1
              rw [k1, k2] at e1' ⊢
              exact E_becomes he e1'
            have hdd : L (bl s) (bl t) = L (bl s1) (bl t1) + 1 := by
              have d1 := L_diag (s[0]'h1) (t[0]'h2) (bl s1) (bl t1)
              have d2 := L_sub (s[0]'h1) (t[0]'h2) (bl s1) (bl t1)
              have d3 := ne_le (s[0]'h1) (t[0]'h2)
              rw [← k1, ← k2] at d1 d2
              omega
            have HN : Hid (EE = (pf ++ [(33 : UInt8)]) ++ E (bl s1) (bl t1)) := Lib.hid (by rw [HE.out, hst, List.append_assoc]; rfl)
            have hcat := cat_one (Pr := Try.prog) pf 33 (by omega)
            clear k1 k2 HE hst he c1 HDS hDS
            generalize L (bl s) (bl t) = D at *
            generalize L (bl s1) (bl t1) = DD at *
            have w1' : IntKind.i64.wrap ((DD : Int) + 1) = (DD : Int) + 1 := by rw [IntKind.wrap_i64]; omega
            have q3 : (((DD : Int) + 1) == (D : Int)) = true := by simp; omega
            clear hdd
            go_wp2_with (fail)
            refine (HD.out _).mono ?_
            rintro e w1 ⟨rfl, hb1⟩
            have HB1 := Lib.hid (HB.out.trans (hb1.mono HB.out.size))
            clear hb1 HD
            go_wp2_with (fail)
            go_quiet (fail)
            go_wp2_with (fail)
            have hBz := HB1.out
            go_region_held3 (fun w' => Below w.heap.size w w') ((repeat' (first | (with_reducible assumption) | (with_reducible refine Below.drew ?_) | (with_reducible refine below_drewN' ?_ _))))
              (first | (go_at_call 9; (with_reducible refine (onB (by with_reducible assumption) (HDD.out _)).mono ?_); rintro e' w2 ⟨rfl, hB2⟩))
            all_goals have HB2 := Lib.hid hB2
            all_goals clear hB2
            all_goals
              go_wp2_with (fail)
              go_roundw
              case rel => exact ⟨s1, t1, pf ++ [33], rfl, rfl, rfl, by first | omega | (rw [Z1.out]; omega), by first | omega | (rw [Z2.out]; omega), HN, HB2.out⟩
              case measure =>
                show s1.size + t1.size < s.size + t.size
                first | omega | (rw [Z1.out]; omega) | (rw [Z2.out]; omega) | (rw [Z1.out, Z2.out]; omega)
      · have et : bl t = [] := List.eq_nil_of_length_eq_zero (by rw [bl_len]; omega)
        have hst : E (bl s) (bl t) = 45 :: E (bl s1) (bl t) := by rw [k1, et, E_minus]
        have hdd : L (bl s) (bl t) = L (bl s1) (bl t) + 1 := by rw [k1, et, L_cons_nil]
        have bDS := L_max (bl s1) (bl t)
        simp only [bl_len] at bDS
        have hDS : L (bl s1) (bl t) ≤ 64 := by omega
        have e1 : s.extract 1 s.size = s1 := hs1.symm
        have HDS := Lib.hid (fun W => rdist_any s1 t (by omega) (by omega) W)
        have Z1 := Lib.hid z1
        have Z2 : Hid (t.size ≤ 64) := Lib.hid ht
        have HN : Hid (EE = (pf ++ [(45 : UInt8)]) ++ E (bl s1) (bl t)) := Lib.hid (by rw [HE.out, hst, List.append_assoc]; rfl)
        have hcat := cat_one (Pr := Try.prog) pf 45 (by omega)
        have dd1 : decide (0 < t.size) = false := decide_eq_false h2
        clear k1 HE hst et bDS hs1 z1
        generalize L (bl s) (bl t) = D at *
        generalize L (bl s1) (bl t) = DS at *
        have q4 : (((DS : Int) + 1) == (D : Int)) = true := by simp; omega
        clear hdd
        go_wp2_with (fail)
        refine (HD.out _).mono ?_
        rintro e w1 ⟨rfl, hb1⟩
        have HB1 := Lib.hid (HB.out.trans (hb1.mono HB.out.size))
        clear hb1 HD
        go_wp2_with (fail)
        go_quiet (fail)
        go_wp2_with (fail)
        go_quiet (fail)
        go_wp2_with (fail)
        refine (HDS.out _).mono ?_
        rintro e w3 ⟨rfl, hb3⟩
        have HB3 := Lib.hid ((below_drewN' HB1.out _).trans (hb3.mono (by have := HB1.out.size; exact this)))
        clear hb3
        go_wp2_with (fail)
        go_roundw
        case rel => exact ⟨s1, t, pf ++ [45], rfl, rfl, rfl, by first | omega | (rw [Z1.out]; omega), by first | omega | exact Z2.out, HN, HB3.out⟩
        case measure =>
          show s1.size + t.size < s.size + t.size
          first | omega | (rw [Z1.out]; omega) | exact Z2.out | (rw [Z1.out, Z2.out]; omega)
    · have es : bl s = [] := List.eq_nil_of_length_eq_zero (by rw [bl_len]; omega)
      by_cases h2 : 0 < t.size
      · have k2 := tail_of t h2
        have z2 := tail_size t h2
        have l2 : 1 ≤ t.size := h2
        have l2' : (1 : Int) ≤ (t.size : Int) := by omega
        have l2'' : (0 : Int) < (t.size : Int) := by omega
        obtain ⟨t1, ht1⟩ : ∃ t1, t1 = t.extract 1 t.size := ⟨_, rfl⟩
        rw [← ht1] at k2 z2
        have hst : E (bl s) (bl t) = 43 :: E (bl s) (bl t1) := by rw [es, k2, E]
        have e2 : t.extract 1 t.size = t1 := ht1.symm
        have Z2 := Lib.hid z2
        have Z1 : Hid (s.size ≤ 64) := Lib.hid hs
        have HN : Hid (EE = (pf ++ [(43 : UInt8)]) ++ E (bl s) (bl t1)) := Lib.hid (by rw [HE.out, hst, List.append_assoc]; rfl)
        have hcat := cat_one (Pr := Try.prog) pf 43 (by omega)
        have dd1 : decide (0 < s.size) = false := decide_eq_false h1
        clear k2 HE hst es ht1 z2
        go_wp2_with (fail)
        refine (HD.out _).mono ?_
        rintro e w1 ⟨rfl, hb1⟩
        have HB1 := Lib.hid (HB.out.trans (hb1.mono HB.out.size))
        clear hb1 HD
        go_wp2_with (fail)
        go_quiet (fail)
        go_wp2_with (fail)
        go_quiet (fail)
        go_wp2_with (fail)
        go_roundw
        case rel => exact ⟨s, t1, pf ++ [43], rfl, rfl, rfl, by first | omega | (rw [Z1.out]; omega), by first | omega | (rw [Z2.out]; omega), HN, below_drewN' HB1.out _⟩
        case measure =>
          show s.size + t1.size < s.size + t.size
          first | omega | (rw [Z1.out]; omega) | (rw [Z2.out]; omega) | (rw [Z1.out, Z2.out]; omega)
      · have e2 : bl t = [] := List.eq_nil_of_length_eq_zero (by rw [bl_len]; omega)
        have he : EE = pf := by rw [HE.out, es, e2, E_nil, List.append_nil]
        subst he
        clear es e2 HE HD
        have d1 : decide (0 < s.size) = false := decide_eq_false h1
        have d2 : decide (0 < t.size) = false := decide_eq_false h2
        go_wp2_with (fail)
        go_ret
        exact ⟨rfl, HB.out⟩
end Go.Proofs.Ytfahmllooeceaaa.lev
