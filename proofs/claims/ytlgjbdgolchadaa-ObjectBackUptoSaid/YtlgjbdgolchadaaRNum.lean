/-
  The contract of the document's own number: what stands first of bytes, and what is left.
-/
import Derived.Test.YtlgjbdgolchadaaFirst
import Derived.Deep.QuietTactic
import Derived.BigQuiet
namespace Go.Proofs.Ytlgjbdgolchadaa.code
open Go.RowKit law bytes nums
set_option linter.unusedVariables false

def restOf (l : List UInt8) : List UInt8 := if (first l).2.2 = 0 then l.drop (first l).2.1 else []
def RTold (B : Nat) (l : List UInt8) (w : World) (e : Ending) (w' : World) : Prop :=
  ∃ A' c', e = .returned (.tuple #[.int .u64 (first l).1, .slice A' (restOf l).length c', .int .i64 (first l).2.2]) ∧ (restOf l).length ≤ c' ∧ Sl w B A' (bv (restOf l)) ∧ ∃ j, w' = w.drewN j
theorem RTold.bad {B : Nat} {l : List UInt8} {w : World} {e : Ending} {E : Int} (hf : first l = (0, 0, E)) (hE : E ≠ 0) (he : e = .returned (.tuple #[.int .u64 0, .slice none 0 0, .int .i64 E])) : RTold B l w e w := by
  have hr : restOf l = [] := by unfold restOf; rw [hf]; exact if_neg hE
  refine ⟨none, 0, ?_, by rw [hr]; exact Nat.le_refl _, by rw [hr]; exact Sl.nil, 0, rfl⟩
  rw [he, hf, hr]
  rfl
theorem RTold.good {B N S n c' : Nat} {l R : List UInt8} {w : World} {e : Ending} {A' : Option Addr} (hf : first l = (N, S, 0)) (hr : restOf l = R) (hn : n = R.length) (hc : n ≤ c') (hs : Sl w B A' (bv R))
    (he : e = .returned (.tuple #[.int .u64 N, .slice A' n c', .int .i64 0])) (j : Nat) : RTold B l w e (w.drewN j) := by
  subst hr hn
  refine ⟨A', c', ?_, hc, hs, j, rfl⟩
  rw [he, hf]
theorem val_back (l : List UInt8) (k s : Nat) (hk : k < l.length) (hs : s < k + 1) (hsl : s < l.length) : val ((l.take (k + 1)).drop s) = l[s].toNat % 128 + 128 * val ((l.take (k + 1)).drop (s + 1)) := by
  rw [val_drop _ s (by rw [List.length_take]; omega), List.getElem_take]

set_option maxHeartbeats 1000000 in
set_option maxRecDepth 100000 in
theorem rnumber_any (A : Option Addr) (l : List UInt8) (c B : Nat) (w : World) (hm : l.length ≤ 281474976710656) (hc : l.length ≤ c) (hs : Sl w B A (bv l)) :
    Calls Try.prog 58 #[.slice A l.length c] w (RTold B l w) := by
  go_enter Try.func58, Try.ntmps58
  go_wp2
  go_loop [5] (fun i => ∃ k : Nat, k ≤ l.length ∧ k ≤ 10 ∧ i = .int .i64 k ∧ Seen l k) (fun i => 10 - (intOf i).toNat)
  case atStart => exact ⟨0, Nat.zero_le _, Nat.zero_le _, rfl, fun j _ h => absurd h (by omega)⟩
  case round =>
    obtain ⟨k, hk, hk10, rfl, hseen⟩ := hrel
    by_cases hlt : k < l.length ∧ k < 10
    · obtain ⟨hlt, hlt10⟩ := hlt
      obtain ⟨ad, rfl, hb, hcell⟩ := hs.byte hlt
      obtain ⟨cx, hcx⟩ : ∃ cx, cx = l[k] := ⟨_, rfl⟩
      rw [← hcx] at hcell
      have HC := Lib.hid hcx
      have hcb : cx.toNat < 256 := cx.toNat_lt
      have hA : decide (k < l.length) = true := decide_eq_true hlt
      have hB : decide ((k : Int) < 10) = true := decide_eq_true (by omega)
      clear hcx
      by_cases hmore : 128 ≤ cx.toNat
      · have hd : decide ((127 : Int) < (cx.toNat : Int)) = true := decide_eq_true (by omega)
        go_wp2
        go_round
        case rel => exact ⟨k + 1, by omega, by omega, by go_num, hseen.next hlt HC.out hmore⟩
        case measure => simp [intOf]; omega
      · have hd : decide ((127 : Int) < (cx.toNat : Int)) = false := decide_eq_false (by omega)
        have hgood := fun h1 h2 => first_good hseen hlt hlt10 HC.out (by omega) h1 h2
        have hbad := fun h => first_bad hseen hlt hlt10 HC.out (by omega) h
        have h10 : ((k : Int) == 10) = false := by simp; omega
        have hkl : ((k : Int) == (l.length : Int)) = false := by simp; omega
        by_cases hbd : k = 9 ∧ 1 < cx.toNat ∨ 0 < k ∧ cx.toNat = 0
        · have HF := Lib.hid (hbad hbd)
          clear hgood hbad
          by_cases h9 : k = 9
          · have hd3 : ((k : Int) == 9) = true := by simp; omega
            by_cases h1 : 1 < cx.toNat
            · have hd1 : decide ((1 : Int) < (cx.toNat : Int)) = true := decide_eq_true (by omega)
              clear hbd h9
              go_wp2
              go_ret3
              exact RTold.bad HF.out (by decide) rfl
            · have hd1 : decide ((1 : Int) < (cx.toNat : Int)) = false := decide_eq_false (by omega)
              have hd2 : ((cx.toNat : Int) == 0) = true := by simp; omega
              have hd5 : decide ((0 : Int) < (k : Int)) = true := decide_eq_true (by omega)
              have hd6 : decide (0 < k) = true := decide_eq_true (by omega)
              clear hbd h9
              go_wp2
              go_ret3
              exact RTold.bad HF.out (by decide) rfl
          · have hd2 : ((cx.toNat : Int) == 0) = true := by simp; omega
            have hd3 : ((k : Int) == 9) = false := by simp; omega
            have hd5 : decide ((0 : Int) < (k : Int)) = true := decide_eq_true (by omega)
            have hd6 : decide (0 < k) = true := decide_eq_true (by omega)
            clear hbd
            go_wp2
            go_ret3
            exact RTold.bad HF.out (by decide) rfl
        · have HF := Lib.hid (hgood (by omega) (by omega))
          clear hgood hbad
          have hways : (((k : Int) == 9) = true ∧ decide ((1 : Int) < (cx.toNat : Int)) = false ∧ decide ((0 : Int) < (k : Int)) = true ∧ decide (0 < k) = true ∧ ((cx.toNat : Int) == 0) = false) ∨
              (((k : Int) == 9) = false ∧ decide ((0 : Int) < (k : Int)) = true ∧ decide (0 < k) = true ∧ ((cx.toNat : Int) == 0) = false) ∨
              (((k : Int) == 9) = false ∧ decide ((0 : Int) < (k : Int)) = false ∧ decide (0 < k) = false) := by
            by_cases h9 : k = 9
            · exact .inl ⟨by simp; omega, by simp; omega, by simp; omega, by simp; omega, by simp; omega⟩
            · by_cases h0 : k = 0
              · exact .inr (.inr ⟨by simp; omega, by simp; omega, by simp; omega⟩)
              · exact .inr (.inl ⟨by simp; omega, by simp; omega, by simp; omega, by simp; omega⟩)
          clear hbd
          obtain ⟨L, hL⟩ : ∃ L, L = l.take (k + 1) := ⟨_, rfl⟩
          have hU := (first_ok (b := l) (by rw [HF.out])).1
          rw [HF.out] at hU
          simp only [← hL] at hU HF
          have hdr := val_drop_le L
          have hback := fun s (h : s < k + 1) => val_back l k s hlt h
          rw [← hL] at hback
          have hend : L.drop (k + 1) = [] := List.drop_eq_nil_of_le (by rw [hL, List.length_take]; omega)
          have HEND := Lib.hid hend
          have HB := Lib.hid hback
          have HD := Lib.hid hdr
          have HL := Lib.hid hL
          have HU : U64 (val L) := hU
          clear hend hback hdr hL hU
          rcases hways with ⟨d1, d2, d3, d4, d5⟩ | ⟨d1, d3, d4, d5⟩ | ⟨d1, d3, d4⟩
          all_goals
            go_wp2
            go_loop [6, 7] (fun x i => ∃ t : Nat, t ≤ k + 1 ∧ i = .int .i64 ((t : Int) - 1) ∧ x = .int .u64 (val (L.drop t))) (fun _ i => (intOf i + 1).toNat)
            case atStart => exact ⟨k + 1, Nat.le_refl _, by go_num, by rw [HEND.out]; rfl⟩
            case round =>
              obtain ⟨t, ht, rfl, rfl⟩ := hrel
              rcases t with _ | s
              · have hrs : restOf l = l.drop (k + 1) := by unfold restOf; rw [HF.out]; rfl
                have hsl := hs.drop (k + 1)
                have HR := Lib.hid hrs
                have hdl : (l.drop (k + 1)).length = l.length - (k + 1) := List.length_drop
                have HDL := Lib.hid hdl
                have hemp : c = k + 1 → l.drop (k + 1) = [] := fun h => List.drop_eq_nil_of_le (by omega)
                have HEM := Lib.hid hemp
                clear hrs hdl hemp
                by_cases hck : c = k + 1
                · have hlk : l.length = k + 1 := by omega
                  have hbk : decide (c = k + 1) = true := decide_eq_true hck
                  go_wp2
                  go_quiet (fail)
                  go_wp2
                  go_ret3
                  exact RTold.good HF.out HR.out (by rw [HEM.out hck]; rfl) (Nat.le_refl _) (by rw [HEM.out hck]; exact Sl.nil) rfl _
                · have hbk : decide (c = k + 1) = false := decide_eq_false hck
                  go_wp2
                  go_quiet (fail)
                  go_wp2
                  go_ret3
                  exact RTold.good HF.out HR.out HDL.out.symm (by omega) (by rw [bv_drop]; exact hsl) rfl _
              · have e1 : (((s + 1 : Nat) : Int) - 1) = (s : Int) := by omega
                rw [e1]
                have hsl : s < l.length := by omega
                obtain ⟨ad2, e2, _, hcell2⟩ := hs.byte hsl
                injection e2 with e2
                subst e2
                have hbk := HB.out s (by omega) hsl
                obtain ⟨dx, hdx⟩ : ∃ dx, dx = l[s] := ⟨_, rfl⟩
                rw [← hdx] at hcell2 hbk
                have hle := HD.out s
                obtain ⟨v, hv⟩ : ∃ v, v = val (L.drop (s + 1)) := ⟨_, rfl⟩
                rw [← hv] at hbk ⊢
                have hUU := HU
                unfold U64 at hUU
                have hw1 : IntKind.u64.wrap ((v : Int) * 128) = (v : Int) * 128 := by rw [IntKind.wrap_u64]; omega
                have hw2 : IntKind.u64.wrap ((v : Int) * 128 + (dx.toNat : Int) % 128) = (v : Int) * 128 + (dx.toNat : Int) % 128 := by rw [IntKind.wrap_u64]; omega
                have HK := Lib.hid hbk
                clear hbk hle hUU hv hdx e1
                go_wp2
                go_round
                case rel => exact ⟨s, by omega, rfl, by rw [HK.out]; go_num⟩
                case measure => simp [intOf]
    · have HF := Lib.hid (first_end hseen hk hk10 hlt)
      by_cases h10 : k = 10
      · rw [if_neg (by omega)] at HF
        have hd1 : ((k : Int) == 10) = true := by simp; omega
        have hB : decide ((k : Int) < 10) = false := decide_eq_false (by omega)
        clear hlt h10
        by_cases hkl : k < l.length
        · have hA : decide (k < l.length) = true := decide_eq_true (by omega)
          go_wp2
          go_ret3
          exact RTold.bad HF.out (by decide) rfl
        · have hA : decide (k < l.length) = false := decide_eq_false (by omega)
          go_wp2
          go_ret3
          exact RTold.bad HF.out (by decide) rfl
      · have e1 : k = l.length := by omega
        rw [if_pos (by omega)] at HF
        have hA : decide (k < l.length) = false := decide_eq_false (by omega)
        have hd1 : ((k : Int) == 10) = false := by simp; omega
        have hd2 : ((k : Int) == (l.length : Int)) = true := by simp; omega
        clear hlt h10
        by_cases h9 : k = 9
        · have hd3 : ((k : Int) == 9) = true := by simp; omega
          clear h9 e1
          go_wp2
          go_ret3
          exact RTold.bad HF.out (by decide) rfl
        · have hd3 : ((k : Int) == 9) = false := by simp; omega
          clear h9 e1
          go_wp2
          go_ret3
          exact RTold.bad HF.out (by decide) rfl
end Go.Proofs.Ytlgjbdgolchadaa.code
