/-
  What lives: two of three are kept.
-/
import Derived.Test.YtbpahlhmdbahjaaBe
namespace Go.Proofs.Ytbpahlhmdbahjaa.best
open Go.RowKit law bytes only flat hit heapM hso Go.Sort Go.Shelf
set_option linter.unusedVariables false

theorem Be.add_on {w W : World} {base bb : Nat} {T : Nat → Prop} {k : Int} {l : List Hit} (h : Be W base bb T k l) (x : Hit) (hb : Below base w W) (hB : base ≤ W.heap.size) (hsz : (l.length + 1) * 16 ≤ 140737488355328) :
    Calls Try.prog 9 #[.pointer (some ⟨bb, 0, none⟩), .agg #[.int .u64 x.1, .int .i64 x.2]] W fun e w' => e = .returned (.bool (ad k l x)) ∧ ∃ T', Be w' base bb T' k (l ++ [x]) ∧ Below base w w' ∧ base ≤ w'.heap.size :=
  (add_any h x hB hsz).mono fun e w' ⟨he, ho, T', hB', _⟩ => ⟨he, T', hB', hb.trans (ho.below hB fun i e => (h.low e).1), Nat.le_trans hB ho.size⟩
set_option maxRecDepth 100000 in
set_option maxHeartbeats 1600000 in
theorem lives_any (w : World) : Calls Try.prog 15 #[] w fun e w' => e = .returned (.bool true) ∧ Below w.heap.size w w' := by
  have HN := Lib.hid (new_any 2 w)
  go_enter Try.func15, Try.ntmps15
  go_wp2_with (fail)
  refine HN.out.mono ?_
  rintro e w1 ⟨bb, T, rfl, hb1, hB1⟩
  have HA := Lib.hid (hB1.add_on (1, 5) hb1 hb1.size (by decide))
  rw [show ad 2 [] (1, 5) = true by decide] at HA
  clear hb1 hB1 HN
  go_wp2_with (fail)
  refine HA.out.mono ?_
  rintro e w2 ⟨rfl, T2, hB2, hb2, hs2⟩
  have HA2 := Lib.hid (hB2.add_on (2, 3) hb2 hs2 (by decide))
  rw [show ad 2 ([] ++ [(1, 5)]) (2, 3) = true by decide] at HA2
  clear hb2 hB2 hs2 HA
  go_wp2_with (fail)
  refine HA2.out.mono ?_
  rintro e w3 ⟨rfl, T3, hB3, hb3, hs3⟩
  have HA3 := Lib.hid (hB3.add_on (3, 4) hb3 hs3 (by decide))
  rw [show ad 2 ([] ++ [(1, 5)] ++ [(2, 3)]) (3, 4) = true by decide] at HA3
  clear hb3 hB3 hs3 HA2
  go_wp2_with (fail)
  refine HA3.out.mono ?_
  rintro e w4 ⟨rfl, T4, hB4, hb4, hs4⟩
  have HA4 := Lib.hid (hB4.add_on (4, 4) hb4 hs4 (by decide))
  rw [show ad 2 ([] ++ [(1, 5)] ++ [(2, 3)] ++ [(3, 4)]) (4, 4) = false by decide] at HA4
  clear hb4 hB4 hs4 HA3
  go_wp2_with (fail)
  refine HA4.out.mono ?_
  rintro e w5 ⟨rfl, T5, hB5, hb5, hs5⟩
  have HBD := Lib.hid (bound_any hB5)
  rw [show bd 2 ([] ++ [(1, 5)] ++ [(2, 3)] ++ [(3, 4)] ++ [(4, 4)]) = 4 by decide] at HBD
  have HLN : Hid (∀ W, Below w5.heap.size w5 W → Calls Try.prog 11 #[.pointer (some ⟨bb, 0, none⟩)] W fun e w' => e = .returned (.int .i64 2) ∧ Below w.heap.size w w') := Lib.hid fun W hW => by
    have h := len_any (hB5.below hW (Nat.le_refl _))
    rw [show ((keep 2 ([] ++ [(1, 5)] ++ [(2, 3)] ++ [(3, 4)] ++ [(4, 4)])).length : Int) = 2 by decide] at h
    exact h.mono fun e w' ⟨he, hb⟩ => ⟨he, (hb5.trans (hW.mono hs5)).trans (hb.mono (Nat.le_trans hs5 hW.size))⟩
  clear hb5 hB5 hs5 HA4
  go_wp2_with (fail)
  refine HBD.out.mono ?_
  rintro e w6 ⟨rfl, hb6⟩
  have HL := Lib.hid (HLN.out w6 hb6)
  clear HBD HLN hb6
  go_wp2_with (fail)
  refine HL.out.mono ?_
  rintro e w7 ⟨rfl, hb7⟩
  have HB7 := Lib.hid hb7
  clear HL hb7
  go_wp2_with (fail)
  go_ret
  exact ⟨rfl, HB7.out⟩
end Go.Proofs.Ytbpahlhmdbahjaa.best
