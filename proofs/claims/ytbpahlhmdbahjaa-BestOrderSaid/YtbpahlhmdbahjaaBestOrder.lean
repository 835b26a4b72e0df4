/-
  For every k, all rows of hits and every turn the law BestOrder returns true, and changes nothing that there was. No condition.
-/
import Derived.Test.YtbpahlhmdbahjaaBLives
import Derived.Test.YtbpahlhmdbahjaaHitOpen
import Derived.Deep.Cut
import Derived.Deep.CutRange
namespace Go.Proofs.Ytbpahlhmdbahjaa.bestOrder
open Go.RowKit law bytes only flat came hit best Go.Sort Go.Shelf
open Go.ChangeShapes Go.WideShapes Go.Deep Go.ChangeAt
set_option linter.unusedVariables false

theorem Be.base {w : World} {base base' bb : Nat} {T : Nat → Prop} {k : Int} {l : List Hit} (h : Be w base bb T k l) (hb : base' ≤ base) : Be w base' bb T k l := by
  obtain ⟨hb', v, d, hx, hH, hp, hT⟩ := h
  exact ⟨hb', v, d, ⟨hx.blk, ⟨hx.hp.1, own_base hx.hp.2.1 hb, hx.hp.2.2⟩, hx.ne, hx.nv, Nat.le_trans hb hx.bb, Nat.le_trans hb hx.hb⟩, hH, hp, hT⟩
/-- two Bests, neither of which turns the other -/
def Two (w : World) (k : Int) (ba : Nat) (la : List Hit) (bb : Nat) (lb : List Hit) (W : World) : Prop :=
  ∃ Ta Tb, Be W w.heap.size ba Ta k la ∧ Be W w.heap.size bb Tb k lb ∧ (∀ i, Ta i → ¬ Tb i) ∧ Below w.heap.size w W ∧ w.heap.size ≤ W.heap.size
/-- two that are read, and one that is turned -/
def Three (w : World) (k : Int) (ba : Nat) (la : List Hit) (bb : Nat) (lb : List Hit) (bc : Nat) (lc : List Hit) (W : World) : Prop :=
  ∃ Ta Tb Tc, Be W w.heap.size ba Ta k la ∧ Be W w.heap.size bb Tb k lb ∧ Be W w.heap.size bc Tc k lc ∧ (∀ i, Tc i → ¬ Ta i ∧ ¬ Tb i) ∧ Below w.heap.size w W ∧ w.heap.size ≤ W.heap.size
section
variable {w W W2 : World} {k : Int} {ba bb bc : Nat} {la lb lc : List Hit}
theorem Two.swap (h : Two w k ba la bb lb W) : Two w k bb lb ba la W := by
  obtain ⟨Ta, Tb, h1, h2, h3, h4, h5⟩ := h
  exact ⟨Tb, Ta, h2, h1, fun i h6 h7 => h3 i h7 h6, h4, h5⟩
theorem Two.add (x : Hit) (hsz : (la.length + 1) * 16 ≤ 140737488355328) (h : Two w k ba la bb lb W) :
    Calls Try.prog 9 #[.pointer (some ⟨ba, 0, none⟩), .agg #[.int .u64 x.1, .int .i64 x.2]] W fun e w' => (∃ q, e = .returned (.bool q)) ∧ Two w k ba (la ++ [x]) bb lb w' := by
  obtain ⟨Ta, Tb, h1, h2, h3, h4, h5⟩ := h
  refine (add_any h1 x h5 hsz).mono fun e w' ⟨he, ho, T', hB, hT'⟩ => ⟨⟨_, he⟩, T', Tb, hB, h2.only ho (fun i e1 e2 => h3 i e2 e1), fun i e1 e2 => ?_, h4.trans (ho.below h5 fun i e => (h1.low e).1), Nat.le_trans h5 ho.size⟩
  rcases hT' i e1 with e3 | e3
  · exact h3 i e3 e2
  · have := (h2.low e2).2; omega
theorem Three.add (x : Hit) (hsz : (lc.length + 1) * 16 ≤ 140737488355328) (h : Three w k ba la bb lb bc lc W) :
    Calls Try.prog 9 #[.pointer (some ⟨bc, 0, none⟩), .agg #[.int .u64 x.1, .int .i64 x.2]] W fun e w' => (∃ q, e = .returned (.bool q)) ∧ Three w k ba la bb lb bc (lc ++ [x]) w' := by
  obtain ⟨Ta, Tb, Tc, h1, h2, h0, h3, h4, h5⟩ := h
  refine (add_any h0 x h5 hsz).mono fun e w' ⟨he, ho, T', hB, hT'⟩ => ⟨⟨_, he⟩, Ta, Tb, T', h1.only ho (fun i e1 e2 => (h3 i e2).1 e1), h2.only ho (fun i e1 e2 => (h3 i e2).2 e1), hB, fun i e1 => ?_, h4.trans (ho.below h5 fun i e => (h0.low e).1), Nat.le_trans h5 ho.size⟩
  rcases hT' i e1 with e3 | e3
  · exact h3 i e3
  · exact ⟨fun e2 => by have := (h1.low e2).2; omega, fun e2 => by have := (h2.low e2).2; omega⟩
theorem Three.on (h : Three w k ba la bb lb bc lc W) (o : Below W.heap.size W W2) : Three w k ba la bb lb bc lc W2 := by
  obtain ⟨Ta, Tb, Tc, h1, h2, h0, h3, h4, h5⟩ := h
  exact ⟨Ta, Tb, Tc, h1.below o (Nat.le_refl _), h2.below o (Nat.le_refl _), h0.below o (Nat.le_refl _), h3, h4.trans (o.mono h5), Nat.le_trans h5 o.size⟩
theorem new1 (k : Int) (w : World) : Calls Try.prog 6 #[.int .i64 k] w fun e w1 => ∃ ba, e = .returned (.pointer (some ⟨ba, 0, none⟩)) ∧ Calls Try.prog 6 #[.int .i64 k] w1 fun e w2 => ∃ bb, e = .returned (.pointer (some ⟨bb, 0, none⟩)) ∧ Two w k ba [] bb [] w2 :=
  (new_any k w).mono fun e w1 ⟨ba, Ta, he, hb, hB⟩ => ⟨ba, he, (new_any k w1).mono fun e w2 ⟨bb, Tb, he2, hb2, hB2⟩ => ⟨bb, he2, Ta, Tb, hB.below hb2 (Nat.le_refl _), Be.base hB2 hb.size, fun i h1 h2 => by
    have := (hB.low h1).2
    have := (hB2.low h2).1
    omega, hb.trans (hb2.mono hb.size), Nat.le_trans hb.size hb2.size⟩⟩
theorem new3 (h : Two w k ba la bb lb W) : Calls Try.prog 6 #[.int .i64 k] W fun e w2 => ∃ bc, e = .returned (.pointer (some ⟨bc, 0, none⟩)) ∧ Three w k ba la bb lb bc [] w2 := by
  obtain ⟨Ta, Tb, h1, h2, h3, h4, h5⟩ := h
  exact (new_any k W).mono fun e w2 ⟨bc, Tc, he, hb, hB⟩ => ⟨bc, he, Ta, Tb, Tc, h1.below hb (Nat.le_refl _), h2.below hb (Nat.le_refl _), Be.base hB h5, fun i e1 => by
    have := (hB.low e1).1
    exact ⟨fun e2 => by have := (h1.low e2).2; omega, fun e2 => by have := (h2.low e2).2; omega⟩, h4.trans (hb.mono h5), Nat.le_trans h5 hb.size⟩
end
/-- a row turned on -/
def rot (n : Nat) (l : List Hit) : List Hit := l.drop n ++ l.take n
theorem rot_perm (n : Nat) (l : List Hit) : l.Perm (rot n l) := by
  have h := List.perm_append_comm (l₁ := l.take n) (l₂ := l.drop n)
  rw [List.take_append_drop] at h
  exact h
theorem rot_length (n : Nat) (l : List Hit) : (rot n l).length = l.length := (rot_perm n l).length_eq.symm
theorem rot_at {n i m : Nat} {l : List Hit} (hn : n < l.length) (hi : i < l.length) (hm : (i + n) % l.length = m) : ∃ h : m < l.length, (rot n l)[i]'(by rw [rot_length]; exact hi) = l[m] := by
  have hlt : m < l.length := by rw [← hm]; exact Nat.mod_lt _ (by omega)
  refine ⟨hlt, ?_⟩
  unfold rot
  by_cases h : i + n < l.length
  · rw [Nat.mod_eq_of_lt h] at hm
    rw [List.getElem_append_left (by rw [List.length_drop]; omega), List.getElem_drop]
    congr 1
    omega
  · have e : (i + n) % l.length = i + n - l.length := by rw [Nat.mod_eq_sub_mod (by omega), Nat.mod_eq_of_lt (by omega)]
    rw [e] at hm
    rw [List.getElem_append_right (by rw [List.length_drop]; omega), List.getElem_take]
    congr 1
    rw [List.length_drop]
    omega
set_option maxRecDepth 100000 in
set_option maxHeartbeats 12800000 in
theorem walk (k turn : Int) (A : Option Addr) (c : Nat) (l : List Hit) (hm : l.length * 16 ≤ 140737488355328) (hlc : l.length ≤ c) (w : World) (hs : Sl w w.heap.size A (hv l)) :
    Calls Try.prog 4 #[.int .i64 k, .slice A l.length c, .int .i64 turn] w fun e w' => e = .returned (.bool true) ∧ Below w.heap.size w w' := by
  have HN := Lib.hid (new1 k w)
  have HS := Lib.hid hs
  clear hs
  go_enter Try.func4, Try.ntmps4
  go_wp2_with (fail)
  refine HN.out.mono ?_
  rintro e w1 ⟨ba, rfl, hn2⟩
  have HN2 := Lib.hid hn2
  clear HN hn2
  go_wp2_with (fail)
  refine HN2.out.mono ?_
  rintro e w2 ⟨bb, rfl, hq⟩
  have HQ := Lib.hid hq
  clear HN2 hq
  go_wp2_with (fail)
  go_loopg [9] l.length (fun gk s9 wr => ∃ i : Nat, gk = l.length - i ∧ i ≤ l.length ∧ s9 = .int .i64 i ∧ Two w k ba (l.take i) bb (l.reverse.take i) wr)
  case atStart => exact ⟨0, rfl, Nat.zero_le _, rfl, by rw [List.take_zero, List.take_zero]; exact HQ.out⟩
  case round =>
    clear HQ
    obtain ⟨i, rfl, hi, rfl, hq⟩ := hrel
    by_cases hlt : i < l.length
    · obtain ⟨b, o, rfl, hbb, hcells⟩ := Sl.hit HS.out (by omega)
      obtain ⟨m, hmm⟩ : ∃ m, m = l.length - 1 - i := ⟨_, rfl⟩
      have hml : m < l.length := by omega
      obtain ⟨hc0, hc1⟩ := hcells i hlt
      obtain ⟨hd0, hd1⟩ := hcells m hml
      obtain ⟨i1, hi1⟩ : ∃ i1, i1 = i + 1 := ⟨_, rfl⟩
      obtain ⟨n0, hn0⟩ : ∃ n0, n0 = l.length - 1 := ⟨_, rfl⟩
      have j1 : (i : Int) < (l.length : Int) := by omega
      have j2 : IntKind.i64.wrap ((i : Int) + 1) = (i1 : Int) := by rw [IntKind.wrap_i64]; omega
      have j3 : IntKind.i64.wrap ((l.length : Int) - 1) = (n0 : Int) := by rw [IntKind.wrap_i64]; omega
      have j4 : IntKind.i64.wrap ((n0 : Int) - (i : Int)) = (m : Int) := by rw [IntKind.wrap_i64]; omega
      have j5 : (m : Int) < (l.length : Int) := by omega
      obtain ⟨x, hx⟩ : ∃ x, l[i] = x := ⟨_, rfl⟩
      obtain ⟨y, hy⟩ : ∃ y, l[m] = y := ⟨_, rfl⟩
      have htk : l.take i1 = l.take i ++ [x] := by rw [hi1, List.take_succ_eq_append_getElem hlt, hx]
      have htr : l.reverse.take i1 = l.reverse.take i ++ [y] := by
        rw [hi1, List.take_succ_eq_append_getElem (by simpa using hlt), List.getElem_reverse, ← hy]
        simp only [hmm]
      rw [hx] at hc0 hc1
      rw [hy] at hd0 hd1
      have HA1 : Hid (Calls Try.prog 9 #[.pointer (some ⟨ba, 0, none⟩), .agg #[.int .u64 x.1, .int .i64 x.2]] wr fun e w' => (∃ q, e = .returned (.bool q)) ∧ Two w k ba (l.take i1) bb (l.reverse.take i) w') := Lib.hid (by
        rw [htk]
        exact hq.add x (by rw [List.length_take]; omega))
      have HA2 : Hid (∀ W, Two w k ba (l.take i1) bb (l.reverse.take i) W → (W.cell? ⟨b, o + m * 2, none⟩ = some (.int .u64 y.1) ∧ W.cell? ⟨b, o + m * 2 + 1, none⟩ = some (.int .i64 y.2)) ∧ Calls Try.prog 9 #[.pointer (some ⟨bb, 0, none⟩), .agg #[.int .u64 y.1, .int .i64 y.2]] W fun e w' => (∃ q, e = .returned (.bool q)) ∧ Two w k ba (l.take i1) bb (l.reverse.take i1) w') := Lib.hid fun W h => by
        obtain ⟨Ta, Tb, h1, h2, h3, h4, h5⟩ := h
        refine ⟨⟨(h4.cell (p := ⟨b, _, none⟩) hbb).trans hd0, (h4.cell (p := ⟨b, _, none⟩) hbb).trans hd1⟩, ?_⟩
        rw [htr]
        exact ((Two.swap ⟨Ta, Tb, h1, h2, h3, h4, h5⟩).add y (by rw [List.length_take]; omega)).mono fun e w' ⟨he, h⟩ => ⟨he, h.swap⟩
      have HC : Hid (wr.cell? ⟨b, o + i * 2, none⟩ = some (.int .u64 x.1) ∧ wr.cell? ⟨b, o + i * 2 + 1, none⟩ = some (.int .i64 x.2)) := Lib.hid (by
        obtain ⟨Ta, Tb, h1, h2, h3, h4, h5⟩ := hq
        exact ⟨(h4.cell (p := ⟨b, _, none⟩) hbb).trans hc0, (h4.cell (p := ⟨b, _, none⟩) hbb).trans hc1⟩)
      have HI1 := Lib.hid hi1
      clear hx hy htk htr hc0 hc1 hd0 hd1 hcells hq hi1 hn0 hmm
      obtain ⟨x1, x2⟩ := x
      obtain ⟨y1, y2⟩ := y
      dsimp only at HA1 HA2 HC
      obtain ⟨q0, q1⟩ := HC.out
      go_wp2_with (fail)
      refine HA1.out.mono ?_
      rintro e w3 ⟨⟨q, rfl⟩, hq3⟩
      obtain ⟨⟨p0, p1⟩, ha2⟩ := HA2.out w3 hq3
      have HA3 := Lib.hid ha2
      clear ha2 hq3 HA1 HA2 HC q0 q1
      go_wp2_with (fail)
      refine HA3.out.mono ?_
      rintro e w4 ⟨⟨q', rfl⟩, hq4⟩
      have HQ4 := Lib.hid hq4
      clear hq4 HA3
      go_wp2_with (fail)
      go_roundg (l.length - i1)
      case measure => have := HI1.out; omega
      case rel => exact ⟨i1, rfl, by have := HI1.out; omega, rfl, HQ4.out⟩
    · obtain rfl : i = l.length := by omega
      have j1 : ¬ (l.length : Int) < (l.length : Int) := by omega
      rw [List.take_length, List.take_of_length_le (by simp)] at hq
      have HN3 := Lib.hid (new3 hq)
      clear hq
      go_wp2_with (fail)
      refine HN3.out.mono ?_
      rintro e w3 ⟨bc, rfl, hq3⟩
      have HQ3 := Lib.hid hq3
      clear hq3 HN3
      go_upto_region 9 with (fail)
      go_cut [47] from 41 (fun s47 wx => s47 = .bool (decide (0 < turn ∧ 0 < l.length)) ∧ wx = w3)
      case first =>
        by_cases h1 : 0 < turn
        · have z1 : decide (0 < turn) = true := decide_eq_true h1
          by_cases h2 : 0 < l.length
          · have z2 : decide (0 < l.length) = true := decide_eq_true h2
            have z3 : decide ((0 : Int) < (l.length : Int)) = true := decide_eq_true (by omega)
            have z4 : (0 : Int) < (l.length : Int) := by omega
            have z5 : decide (0 < turn ∧ 0 < l.length) = true := decide_eq_true ⟨h1, h2⟩
            go_wp2_with (fail)
            go_meet
            case rel => exact ⟨by rw [z5], rfl⟩
          · have z2 : decide (0 < l.length) = false := decide_eq_false h2
            have z3 : decide ((0 : Int) < (l.length : Int)) = false := decide_eq_false (by omega)
            have z5 : decide (0 < turn ∧ 0 < l.length) = false := decide_eq_false fun h => h2 h.2
            go_wp2_with (fail)
            go_meet
            case rel => exact ⟨by rw [z5], rfl⟩
        · have z1 : decide (0 < turn) = false := decide_eq_false h1
          have z5 : decide (0 < turn ∧ 0 < l.length) = false := decide_eq_false fun h => h1 h.1
          go_wp2_with (fail)
          go_meet
          case rel => exact ⟨by rw [z5], rfl⟩
      case rest =>
        obtain ⟨rfl, rfl⟩ := hcut
        go_upto_if 47 with (fail)
        go_cut [11] from 41 (fun s11 wx => (∃ n : Nat, s11 = .int .i64 n ∧ (n < l.length ∨ n = 0)) ∧ wx = wc)
        case first =>
          by_cases h1 : 0 < turn ∧ 0 < l.length
          · have z5 : decide (0 < turn ∧ 0 < l.length) = true := decide_eq_true h1
            obtain ⟨h1, h2⟩ := h1
            obtain ⟨n, hn⟩ : ∃ n : Nat, Int.tmod turn (l.length : Int) = (n : Int) := ⟨(Int.tmod turn (l.length : Int)).toNat, by
              have := Int.tmod_nonneg (l.length : Int) (Int.le_of_lt h1)
              omega⟩
            have hnl : n < l.length := by
              have := Int.tmod_lt_of_pos turn (b := (l.length : Int)) (by omega)
              omega
            have HNL := Lib.hid hnl
            have z6 : ((l.length : Int) == 0) = false := by rw [beq_eq_false_iff_ne]; omega
            have z7 : (l.length : Int) ≠ 0 := by omega
            have z8 : IntKind.i64.wrap (n : Int) = (n : Int) := by rw [IntKind.wrap_i64]; omega
            clear hnl
            go_wp2_with (fail)
            go_meet
            case rel => exact ⟨⟨n, rfl, .inl HNL.out⟩, rfl⟩
          · have z5 : decide (0 < turn ∧ 0 < l.length) = false := decide_eq_false h1
            go_wp2_with (fail)
            go_meet
            case rel => exact ⟨⟨0, rfl, .inr rfl⟩, rfl⟩
        case rest =>
          obtain ⟨⟨n, rfl, hn⟩, rfl⟩ := hcut
          have HN := Lib.hid hn
          clear hn
          go_wp2_with (fail)
          go_loopg [12] l.length (fun gk s12 wr => ∃ i : Nat, gk = l.length - i ∧ i ≤ l.length ∧ s12 = .int .i64 i ∧ Three w k ba l bb l.reverse bc ((rot n l).take i) wr)
          case atStart => exact ⟨0, rfl, Nat.zero_le _, rfl, by rw [List.take_zero]; exact HQ3.out⟩
          case round =>
            clear HQ3
            obtain ⟨i, rfl, hi, rfl, hq⟩ := hrel
            by_cases hlt : i < l.length
            · have hnl : n < l.length := by have := HN.out; omega
              obtain ⟨b, o, rfl, hbb, hcells⟩ := Sl.hit HS.out (by omega)
              obtain ⟨m, hmm⟩ : ∃ m, (i + n) % l.length = m := ⟨_, rfl⟩
              obtain ⟨hml, hrot⟩ := rot_at hnl hlt hmm
              obtain ⟨hd0, hd1⟩ := hcells m hml
              obtain ⟨i1, hi1⟩ : ∃ i1, i1 = i + 1 := ⟨_, rfl⟩
              obtain ⟨s, hsm⟩ : ∃ s, s = i + n := ⟨_, rfl⟩
              have j1 : (i : Int) < (l.length : Int) := by omega
              have j2 : IntKind.i64.wrap ((i : Int) + 1) = (i1 : Int) := by rw [IntKind.wrap_i64]; omega
              have j3 : IntKind.i64.wrap ((i : Int) + (n : Int)) = (s : Int) := by rw [IntKind.wrap_i64]; omega
              have j4 : Int.tmod (s : Int) (l.length : Int) = (m : Int) := by
                rw [Int.tmod_eq_emod_of_nonneg (by omega), hsm, ← hmm]
                omega
              have j5 : (m : Int) < (l.length : Int) := by omega
              have j6 : ((l.length : Int) == 0) = false := by rw [beq_eq_false_iff_ne]; omega
              have j7 : (l.length : Int) ≠ 0 := by omega
              have j8 : IntKind.i64.wrap (m : Int) = (m : Int) := by rw [IntKind.wrap_i64]; omega
              have j9 : Int.emod (s : Int) (l.length : Int) = (m : Int) := by
                rw [hsm, ← hmm]; show ((i + n : Nat) : Int) % (l.length : Int) = _; omega
              obtain ⟨y, hy⟩ : ∃ y, l[m] = y := ⟨_, rfl⟩
              have htr : (rot n l).take i1 = (rot n l).take i ++ [y] := by
                rw [hi1, List.take_succ_eq_append_getElem (by rw [rot_length]; exact hlt), hrot, hy]
              rw [hy] at hd0 hd1
              have HA1 : Hid (Calls Try.prog 9 #[.pointer (some ⟨bc, 0, none⟩), .agg #[.int .u64 y.1, .int .i64 y.2]] wr fun e w' => (∃ q, e = .returned (.bool q)) ∧ Three w k ba l bb l.reverse bc ((rot n l).take i1) w') := Lib.hid (by
                rw [htr]
                exact hq.add y (by rw [List.length_take]; omega))
              have HC : Hid (wr.cell? ⟨b, o + m * 2, none⟩ = some (.int .u64 y.1) ∧ wr.cell? ⟨b, o + m * 2 + 1, none⟩ = some (.int .i64 y.2)) := Lib.hid (by
                obtain ⟨Ta, Tb, Tc, h1, h2, h0, h3, h4, h5⟩ := hq
                exact ⟨(h4.cell (p := ⟨b, _, none⟩) hbb).trans hd0, (h4.cell (p := ⟨b, _, none⟩) hbb).trans hd1⟩)
              have HI1 := Lib.hid hi1
              clear hy htr hd0 hd1 hcells hq hi1 hsm hmm hrot
              obtain ⟨y1, y2⟩ := y
              dsimp only at HA1 HC
              obtain ⟨q0, q1⟩ := HC.out
              go_wp2_with (fail)
              refine HA1.out.mono ?_
              rintro e w4 ⟨⟨q', rfl⟩, hq4⟩
              have HQ4 := Lib.hid hq4
              clear hq4 HA1
              go_wp2_with (fail)
              go_roundg (l.length - i1)
              case measure => have := HI1.out; omega
              case rel => exact ⟨i1, rfl, by have := HI1.out; omega, rfl, HQ4.out⟩
            · obtain rfl : i = l.length := by omega
              have j1 : ¬ (l.length : Int) < (l.length : Int) := by omega
              rw [List.take_of_length_le (by rw [rot_length]; exact Nat.le_refl _)] at hq
              obtain ⟨K, hK⟩ : ∃ K, keep k l = K := ⟨_, rfl⟩
              have hKb : keep k l.reverse = K := by rw [← hK]; exact keep_of_perm k (List.reverse_perm l)
              have hKc : keep k (rot n l) = K := by rw [← hK]; exact (keep_of_perm k (rot_perm n l)).symm
              have hKl : K.length ≤ l.length := by rw [← hK]; exact keep_le k l
              obtain ⟨bv, hbv⟩ : ∃ bv, bd k l = bv := ⟨_, rfl⟩
              have hbb2 : bd k l.reverse = bv := by rw [← hbv]; exact bd_of_perm k (List.reverse_perm l)
              have HLA : Hid (∀ W, Three w k ba l bb l.reverse bc (rot n l) W → Calls Try.prog 10 #[.pointer (some ⟨ba, 0, none⟩)] W fun e w' => ∃ A3 c3, e = .returned (.slice A3 K.length c3) ∧ Sl w' w'.heap.size A3 (hv K) ∧ Below W.heap.size W w' ∧ Three w k ba l bb l.reverse bc (rot n l) w') := Lib.hid fun W ⟨Ta, Tb, Tc, h1, h2, h0, h3, h4, h5⟩ => by
                have h := list_any h1 hm
                rw [hK] at h
                exact h.mono fun e w' ⟨A3, c3, he, ho, hb⟩ => ⟨A3, c3, he, Sl.of_ownK ho, hb, Three.on ⟨Ta, Tb, Tc, h1, h2, h0, h3, h4, h5⟩ hb⟩
              have HLB : Hid (∀ W, Three w k ba l bb l.reverse bc (rot n l) W → Calls Try.prog 10 #[.pointer (some ⟨bb, 0, none⟩)] W fun e w' => ∃ A3 c3, e = .returned (.slice A3 K.length c3) ∧ Sl w' w'.heap.size A3 (hv K) ∧ Below W.heap.size W w' ∧ Three w k ba l bb l.reverse bc (rot n l) w') := Lib.hid fun W ⟨Ta, Tb, Tc, h1, h2, h0, h3, h4, h5⟩ => by
                have h := list_any h2 (by rw [List.length_reverse]; exact hm)
                rw [hKb] at h
                exact h.mono fun e w' ⟨A3, c3, he, ho, hb⟩ => ⟨A3, c3, he, Sl.of_ownK ho, hb, Three.on ⟨Ta, Tb, Tc, h1, h2, h0, h3, h4, h5⟩ hb⟩
              have HLC : Hid (∀ W, Three w k ba l bb l.reverse bc (rot n l) W → Calls Try.prog 10 #[.pointer (some ⟨bc, 0, none⟩)] W fun e w' => ∃ A3 c3, e = .returned (.slice A3 K.length c3) ∧ Sl w' w'.heap.size A3 (hv K) ∧ Below W.heap.size W w' ∧ Three w k ba l bb l.reverse bc (rot n l) w') := Lib.hid fun W ⟨Ta, Tb, Tc, h1, h2, h0, h3, h4, h5⟩ => by
                have h := list_any h0 (by rw [rot_length]; exact hm)
                rw [hKc] at h
                exact h.mono fun e w' ⟨A3, c3, he, ho, hb⟩ => ⟨A3, c3, he, Sl.of_ownK ho, hb, Three.on ⟨Ta, Tb, Tc, h1, h2, h0, h3, h4, h5⟩ hb⟩
              have HSA : Hid (∀ W A1 c1 A2 c2 W1 W2, Three w k ba l bb l.reverse bc (rot n l) W → Sl W W1 A1 (hv K) → Sl W W2 A2 (hv K) → Calls Try.prog 8 #[.slice A1 K.length c1, .slice A2 K.length c2] W fun e w' => e = .returned (.bool true) ∧ Three w k ba l bb l.reverse bc (rot n l) w') := Lib.hid fun W A1 c1 A2 c2 W1 W2 h3 h1 h2 =>
                (same_any A1 A2 K c1 c2 W1 W2 W (by omega) h1 h2).mono fun e w' ⟨he, hb⟩ => ⟨he, h3.on hb⟩
              have HBA : Hid (∀ W, Three w k ba l bb l.reverse bc (rot n l) W → Calls Try.prog 12 #[.pointer (some ⟨ba, 0, none⟩)] W fun e w' => e = .returned (.int .i64 bv) ∧ Three w k ba l bb l.reverse bc (rot n l) w') := Lib.hid fun W ⟨Ta, Tb, Tc, h1, h2, h0, h3, h4, h5⟩ => by
                have h := bound_any h1
                rw [hbv] at h
                exact h.mono fun e w' ⟨he, hb⟩ => ⟨he, Three.on ⟨Ta, Tb, Tc, h1, h2, h0, h3, h4, h5⟩ hb⟩
              have HBB : Hid (∀ W, Three w k ba l bb l.reverse bc (rot n l) W → Calls Try.prog 12 #[.pointer (some ⟨bb, 0, none⟩)] W fun e w' => e = .returned (.int .i64 bv) ∧ Three w k ba l bb l.reverse bc (rot n l) w') := Lib.hid fun W ⟨Ta, Tb, Tc, h1, h2, h0, h3, h4, h5⟩ => by
                have h := bound_any h2
                rw [hbb2] at h
                exact h.mono fun e w' ⟨he, hb⟩ => ⟨he, Three.on ⟨Ta, Tb, Tc, h1, h2, h0, h3, h4, h5⟩ hb⟩
              have d1 : (bv == bv) = true := by simp
              have HQ := Lib.hid hq
              clear hK hKb hKc hKl hbv hbb2 hq
              go_wp2_with (fail)
              refine (HLA.out _ HQ.out).mono ?_
              rintro e w4 ⟨A1, c1, rfl, hs1, hb1, hq1⟩
              have HS1 := Lib.hid hs1
              have HQ1 := Lib.hid hq1
              clear hs1 hb1 hq1 HQ
              go_wp2_with (fail)
              refine (HLB.out _ HQ1.out).mono ?_
              rintro e w5 ⟨A2, c2, rfl, hs2, hb2, hq2⟩
              have HS2 := Lib.hid (HSA.out w5 A1 c1 A2 c2 _ _ hq2 (HS1.out.below hb2) hs2)
              clear hs2 hb2 hq2 HS1 HQ1 HLB
              go_wp2_with (fail)
              refine HS2.out.mono ?_
              rintro e w6 ⟨rfl, hq6⟩
              have HQ6 := Lib.hid hq6
              clear hq6 HS2
              go_wp2_with (fail)
              refine (HLA.out _ HQ6.out).mono ?_
              rintro e w7 ⟨A3, c3, rfl, hs3, hb3, hq3⟩
              have HS3 := Lib.hid hs3
              have HQ7 := Lib.hid hq3
              clear hs3 hb3 hq3 HQ6 HLA
              go_wp2_with (fail)
              refine (HLC.out _ HQ7.out).mono ?_
              rintro e w8 ⟨A4, c4, rfl, hs4, hb4, hq4⟩
              have HS4 := Lib.hid (HSA.out w8 A3 c3 A4 c4 _ _ hq4 (HS3.out.below hb4) hs4)
              clear hs4 hb4 hq4 HS3 HQ7 HLC HSA
              go_wp2_with (fail)
              refine HS4.out.mono ?_
              rintro e w9 ⟨rfl, hq9⟩
              have HB9 := Lib.hid (HBA.out w9 hq9)
              clear hq9 HS4 HBA
              go_wp2_with (fail)
              refine HB9.out.mono ?_
              rintro e w10 ⟨rfl, hq10⟩
              have HB10 := Lib.hid (HBB.out w10 hq10)
              clear hq10 HB9 HBB
              go_wp2_with (fail)
              refine HB10.out.mono ?_
              rintro e w11 ⟨rfl, hq11⟩
              have HL : Hid (Calls Try.prog 15 #[] w11 fun e w' => e = .returned (.bool true) ∧ Below w.heap.size w w') := Lib.hid (by
                obtain ⟨Ta, Tb, Tc, h1, h2, h0, h3, h4, h5⟩ := hq11
                exact (lives_any w11).mono fun e w' ⟨he, hb⟩ => ⟨he, h4.trans (hb.mono h5)⟩)
              clear hq11 HB10
              go_wp2_with (fail)
              refine HL.out.mono ?_
              rintro e w12 ⟨rfl, hb12⟩
              have HB12 := Lib.hid hb12
              clear HL hb12
              go_wp2_with (fail)
              go_ret
              exact ⟨rfl, HB12.out⟩

theorem lifted (os : Os) (started : os.Started) (H : Type) (enc : TypeId × Value → H) :
    ReturnsInHanded {} Try.checked os 4 .any (Rows.bestOrderSpec.pre6 enc Try.prog Try.f4 Rows.bestOrderRow.domain false) (Rows.bestOrderSpec.post enc Try.prog Try.f4 false true false false) := by
  refine lift (C := Try.checked) (by kernel_rfl) started (by kernel_rfl) Try.func4 rfl (by kernel_rfl) (by kernel_rfl) rfl Try.underlying4
    (fun ds hd => by match ds, hd with | [_, _, _], _ => exact ⟨rfl, rfl, rfl⟩)
    (ChangeSpec.witness6 (enc := enc) (C := Try.checked) false ⟨#[], #[.int .i64 0, .slice none 0 0, .int .i64 0], []⟩ 8 (by kernel_rfl) (by kernel_rfl) (by kernel_rfl) (by kernel_rfl)) ?_
  intro W base args ds before hval0 hA0 hfz hsz0
  have hval : ∀ (j : Nat) t v, Try.f4.params[j]? = some t → args[j]? = some v → Value.okWide Try.prog W .any base t v := hval0
  have hA : DataW.TrodAll enc Try.prog W 0 (fun _ => true) true Try.f4.params.toList args.toList ds before := hA0
  have hsz : (DataW.weightsEach Try.prog Try.f4.params.toList ds).all (· ≤ reachBytes) = true := hsz0
  rw [Try.params4] at hA hval hsz
  obtain ⟨v0, vs0, d0, ds0, p0, q0, hargs, rfl, rfl, h0, r0⟩ := trodAll_cons hA
  obtain ⟨v1, vs1, d1, ds1, p1, q1, rfl, rfl, rfl, h1, r1⟩ := trodAll_cons r0
  obtain ⟨v2, vs2, d2, ds2, p2, q2, rfl, rfl, rfl, h2', r2⟩ := trodAll_cons r1
  obtain ⟨rfl, rfl, rfl⟩ := trodAll_nil r2
  obtain rfl : args = #[v0, v1, v2] := by cases args; simp_all
  obtain ⟨k, rfl, rfl, rfl, wk⟩ := open_int Try.underlying3 (hval 0 3 v0 rfl rfl) h0
  obtain ⟨A, c, l, rfl, hlc, hs, hd⟩ := open_hitsc (hval 1 22 v1 rfl rfl) h1
  obtain ⟨turn, rfl, rfl, rfl, wt⟩ := open_int Try.underlying3 (hval 2 3 v2 rfl rfl) h2'
  have hm : l.length * 16 ≤ 140737488355328 := by
    rcases hd with rfl | ⟨el, sp, rfl, hle⟩
    · simp
    · have h2 := sized_slice hsz (j := 1) rfl rfl Try.underlying22
      rw [show Try.prog.bytesOf 30 = 16 from by kernel_rfl] at h2
      have hr := reachBytes_lt
      omega
  exact walk k turn A c l hm hlc W hs

theorem proved : Rows.BestOrderSaid :=
  OpenClaim.holds_of_wide 4 Try.f4 rfl rfl rfl rfl rfl rfl rfl ⟨rfl, rfl, rfl, rfl, rfl⟩ rfl rfl rfl rfl rfl (by kernel_rfl) Try.func4 (by kernel_rfl)
    (of_decide_eq_true (by kernel_rfl)) (by unfold Func.isWrapper; first | (rw [if_pos (by decide +kernel)]; kernel_rfl) | (rw [if_neg (by decide +kernel)]; exact ⟨rfl, rfl⟩))
    (fun os started H enc _ => lifted os started H enc)
#print axioms proved
end Go.Proofs.Ytbpahlhmdbahjaa.bestOrder
