/-
  The contracts of object.numbers and of what it calls.
-/
import Derived.Test.YtlgjbdgolchadaaReads5
import Derived.Test.YtlgjbdgolchadaaCodec
import Derived.Test.YtlgjbdgolchadaaClone
import Derived.Lib.Walk
import Derived.Lib.AppendZerosOnto
import Derived.Deep.LoopGhost
namespace Go.Proofs.Ytlgjbdgolchadaa.obj
open Go.RowKit law bytes nums ord code
set_option linter.unusedVariables false

/-- room, and nothing in it -/
def Room (w : World) (e : Ending) (w' : World) : Prop := ∃ A c, e = .returned (.slice A 0 c) ∧ w'.ownsRow w.heap.size 21 1 (.slice A 0 c) 0 [] ∧ Below w.heap.size w w'
set_option maxHeartbeats 800000 in
theorem grow_any (m : Nat) (hm : m ≤ 65536) (w : World) : Calls Try.prog 55 #[.slice none 0 0, .int .i64 m] w (Room w) := by
  have h1 : decide ((m : Int) < 0) = false := decide_eq_false (by omega)
  rcases Nat.eq_zero_or_pos m with rfl | hp
  · go_enter Try.func55, Try.ntmps55
    go_wp2
    go_ret
    exact ⟨none, 0, rfl, World.ownsRow_nil _ _ _ _, Below.refl _ _⟩
  · obtain ⟨i0, hi, hz0, hz1, hz2, _⟩ := int32E
    have h2 : decide ((0 : Int) < (m : Int)) = true := decide_eq_true (by omega)
    have hold : (Builtin.firstCells i0.size 0 (.slice none 0 0)).run Try.prog w.drew = .ok ([] : List Value).toArray w.drew := run_firstCells_none w.drew _ 0 0 0
    have h := fun ty => Lib.run_append_grow_zeros w 22 3 ty 21 i0 (.int .i32 0) .i64 .i64 Try.underlying22 Try.underlying3 hi hz0 none 0 0 [] hold m hp (by omega) (by omega) (by omega) (by rw [hz2]; omega) (growslice_fits (by omega) (by rw [hz2]; omega))
    obtain ⟨G, hG⟩ : ∃ G, G = grownCap w (0 + m) 0 21 := ⟨_, rfl⟩
    have hG1 : 0 + m ≤ G := by rw [hG]; exact grownCap_ge w _ _ _
    have hG2 : G ≤ maxLen := by rw [hG]; exact grownCap_le_maxLen w _ _ _ (by unfold maxLen; omega)
    rw [← hG, Nat.zero_add] at h
    obtain ⟨cur, hc⟩ : ∃ cur, cur = (([] : List Value).toArray ++ Builtin.zeroCells (Value.int .i32 0).cells m ++ Builtin.zeroCells (Value.int .i32 0).cells (G - m)) := ⟨_, rfl⟩
    have hcs : cur.size = G * 1 := by rw [hc]; simp [size_zeroCells, Value.cells]; omega
    rw [← hc] at h
    have hown := World.ownsRow_made (base := w.heap.size) (e := 21) (size := 1) w.drew cur G (Nat.le_refl _) hG2 hcs
    clear hc hcs hold hG hi hz0 hz1 hz2
    have hG3 : G ≤ 9223372036854775807 := by unfold maxLen at hG2; omega
    clear hG2
    go_enter Try.func55, Try.ntmps55
    go_wp2_with (at_builtin; refine Lib.wpList_append_run _ rfl _ _ _ _ rfl _ _ rfl rfl _ _ (h _) ?_)
    go_ret
    exact ⟨_, G, rfl, hown, ((Below.refl _ w).drew).alloc (Nat.le_refl _) _⟩

theorem broken_any (g : Nat) (s : St) (w : World) (hr : Rd w g s) (hc : nums.Clean s) (hl : s.b.length ≤ 281474976710656) :
    Calls Try.prog 42 #[.pointer (some ⟨g, 0, none⟩)] w fun e w' => e = .returned (.bool (decide (s.e ≠ 0))) ∧ w = w' := by
  have hL := left_any g s w hr hl
  have hE := end_any g s w hr hl
  have HL := Lib.hid hL
  by_cases he : s.e = 0
  · rw [decide_eq_false (by simp [he])]
    by_cases hz : s.b.length = 0
    · have d : ((s.b.length : Int) == 0) = true := by rw [beq_iff_eq]; omega
      have e1 : endP s = 0 := by unfold endP; rw [if_pos he, if_pos hz]
      rw [e1] at hE
      have HE := Lib.hid hE
      clear hL hE he hz e1 hr
      go_enter Try.func42, Try.ntmps42
      go_wp2_with (fail)
      refine HL.out.mono ?_
      rintro e w1 ⟨rfl, rfl⟩
      go_wp2_with (fail)
      refine HE.out.mono ?_
      rintro e w1 ⟨rfl, rfl⟩
      go_wp2_with (fail)
      go_ret
      exact ⟨rfl, rfl⟩
    · have d : ((s.b.length : Int) == 0) = false := by rw [beq_eq_false_iff_ne]; omega
      clear hL hE he hz hr
      go_enter Try.func42, Try.ntmps42
      go_wp2_with (fail)
      refine HL.out.mono ?_
      rintro e w1 ⟨rfl, rfl⟩
      go_wp2_with (fail)
      go_ret
      exact ⟨rfl, rfl⟩
  · rw [decide_eq_true he]
    have hb := hc he
    have d : ((s.b.length : Int) == 0) = true := by rw [hb]; rfl
    have e1 : endP s = s.e := by unfold endP; rw [if_neg he]
    rw [e1] at hE
    have d1 : (s.e == 0) = false := by simpa using he
    have d2 : (s.e != 0) = true := by simpa using he
    have HE := Lib.hid hE
    clear hL hE he hb e1 hr hc
    go_enter Try.func42, Try.ntmps42
    go_wp2_with (fail)
    refine HL.out.mono ?_
    rintro e w1 ⟨rfl, rfl⟩
    go_wp2_with (fail)
    refine HE.out.mono ?_
    rintro e w1 ⟨rfl, rfl⟩
    go_wp2_with (fail)
    go_ret
    exact ⟨rfl, rfl⟩

/-- what was read of a vector; the reader alone has turned, and what is new -/
def Nums (g : Nat) (s : St) (w : World) (e : Ending) (w' : World) : Prop :=
  ∃ A n c, e = .returned (.slice A n c) ∧ n ≤ 65536 ∧ w.grownBy w' (some g) ∧ Rd w' g (stN (numS s (mayN 65536)).2 (numS s (mayN 65536)).1) ∧
    ((stN (numS s (mayN 65536)).2 (numS s (mayN 65536)).1).e = 0 → n = (numS s (mayN 65536)).1 ∧ w'.ownsRow w.heap.size 21 1 (.slice A n c) n (iv (vals (numS s (mayN 65536)).2 (numS s (mayN 65536)).1)))
theorem iv_one_cons (v : Int) : iv [v] = [.int .i32 v] := rfl
theorem only_of_below {a w : World} {row : Option Nat} (h : Below a.heap.size a w) : a.grownBy w row := ⟨h.os, h.tape, h.output, h.size, fun i hi _ => h.block i hi⟩
theorem only_row {a b c : World} {g : Nat} {row : Option Nat} (h : a.grownBy b (some g)) (k : b.grownBy c row) (hr : ∀ j, row = some j → a.heap.size ≤ j) : a.grownBy c (some g) :=
  only_step h k.os k.tape k.output k.size fun i hi hne => k.block i (Nat.lt_of_lt_of_le hi h.size) (fun e => by have := hr i e.symm; omega)
theorem Rd.below' {w w' : World} {g : Nat} {s : St} (h : Rd w g s) (hb : Below w.heap.size w w') : Rd w' g s := h.below hb h.lt
set_option maxHeartbeats 1600000 in
set_option maxRecDepth 100000 in
theorem numbers_any (g : Nat) (s : St) (w : World) (hr : Rd w g s) (hc : nums.Clean s) (hl : s.b.length ≤ 281474976710656) :
    Calls Try.prog 40 #[.pointer (some ⟨g, 0, none⟩)] w (Nums g s w) := by
  have hN := rnum_read g s 65536 w hr hl
  have hm := num_most s 65536
  have hcl := numS_clean hc (mayN 65536)
  have hln := numS_len s (mayN 65536)
  have hg := hr.lt
  unfold Nums
  rw [show ((65536 : Nat) : Int) = 65536 from by omega] at hN
  obtain ⟨r, hr2⟩ : ∃ r, r = numS s (mayN 65536) := ⟨_, rfl⟩
  rw [← hr2] at hN hm hcl hln ⊢
  obtain ⟨n, s1⟩ := r
  simp only at hN hm hcl hln ⊢
  have hz0 : s1.e ≠ 0 → n = 0 := fun h => by
    have := numS_zero (s := s) (may := mayN 65536) (by rw [← hr2]; exact h)
    rw [← hr2] at this
    exact this
  have HN := Lib.hid hN
  have HZ := Lib.hid hz0
  have HC : Hid (∀ k, nums.Clean (stN s1 k)) := Lib.hid fun k => stN_clean hcl k
  have HLN : Hid (∀ k, (stN s1 k).b.length ≤ 281474976710656) := Lib.hid fun k => by have := stN_len s1 k; omega
  have HSTEP : Hid (∀ k, stN s1 (k + 1) = (numS (stN s1 k) m32).2 ∧ valN s1 k = decI (numS (stN s1 k) m32).1) := Lib.hid fun k => ⟨rfl, rfl⟩
  have HST : Hid (∀ k, k ≤ n → (stN s1 k).e ≠ 0 → stN s1 n = stN s1 k) := Lib.hid fun k hk h => stN_stable h n hk
  obtain ⟨m, hmn, hm6⟩ : ∃ m : Nat, min (n : Int) (s1.b.length : Int) = (m : Int) ∧ m ≤ 65536 := ⟨min n s1.b.length, by omega, by omega⟩
  have HM := Lib.hid hmn
  have HG := fun W => grow_any m hm6 W
  have HG := Lib.hid HG
  clear hN hz0 hcl hln hr2 hc hl hr hmn
  go_enter Try.func40, Try.ntmps40
  go_wp2_with (fail)
  refine HN.out.mono ?_
  rintro e w1 ⟨rfl, hg1, hr1⟩
  have hL1 := left_any g s1 w1 hr1 (by have := HLN.out 0; exact this)
  have HL1 := Lib.hid hL1
  clear hL1
  go_wp2_with (fail)
  refine HL1.out.mono ?_
  rintro e w1' ⟨rfl, rfl⟩
  go_wp2_with (fail)
  rw [HM.out]
  refine (HG.out w1).mono ?_
  rintro e w2 ⟨A2, c2, rfl, hown2, hb2⟩
  have hr2 := Rd.below' hr1 hb2
  have hg2 : w.grownBy w2 (some g) := only_trans hg1 (only_of_below hb2)
  have hown2' := own_base hown2 hg1.size
  clear HM HL1 hown2 hr1 hg1 hb2 HG hm6
  go_wp2_with (fail)
  go_loopg [4, 14] n (fun gk l i wr => ∃ (k c : Nat) (A : Option Addr), k ≤ n ∧ gk = n - k ∧ i = .int .i64 k ∧ l = .slice A k c ∧ wr.ownsRow w.heap.size 21 1 (.slice A k c) k (iv (vals s1 k)) ∧ Rd wr g (stN s1 k) ∧ w.grownBy wr (some g))
  case atStart => exact ⟨0, c2, A2, Nat.zero_le _, rfl, rfl, rfl, hown2', hr2, hg2⟩
  case round =>
    clear hown2' hr2 hg2
    obtain ⟨k, c, A, hk, rfl, rfl, rfl, hown, hrk, hgk⟩ := hrel
    by_cases hlt : k < n
    · have hI := rint_read g (stN s1 k) (-2147483648) 2147483647 wr hrk (HLN.out k)
      obtain ⟨e1, e2⟩ := HSTEP.out k
      rw [show mayI (-2147483648) 2147483647 = m32 from rfl, ← e1, ← e2] at hI
      have hv := valN_bd s1 k
      have HV := Lib.hid (vals_succ s1 k)
      have HI := Lib.hid hI
      clear hI e1 e2
      generalize valN s1 k = v at HI hv HV
      have hw32 : IntKind.i32.wrap v = v := by rw [IntKind.wrap_i32]; omega
      go_wp2_with (fail)
      refine HI.out.mono ?_
      rintro e w3 ⟨rfl, hg3, hr3⟩
      have hown3 := hown.kept hg3 (.inr fun e => by have := (hown.lt g e).1; omega)
      have hgk3 := only_trans hgk hg3
      have hsz3 := hgk3.size
      have HC1 := HC.out (k + 1)
      have HL1 := HLN.out (k + 1)
      clear hown hgk hg3 hrk
      go_wp2_with (at_builtin
                   refine wpList_append_sl _ rfl (.tmp 16) (.tmp 20) _ rfl w.heap.size 21 _ 4 Try.underlying22 int32E (.slice A k c) k (iv (vals s1 k)) rfl (hown3.alloc _) _ _ 1 1 [.int .i32 v] rfl (Sl.one w3 _ _) rfl (by simp [Value.oneCell']) (by omega) (by unfold maxLen; omega) (by simp; omega) ?_
                   intro v4 w4 hown4 hg4 hat4
                   obtain ⟨A4, c4, rfl, hc4⟩ := own_slice hown4
                   have hr4 := (hr3.alloc (.cells #[.int .i32 v] 21)).grown hg4 (fun j hj => by have := (hown3.lt j hj).1; omega)
                   have hgk4 := only_row (only_alloc hgk3 _) hg4 (fun j hj => (hown3.lt j hj).1)
                   rw [← iv_one_cons, ← iv_append, ← HV.out] at hown4
                   have hB4 := broken_any g _ w4 hr4 HC1 HL1)
      by_cases he : (stN s1 (k + 1)).e = 0
      · rw [decide_eq_false (by simp [he])] at hB4
        have HB4 := Lib.hid hB4
        clear hB4 he
        refine HB4.out.mono ?_
        rintro e w5 ⟨rfl, rfl⟩
        go_wp2_with (fail)
        go_roundg (n - (k + 1))
        case measure => omega
        case rel => exact ⟨k + 1, c4, A4, by omega, rfl, by go_num, rfl, hown4, hr4, hgk4⟩
      · rw [decide_eq_true he] at hB4
        have HB4 := Lib.hid hB4
        clear hB4
        refine HB4.out.mono ?_
        rintro e w5 ⟨rfl, rfl⟩
        have HE := Lib.hid he
        clear he
        go_wp2_with (fail)
        go_ret
        have hst := HST.out (k + 1) (by omega) HE.out
        rw [hst]
        exact ⟨none, 0, 0, rfl, by omega, hgk4, hr4, fun h => absurd h HE.out⟩
    · obtain rfl : k = n := by omega
      go_wp2_with (fail)
      go_ret
      exact ⟨A, k, c, rfl, hm, hgk, hrk, fun _ => ⟨rfl, hown⟩⟩
end Go.Proofs.Ytlgjbdgolchadaa.obj
