/-
  The document's Bulk of items (waywiserref21): a loop over its Put.
-/
import Derived.Test.YtaamlidflfdjkaaStT
namespace Go.Proofs.Ytaamlidflfdjkaa.store
open Go.RowKit law bytes only flat ord obj
open aro (Kept zK)
set_option linter.unusedVariables false
set_option maxRecDepth 100000
/-- what one more thing leaves -/
def bput (o : Option (List (Int × Kept))) (p : Int × Kept) : Option (List (Int × Kept)) := o.bind fun q => if (gq q p.1).isSome = true then none else some (insQ q p.1 p.2)
def bst (q l : List (Int × Kept)) : Option (List (Int × Kept)) := l.foldl bput (some q)
theorem bput_none (l : List (Int × Kept)) : l.foldl bput none = none := by
  induction l with
  | nil => rfl
  | cons p l ih => exact ih
theorem bst_next {q l : List (Int × Kept)} {k : Nat} (hk : k < l.length) : bst q (l.take (k + 1)) = bput (bst q (l.take k)) l[k] := by
  unfold bst
  rw [List.take_succ_eq_append_getElem hk, List.foldl_append]
  rfl
theorem bst_stop {q l : List (Int × Kept)} {k : Nat} (hk : k ≤ l.length) (h : bst q (l.take k) = none) : bst q l = none := by
  have e : bst q l = (l.drop k).foldl bput (bst q (l.take k)) := by
    unfold bst
    rw [← List.foldl_append, List.take_append_drop]
  rw [e, h, bput_none]
def bres (q l : List (Int × Kept)) : List (Int × Kept) := match bst q l with
  | some r => r
  | none => q
def berr (q l : List (Int × Kept)) : Int := match bst q l with
  | some r => 0
  | none => 4
theorem insQ_rise {q : List (Int × Kept)} {id : Int} {x : Kept} (h : RiseQ q) : RiseQ (insQ q id x) := by
  unfold RiseQ insQ at *
  refine List.pairwise_append.2 ⟨h.filter _, List.pairwise_cons.2 ⟨fun p hp => ?_, h.filter _⟩, fun a ha b hb => ?_⟩
  · simpa using (List.mem_filter.1 hp).2
  · have h1 : a.1 < id := by simpa using (List.mem_filter.1 ha).2
    rcases List.mem_cons.1 hb with rfl | hb
    · exact h1
    · have h2 : id < b.1 := by simpa using (List.mem_filter.1 hb).2
      omega
theorem insQ_len (q : List (Int × Kept)) (id : Int) (x : Kept) : (insQ q id x).length ≤ q.length + 1 := by
  unfold insQ
  induction q with
  | nil => simp
  | cons p q ih =>
    simp only [List.length_append, List.length_cons, List.filter_cons] at ih ⊢
    by_cases h1 : p.1 < id
    · have h2 : ¬ id < p.1 := by omega
      simp [h1, h2]
      omega
    · by_cases h2 : id < p.1
      · simp [h1, h2]
        omega
      · simp [h1, h2]
        omega
/-- what a turn of the loop finds -/
def BqS (w : World) (T : Nat → Prop) (q l : List (Int × Kept)) (i : Nat) (r : List (Int × Kept)) (A : Option Addr) (W : World) : Prop :=
  Below w.heap.size w W ∧ bst q (l.take i) = some r ∧ RiseQ r ∧ r.length ≤ q.length + i ∧ Away W T A (r.flatMap iE)
section
variable {w w' W : World} {T : Nat → Prop} {q l r : List (Int × Kept)} {A A0 A' : Option Addr} {c c0 c' i : Nat}
theorem BqS.put (h : BqS w T q l i r A W) (hi : i < l.length) (hT : ∀ i, T i → i < w.heap.size) (hq : q.length + l.length ≤ 2097152) (c : Nat) :
    (bst q l = none ∧ Calls Try.prog 9 #[.slice A r.length c, iV l[i].1 l[i].2] W fun e w' => ∃ A6 c6 n6, e = .returned (.tuple #[.slice A6 n6 c6, .int .i64 4]) ∧ Below w.heap.size w w') ∨
      Calls Try.prog 9 #[.slice A r.length c, iV l[i].1 l[i].2] W fun e w' => ∃ A6 c6 r6, e = .returned (.tuple #[.slice A6 (List.length r6) c6, .int .i64 0]) ∧ BqS w T q l (i + 1) r6 A6 w' := by
  obtain ⟨h1, h2, h3, h4, h5⟩ := h
  have hnx := bst_next (q := q) hi
  rw [h2] at hnx
  have hp := rput_any A c r l[i].1 l[i].2 W T (fun j hj => Nat.lt_of_lt_of_le (hT j hj) h1.size) h5 h3 (by omega)
  by_cases hg : (gq r l[i].1).isSome = true
  · refine .inl ⟨bst_stop (k := i + 1) (by omega) (by rw [hnx]; unfold bput; simp [hg]), hp.mono ?_⟩
    rintro e w1 ⟨A6, c6, rfl, ho, hb⟩
    exact ⟨A6, c6, _, by rw [if_pos hg], h1.trans (hb.mono h1.size)⟩
  · have hpq : putQ r l[i].1 l[i].2 = insQ r l[i].1 l[i].2 := by
      unfold putQ
      rw [if_neg hg]
    refine .inr (hp.mono ?_)
    rintro e w1 ⟨A6, c6, rfl, ho, hb⟩
    rw [hpq] at ho ⊢
    refine ⟨A6, c6, _, by rw [if_neg hg], h1.trans (hb.mono h1.size), by rw [hnx]; unfold bput; simp [hg], insQ_rise h3, ?_, ho⟩
    have := insQ_len r l[i].1 l[i].2
    omega
def BulkP (w : World) (T : Nat → Prop) (q l : List (Int × Kept)) (e : Ending) (w' : World) : Prop :=
  ∃ A c, e = .returned (.tuple #[.slice A (bres q l).length c, .int .i64 (berr q l)]) ∧ Away w' T A ((bres q l).flatMap iE) ∧ Below w.heap.size w w'
set_option maxHeartbeats 1600000 in
theorem rbulk_any (hT : ∀ i, T i → i < w.heap.size) (hs : Away w T A (q.flatMap iE)) (hr : RiseQ q) (hl : Sl w w.heap.size A' (l.flatMap iE)) (hq : q.length + l.length ≤ 2097152) :
    Calls Try.prog 15 #[.slice A q.length c, .slice A' l.length c'] w (BulkP w T q l) := by
  have hl63 : (l.length : Int) < 9223372036854775807 := by omega
  have h0 : BqS w T q l 0 q A w := ⟨Below.refl _ _, rfl, hr, by omega, hs⟩
  have HH := Lib.hid (And.intro hT (And.intro hs hl))
  have H0 := Lib.hid h0
  clear hT hs hr hl h0
  go_enter Try.func15, Try.ntmps15
  go_wp2_with (fail)
  go_loopg [6, 7] l.length (fun gk s6 s7 wr => ∃ (i : Nat) (r : List (Int × Kept)) (A5 : Option Addr) (c5 : Nat), gk = l.length - i ∧ i ≤ l.length ∧ s6 = .slice A5 r.length c5 ∧ s7 = .int .i64 i ∧ BqS w T q l i r A5 wr)
  case atStart => exact ⟨0, q, A, c, rfl, Nat.zero_le _, rfl, rfl, H0.out⟩
  case round =>
    clear H0
    obtain ⟨i, r, A5, c5, rfl, hi, rfl, rfl, hst⟩ := hrel
    by_cases hlt : i < l.length
    · have i1 : (i : Int) < (l.length : Int) := by omega
      obtain ⟨b, o, rfl, hb, x0, x1, x2, x3⟩ := itemAt (HH.out.2.2.below hst.1) hlt
      rcases hst.put hlt HH.out.1 hq c5 with ⟨hn, hp⟩ | hp
      · have HP := Lib.hid hp
        have HE : Hid (∀ w2, Below w.heap.size w w2 → BulkP w T q l (.returned (.tuple #[.slice A q.length c, .int .i64 4])) w2) := Lib.hid fun w2 h2 => by
          unfold BulkP bres berr
          rw [hn]
          exact ⟨A, c, rfl, HH.out.2.1.below h2, h2⟩
        clear hst hp hn
        unfold iV at HP
        generalize l[i].1 = q0 at x0 HP
        generalize l[i].2.x.tag = q1 at x1 HP
        generalize l[i].2.A = q2 at x2 HP
        generalize l[i].2.x.vec.length = q3 at x2 HP
        generalize l[i].2.c = q4 at x2 HP
        generalize l[i].2.x.str = q5 at x3 HP
        go_wp2_with (first | (go_at_call 9; (with_reducible refine HP.out.mono ?_); rintro e w2 ⟨A6, c6, n6, rfl, hb2⟩))
        exact bodyPost_ret (v := .tuple #[.slice A q.length c, .int .i64 4]) (by simp [results, Try.results15, go_sem]) rfl (HE.out _ hb2)
      · have HP := Lib.hid hp
        clear hst hp
        unfold iV at HP
        generalize l[i].1 = q0 at x0 HP
        generalize l[i].2.x.tag = q1 at x1 HP
        generalize l[i].2.A = q2 at x2 HP
        generalize l[i].2.x.vec.length = q3 at x2 HP
        generalize l[i].2.c = q4 at x2 HP
        generalize l[i].2.x.str = q5 at x3 HP
        go_wp2_with (first | (go_at_call 9; (with_reducible refine HP.out.mono ?_); rintro e w2 ⟨A6, c6, r6, rfl, hx⟩))
        have HE := Lib.hid hx
        clear hx HP
        go_wp2_with (fail)
        go_roundg (l.length - (i + 1))
        case measure => omega
        case rel => exact ⟨i + 1, r6, A6, c6, rfl, by omega, rfl, by go_num, HE.out⟩
    · obtain rfl : i = l.length := by omega
      have i1 : ¬ (l.length : Int) < (l.length : Int) := by omega
      have HE : Hid (BulkP w T q l (.returned (.tuple #[.slice A5 r.length c5, .int .i64 0])) wr) := Lib.hid (by
        obtain ⟨h1, h2, h3, h4, h5⟩ := hst
        rw [List.take_length] at h2
        unfold BulkP bres berr
        rw [h2]
        exact ⟨A5, c5, rfl, h5, h1⟩)
      clear hst
      go_wp2_with (fail)
      exact bodyPost_ret (v := .tuple #[.slice A5 r.length c5, .int .i64 0]) (by simp [results, Try.results15, go_sem]) rfl HE.out
end
end Go.Proofs.Ytaamlidflfdjkaa.store
