/-
  The contracts of the document's First, Same (of any two rows), Keep and Bound.
-/
import Derived.Test.YtbpahlhmdbahjaaBestM
import Derived.Test.YtbpahlhmdbahjaaHitN
namespace Go.Proofs.Ytbpahlhmdbahjaa.best
open Go.RowKit law bytes only flat hit heapM Go.Sort Go.Shelf
set_option linter.unusedVariables false

set_option maxRecDepth 100000 in
set_option maxHeartbeats 3200000 in
theorem first_any (A : Option Addr) (l : List Hit) (c B : Nat) (k : Int) (w : World) (hm : l.length * 16 ≤ 140737488355328) (hB : B ≤ w.heap.size) (hs : Sl w B A (hv l)) :
    Calls Try.prog 19 #[.slice A l.length c, .int .i64 k] w (Own (l.take k.toNat) w) := by
  have HS := Lib.hid hs
  clear hs
  go_enter Try.func19, Try.ntmps19
  go_wp2_with (fail)
  go_loopg [5, 6] l.length (fun gk s5 s6 wr => ∃ (i c' : Nat) (A' : Option Addr), gk = l.length - i ∧ i ≤ l.length ∧ i ≤ k.toNat ∧ s5 = .slice A' i c' ∧ s6 = .int .i64 i ∧ wr.ownsRow w.heap.size 30 2 (.slice A' i c') i (hv (l.take i)) ∧ Below w.heap.size w wr)
  case atStart => exact ⟨0, 0, none, rfl, Nat.zero_le _, Nat.zero_le _, rfl, rfl, by rw [List.take_zero]; exact World.ownsRow_nil _ _ _ _, Below.refl _ _⟩
  case round =>
    obtain ⟨i, c', A', rfl, hi, hik, rfl, rfl, hown, hb⟩ := hrel
    by_cases hlt : i < l.length
    · have z1 : decide (i < l.length) = true := decide_eq_true hlt
      have z2 : decide ((i : Int) < (l.length : Int)) = true := decide_eq_true (by omega)
      have z3 : (i : Int) < (l.length : Int) := by omega
      by_cases hk : (i : Int) < k
      · have z4 : decide ((i : Int) < k) = true := decide_eq_true hk
        obtain ⟨b, o, rfl, hb1, hc0, hc1⟩ := Sl.hitAt ((HS.out.more hB).below hb) hlt
        have HT : Hid (hv (l.take (i + 1)) = hv (l.take i) ++ [.int .u64 l[i].1, .int .i64 l[i].2]) := Lib.hid (by rw [List.take_succ_eq_append_getElem hlt]; exact hv_snoc _ _ _)
        obtain ⟨⟨x, y⟩, hx⟩ : ∃ x, l[i] = x := ⟨_, rfl⟩
        rw [hx] at hc0 hc1 HT
        dsimp only at hc0 hc1 HT
        have hsz := hb.size
        clear hx
        go_wp2_with (at_builtin
                     refine wpList_append_slk _ rfl (.tmp 18) (.tmp 23) _ rfl w.heap.size 30 2 16 Try.underlying22 hitE (by omega) (.slice A' i c') i (hv (l.take i)) rfl (World.ownsRow.alloc (w := wr) hown _) _ _ 1 1 [.int .u64 x, .int .i64 y] rfl (Sl.lit wr _ _) rfl (hc_oneOf _ _) (by omega) (by unfold maxLen; omega) (by simp; omega) ?_
                     intro v4 w4 hown4 hg4 hat4
                     obtain ⟨A4, c4, rfl, hc4⟩ := own_slice hown4)
        go_roundg (l.length - (i + 1))
        case measure => omega
        case rel => exact ⟨i + 1, c4, A4, rfl, by omega, by omega, rfl, by go_num, by rw [HT.out]; exact hown4, below_appendK1 hb hsz _ hown (Nat.le_refl _) hg4⟩
      · have z4 : decide ((i : Int) < k) = false := decide_eq_false hk
        have HE : Hid (Own (l.take k.toNat) w (.returned (.slice A' i c')) wr) := Lib.hid (Own.mk hown (by rw [show i = k.toNat by omega]) hb)
        clear hown hb
        go_wp2_with (fail)
        go_ret
        exact HE.out
    · obtain rfl : i = l.length := by omega
      have z1 : decide (l.length < l.length) = false := decide_eq_false (by omega)
      have z2 : decide ((l.length : Int) < (l.length : Int)) = false := decide_eq_false (by omega)
      have z3 : ¬ (l.length : Int) < (l.length : Int) := by omega
      have HE : Hid (Own (l.take k.toNat) w (.returned (.slice A' l.length c')) wr) := Lib.hid (Own.mk hown (by rw [List.take_length, List.take_of_length_le hik]) hb)
      clear hown hb
      go_wp2_with (fail)
      go_ret
      exact HE.out

theorem take_more {xs ys : List Hit} {k : Nat} (h : xs.take k = ys.take k) (h1 : k < xs.length) (h2 : k < ys.length) (e : xs[k] = ys[k]) : xs.take (k + 1) = ys.take (k + 1) := by
  rw [List.take_succ_eq_append_getElem h1, List.take_succ_eq_append_getElem h2, h, e]
theorem ne_at {xs ys : List Hit} {k : Nat} (h1 : k < xs.length) (h2 : k < ys.length) (e : xs[k] ≠ ys[k]) : decide (xs = ys) = false := decide_eq_false fun h => e (by subst h; rfl)
set_option maxRecDepth 100000 in
set_option maxHeartbeats 3200000 in
/-- are two rows alike? -/
theorem same2_any (A A' : Option Addr) (xs ys : List Hit) (c c' B B' : Nat) (w : World) (hm : xs.length ≤ 281474976710656) (hm' : ys.length ≤ 281474976710656) (hs : Sl w B A (hv xs)) (hs' : Sl w B' A' (hv ys)) :
    Calls Try.prog 8 #[.slice A xs.length c, .slice A' ys.length c'] w fun e w' => e = .returned (.bool (decide (xs = ys))) ∧ Below w.heap.size w w' := by
  have HS := Lib.hid hs
  have HS' := Lib.hid hs'
  clear hs hs'
  by_cases hl : xs.length = ys.length
  · have d0 : ((xs.length : Int) != (xs.length : Int)) = false := by simp
    rw [← hl]
    have HL := Lib.hid hl
    obtain ⟨n, hn⟩ : ∃ n, xs.length = n := ⟨_, rfl⟩
    rw [hn] at d0 ⊢
    have HN := Lib.hid hn
    have hn2 : n ≤ 281474976710656 := by omega
    clear hl hn hm hm'
    go_enter Try.func8, Try.ntmps8
    go_wp2_with (fail)
    go_loopg [5] n (fun gk i wr => ∃ k : Nat, gk = n - k ∧ k ≤ n ∧ i = .int .i64 k ∧ xs.take k = ys.take k ∧ Below w.heap.size w wr ∧ Sl wr B A (hv xs) ∧ Sl wr B' A' (hv ys))
    case atStart => exact ⟨0, rfl, Nat.zero_le _, rfl, rfl, Below.refl _ _, HS.out, HS'.out⟩
    case round =>
      clear HS HS'
      obtain ⟨k, rfl, hk, rfl, htk, hb, hs, hs'⟩ := hrel
      by_cases hlt : k < n
      · have h1 : k < xs.length := by have := HN.out; omega
        have h2 : k < ys.length := by have := HN.out; have := HL.out; omega
        obtain ⟨b, o, rfl, hb1, hc0, hc1⟩ := Sl.hitAt hs h1
        obtain ⟨b', o', rfl, hb2, hd0, hd1⟩ := Sl.hitAt hs' h2
        have HM : Hid (∀ x y, xs[k] = x → ys[k] = y → (x = y → xs.take (k + 1) = ys.take (k + 1)) ∧ (x ≠ y → decide (xs = ys) = false)) := Lib.hid fun x y e1 e2 => ⟨fun e => take_more htk h1 h2 (by rw [e1, e2, e]), fun e => ne_at h1 h2 (by rw [e1, e2]; exact e)⟩
        obtain ⟨⟨x1, x2⟩, hx⟩ : ∃ x, xs[k] = x := ⟨_, rfl⟩
        obtain ⟨⟨y1, y2⟩, hy⟩ : ∃ y, ys[k] = y := ⟨_, rfl⟩
        have HMM := Lib.hid (HM.out _ _ hx hy)
        rw [hx] at hc0 hc1
        rw [hy] at hd0 hd1
        dsimp only at hc0 hc1 hd0 hd1
        have i1 : (k : Int) < (n : Int) := by omega
        have HB := Lib.hid (And.intro hb.drew (And.intro (hs.drewN 1) (hs'.drewN 1)))
        obtain ⟨o1, e1⟩ : ∃ o1, (x1 == y1) = o1 := ⟨_, rfl⟩
        obtain ⟨o2, e2⟩ : ∃ o2, (x2 == y2) = o2 := ⟨_, rfl⟩
        have HQ : Hid ((o1 = true → o2 = true → (x1, x2) = (y1, y2)) ∧ (o1 = false ∨ o2 = false → (x1, x2) ≠ (y1, y2))) := Lib.hid (by
          subst e1 e2
          refine ⟨fun p q => by simp at p q; rw [p, q], fun p e => ?_⟩
          injection e with p1 p2
          subst p1 p2
          simp at p)
        have HO1 := Lib.hid e1
        have HO2 := Lib.hid e2
        clear hs hs' hx hy hb htk HM h1 h2
        by_cases ho : o1 = true ∧ o2 = true
        · obtain ⟨rfl, rfl⟩ := ho
          go_wp2_with (fail)
          go_region
          go_wp2_with (fail)
          go_roundg (n - (k + 1))
          case measure => omega
          case rel => exact ⟨k + 1, rfl, by omega, by go_num, HMM.out.1 (HQ.out.1 (by simp) (by simp)), HB.out.1, HB.out.2.1, HB.out.2.2⟩
        · have HF : Hid (decide (xs = ys) = false) := Lib.hid (HMM.out.2 (HQ.out.2 (by cases o1 <;> cases o2 <;> simp_all)))
          cases o1 <;> cases o2
          case true.true => exact absurd ⟨rfl, rfl⟩ ho
          all_goals
            clear ho HMM HQ
            go_wp2_with (fail)
            go_region
            go_wp2_with (fail)
            go_ret
            exact ⟨by rw [HF.out]; rfl, HB.out.1⟩
      · have i1 : ¬ (k : Int) < (n : Int) := by omega
        have HB := Lib.hid hb
        have HT : Hid (decide (xs = ys) = true) := Lib.hid (decide_eq_true (by
          have h1 := HN.out
          have h2 := HL.out
          rw [List.take_of_length_le (by omega), List.take_of_length_le (by omega)] at htk
          exact htk))
        clear hs hs' hb htk
        go_wp2_with (fail)
        go_ret
        exact ⟨by rw [HT.out]; rfl, HB.out⟩
  · have d0 : ((xs.length : Int) != (ys.length : Int)) = true := by rw [bne_iff_ne]; omega
    have d1 : ((xs.length : Int) == (ys.length : Int)) = false := by rw [beq_eq_false_iff_ne]; omega
    have HF : Hid (decide (xs = ys) = false) := Lib.hid (decide_eq_false fun e => hl (by rw [e]))
    have hne : ¬ (xs.length : Int) = (ys.length : Int) := by omega
    go_enter Try.func8, Try.ntmps8
    go_wp2_with (fail)
    go_ret
    exact ⟨by rw [HF.out]; rfl, Below.refl _ _⟩

set_option maxHeartbeats 1600000 in
theorem keep_any (A : Option Addr) (l : List Hit) (c B : Nat) (k : Int) (w : World) (hm : l.length * 16 ≤ 140737488355328) (hB : B ≤ w.heap.size) (hs : Sl w B A (hv l)) :
    Calls Try.prog 7 #[.slice A l.length c, .int .i64 k] w (Own (keep k l) w) := by
  have HR : Hid (Calls Try.prog 20 #[.slice A l.length c] w fun e w1 => ∃ A1 c1, e = .returned (.slice A1 l.length c1) ∧ Calls Try.prog 19 #[.slice A1 l.length c1, .int .i64 k] w1 (Own (keep k l) w)) := Lib.hid ((rsort_any A l c B w hm hB hs).mono fun e w1 ⟨A1, c1, he, ho, hb⟩ => by
    refine ⟨A1, c1, by rw [he, sortH_length], ?_⟩
    have h := first_any A1 (sortH l) c1 w1.heap.size k w1 (by rw [sortH_length]; exact hm) (Nat.le_refl _) (Sl.of_ownK ho)
    rw [sortH_length] at h
    exact h.mono fun e w2 ⟨A2, c2, he, ho, hb2⟩ => ⟨A2, c2, he, own_base ho hb.size, hb.trans (hb2.mono hb.size)⟩)
  clear hs
  go_enter Try.func7, Try.ntmps7
  go_wp2_with (fail)
  refine HR.out.mono ?_
  rintro e w1 ⟨A1, c1, rfl, hf⟩
  have HF := Lib.hid hf
  clear hf HR
  go_wp2_with (fail)
  refine HF.out.mono ?_
  intro e w2 ho
  have HO := Lib.hid ho
  obtain ⟨A2, c2, rfl, -, -⟩ := ho
  clear HF
  go_wp2_with (fail)
  go_ret
  exact HO.out
set_option maxRecDepth 100000 in
set_option maxHeartbeats 1600000 in
theorem rbound_any (A : Option Addr) (l : List Hit) (c B : Nat) (k : Int) (w : World) (hm : l.length * 16 ≤ 140737488355328) (hB : B ≤ w.heap.size) (hs : Sl w B A (hv l)) :
    Calls Try.prog 13 #[.slice A l.length c, .int .i64 k] w fun e w' => e = .returned (.int .i64 (bd k l)) ∧ Below w.heap.size w w' := by
  by_cases hk : k < 1
  · have HE : Hid (bd k l = -1) := Lib.hid (bd_none hk)
    have d1 : decide (k < 1) = true := decide_eq_true hk
    go_enter Try.func13, Try.ntmps13
    go_wp2_with (fail)
    go_ret
    exact ⟨by rw [HE.out]; rfl, Below.refl _ _⟩
  · have HK := Lib.hid (keep_any A l c B k w hm hB hs)
    have d1 : decide (k < 1) = false := decide_eq_false hk
    have hkl := keep_le k l
    clear hs
    go_enter Try.func13, Try.ntmps13
    go_wp2_with (fail)
    refine HK.out.mono ?_
    rintro e w1 ⟨A1, c1, rfl, ho, hb⟩
    have HB := Lib.hid hb
    by_cases hf : ((keep k l).length : Int) < k
    · have HE : Hid (bd k l = 1125899906842624) := Lib.hid (bd_room hf)
      have d2 : decide (((keep k l).length : Int) < k) = true := decide_eq_true hf
      clear ho hb HK
      go_wp2_with (fail)
      go_ret
      exact ⟨by rw [HE.out]; rfl, HB.out⟩
    · obtain ⟨n, hn⟩ : ∃ n, n = k.toNat - 1 := ⟨_, rfl⟩
      have hnl : n < (keep k l).length := by omega
      obtain ⟨b, o, rfl, -, -, hc1⟩ := Sl.hitAt (Sl.of_ownK ho) hnl
      have HE : Hid (bd k l = (keep k l)[n].2) := Lib.hid (by unfold bd; rw [if_neg (by omega), if_neg (by omega), ← hn, getElem!_pos _ n hnl])
      have i1 : IntKind.i64.wrap (k - 1) = (n : Int) := by rw [IntKind.wrap_i64]; omega
      have i2 : (n : Int) < ((keep k l).length : Int) := by omega
      have d2 : decide (((keep k l).length : Int) < k) = false := decide_eq_false hf
      generalize (keep k l)[n].2 = y at hc1 HE
      clear ho hb HK hn
      go_wp2_with (fail)
      go_ret
      exact ⟨by rw [HE.out]; rfl, HB.out⟩
end Go.Proofs.Ytbpahlhmdbahjaa.best
