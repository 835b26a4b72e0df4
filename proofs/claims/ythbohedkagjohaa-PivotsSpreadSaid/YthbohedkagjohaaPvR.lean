/-
  The contracts of the document's own answers: Short, Ints, Near, Choose.
-/
import Derived.Test.YthbohedkagjohaaPvC
namespace Go.Proofs.Ythbohedkagjohaa.pv
open Go.RowKit law bytes only flat nums ord obj metric
set_option linter.unusedVariables false

set_option maxHeartbeats 1600000 in
theorem rshort_any (T : Nat → Prop) (A : Option Addr) (l : List At) (m : Int) (c : Nat) (w : World) (hs : Ts w T A l) (hl : l.length ≤ 9223372036854775807) :
    Calls Try.prog 6 #[.slice A l.length c, .int .i64 m] w fun e w' => e = .returned (.bool (shortL m l)) ∧ w = w' := by
  have HS := Lib.hid hs
  clear hs
  go_enter Try.func6, Try.ntmps6
  go_wp2_with (fail)
  go_loopw [5] (fun i wr => ∃ k : Nat, k ≤ l.length ∧ i = .int .i64 k ∧ shortL m (l.take k) = true ∧ wr = w) (fun i _ => l.length - (intOf i).toNat)
  case atStart => exact ⟨0, Nat.zero_le _, rfl, rfl, rfl⟩
  case round =>
    obtain ⟨k, hk, rfl, HT, rfl⟩ := hrel
    by_cases hlt : k < l.length
    · obtain ⟨b, o, rfl, -, -, hc⟩ := HS.out.place (by omega)
      obtain ⟨-, c1, c2⟩ := hc k hlt
      have hnext := shortL_take m l k hlt HT
      have hno := shortL_no m l k hlt
      have hI := shortP_iff m l[k].x
      have HN := Lib.hid hnext
      have HO := Lib.hid hno
      clear hnext hno hc HS
      generalize l[k].x = x at HN HO hI c1 c2
      generalize l[k].a = A at c1
      generalize l[k].c = q at c1
      by_cases h1 : (x.str.size : Int) > m
      · have HF : Hid (shortL m l = false) := Lib.hid (HO.out (by rw [Bool.eq_false_iff]; intro h; have := (hI.1 h).1; omega))
        have d1 : decide ((x.str.size : Int) > m) = true := decide_eq_true h1
        clear h1 hI
        go_wp2
        go_ret
        rw [HF.out]
        exact ⟨rfl, rfl⟩
      · have d1 : decide ((x.str.size : Int) > m) = false := decide_eq_false h1
        by_cases h2 : (x.vec.length : Int) > m
        · have HF : Hid (shortL m l = false) := Lib.hid (HO.out (by rw [Bool.eq_false_iff]; intro h; have := (hI.1 h).2; omega))
          have d2 : decide ((x.vec.length : Int) > m) = true := decide_eq_true h2
          clear h1 h2 hI
          go_wp2
          go_ret
          rw [HF.out]
          exact ⟨rfl, rfl⟩
        · have d2 : decide ((x.vec.length : Int) > m) = false := decide_eq_false h2
          have HF : Hid (shortL m (l.take (k + 1)) = true) := Lib.hid (by rw [HN.out, hI]; constructor <;> omega)
          clear h1 h2 hI
          go_wp2
          go_roundw
          case rel => exact ⟨k + 1, by omega, by go_num, HF.out, trivial⟩
          case measure => simp [intOf]; omega
    · have HF : Hid (shortL m l = true) := Lib.hid (by rwa [List.take_of_length_le (by omega)] at HT)
      go_wp2
      go_ret
      rw [HF.out]
      exact ⟨rfl, rfl⟩
/-- two rows that read alike are alike -/
theorem ints_same (A A' : Option Addr) (xs : List Int) (c c' B B' : Nat) (w : World) (hm : xs.length ≤ 281474976710656) (hs : Sl w B A (nv xs)) (hs' : Sl w B' A' (nv xs)) :
    Calls Try.prog 10 #[.slice A xs.length c, .slice A' xs.length c'] w fun e w' => e = .returned (.bool true) ∧ Below w.heap.size w w' := by
  have HS := Lib.hid hs
  have HS' := Lib.hid hs'
  clear hs hs'
  have d0 : ((xs.length : Int) != (xs.length : Int)) = false := by simp
  go_enter Try.func10, Try.ntmps10
  go_wp2_with (fail)
  go_loopg [5] xs.length (fun gk i wr => ∃ k : Nat, gk = xs.length - k ∧ k ≤ xs.length ∧ i = .int .i64 k ∧ Below w.heap.size w wr ∧ Sl wr B A (nv xs) ∧ Sl wr B' A' (nv xs))
  case atStart => exact ⟨0, rfl, Nat.zero_le _, rfl, Below.refl _ _, HS.out, HS'.out⟩
  case round =>
    clear HS HS'
    obtain ⟨k, rfl, hk, rfl, hb, hs, hs'⟩ := hrel
    by_cases hlt : k < xs.length
    · obtain ⟨ad, rfl, hb1, hc⟩ := Sl.num hs hlt
      obtain ⟨ad', rfl, hb2, hc'⟩ := Sl.num hs' hlt
      obtain ⟨x, hx⟩ : ∃ x, xs[k] = x := ⟨_, rfl⟩
      rw [hx] at hc hc'
      have i1 : (k : Int) < (xs.length : Int) := by omega
      have d1 : (x == x) = true := by simp
      have d2 : (x != x) = false := by simp
      have HB := Lib.hid (And.intro hb.drew (And.intro (hs.drewN 1) (hs'.drewN 1)))
      clear hs hs' hx hb
      go_wp2_with (fail)
      go_region
      go_wp2_with (fail)
      go_roundg (xs.length - (k + 1))
      case measure => omega
      case rel => exact ⟨k + 1, rfl, by omega, by go_num, HB.out.1, HB.out.2.1, HB.out.2.2⟩
    · have i1 : ¬ (k : Int) < (xs.length : Int) := by omega
      have HB := Lib.hid hb
      clear hs hs' hb
      go_wp2_with (fail)
      go_ret
      exact ⟨rfl, HB.out⟩
/-! ### Near -/
def U50 : Int := 1125899906842624
theorem ins_all {n : Nat} {cs : List Int} (h : ∀ c ∈ cs, 0 ≤ c ∧ c < (n : Int)) : ins n cs = cs := List.filter_eq_self.2 fun c hc => by
  obtain ⟨h1, h2⟩ := h c hc
  simp [isIn, h1, h2]
set_option maxRecDepth 100000 in
set_option maxHeartbeats 3200000 in
theorem near_any (w : World) (T : Nat → Prop) (n : Int) (A : Option Addr) (c : Nat) (l : List At) (A' : Option Addr) (c' : Nat) (ch : List Int) (x : At) (hT : Ts w T A l) (hs : Sl w w.heap.size A' (nv ch)) (hx : Sl w w.heap.size x.a (iv x.x.vec))
    (hsm : ∀ p ∈ l, Small p.x) (hsx : Small x.x) (hl : l.length ≤ 1048576) (hc : ch.length ≤ 1048576) :
    Calls Try.prog 13 #[.int .i64 n, .slice A l.length c, .slice A' ch.length c', oW x] w (Gives (.int .i64 (nr (dt n l) U50 (ins l.length ch) x)) w) := by
  obtain ⟨V, hV⟩ : ∃ V, V = w.alloc (.cells #[.int .i64 x.x.tag, .slice x.a x.x.vec.length x.c, .string x.x.str] 38) := ⟨_, rfl⟩
  have hbx : Blk V w.heap.size 38 #[.int .i64 x.x.tag, .slice x.a x.x.vec.length x.c, .string x.x.str] := by rw [hV]; exact Blk.new w _ _
  have hz : V.heap.size = w.heap.size + 1 := by rw [hV]; simp
  have hbV : Below w.heap.size w V := by rw [hV]; exact (Below.refl _ w).alloc (Nat.le_refl _) _
  have HBX := Lib.hid hbx
  have HZ := Lib.hid hz
  have HT : Hid (∀ W, Below (w.heap.size + 1) V W → Ts W T A l) := Lib.hid fun W hW => hT.on (hbV.trans (hW.mono (Nat.le_succ _)))
  have HS : Hid (∀ W, Below (w.heap.size + 1) V W → Sl W w.heap.size A' (nv ch)) := Lib.hid fun W hW => hs.below (hbV.trans (hW.mono (Nat.le_succ _)))
  have HX : Hid (∀ W, Below (w.heap.size + 1) V W → Sl W W.heap.size x.a (iv x.x.vec)) := Lib.hid fun W hW => (hx.below (hbV.trans (hW.mono (Nat.le_succ _)))).more (by have := hW.size; omega)
  have HSM := Lib.hid hsm
  have HSX := Lib.hid hsx
  have HBV := Lib.hid hbV
  clear hT hs hx hsm hsx hbx hz hbV
  have hxW : oW x = .agg #[.int .i64 x.x.tag, .slice x.a x.x.vec.length x.c, .string x.x.str] := rfl
  rw [hxW]
  clear hxW
  go_enter Try.func13, Try.ntmps13
  go_wp2_with (fail)
  rw [← hV]
  clear hV
  go_loopg [9, 10] ch.length (fun gk s9 s10 wr => ∃ i : Nat, gk = ch.length - i ∧ i ≤ ch.length ∧ s9 = .int .i64 (nr (dt n l) U50 (ins l.length (ch.take i)) x) ∧ s10 = .int .i64 i ∧ Below (w.heap.size + 1) V wr)
  case atStart => exact ⟨0, rfl, Nat.zero_le _, by rw [List.take_zero]; rfl, rfl, Below.refl _ _⟩
  case round =>
    obtain ⟨i, rfl, hi, rfl, rfl, hb⟩ := hrel
    by_cases hlt : i < ch.length
    · obtain ⟨ad, rfl, -, hc0⟩ := Sl.num (HS.out wr hb) hlt
      have i1 : (i : Int) < (ch.length : Int) := by omega
      have hyes := ins_yes (n := l.length) hlt
      have hno := ins_no (n := l.length) hlt
      obtain ⟨y, hy⟩ : ∃ y, ch[i] = y := ⟨_, rfl⟩
      rw [hy] at hc0 hyes hno
      rcases isIn_cases l.length y with ⟨d0, hin⟩ | ⟨d0, d1, hin⟩ | ⟨d0, d1, hin⟩
      · have HTK := Lib.hid (hno hin)
        clear hyes hno hin hy
        go_wp2_with (fail)
        go_roundg (ch.length - (i + 1))
        case measure => omega
        case rel => exact ⟨i + 1, rfl, by omega, by rw [HTK.out], by go_num, hb⟩
      · have HTK := Lib.hid (hno hin)
        clear hyes hno hin hy
        go_wp2_with (fail)
        go_roundg (ch.length - (i + 1))
        case measure => omega
        case rel => exact ⟨i + 1, rfl, by omega, by rw [HTK.out], by go_num, hb⟩
      · have hyl := hyes hin
        have y0 := of_decide_eq_true d0
        have y1 := of_decide_eq_true d1
        obtain ⟨p, rfl⟩ : ∃ p : Nat, y = (p : Int) := ⟨y.toNat, by omega⟩
        have hp : p < l.length := by omega
        have hTW := HT.out wr hb
        obtain ⟨bb, oo, rfl, hbb, -, hcells⟩ := hTW.place (by omega)
        obtain ⟨e0, e1, e2⟩ := hcells p hp
        have s2 := (hTW.vec _ (List.getElem_mem hp)).sl
        have z2 := HSM.out _ (List.getElem_mem hp)
        have hnx : nr (dt n l) U50 (ins l.length (ch.take (i + 1))) x = min (nr (dt n l) U50 (ins l.length (ch.take i)) x) (M n l[p].x x.x) := by rw [hyl, nr_snoc, dt_at n hp]
        have HNX := Lib.hid hnx
        obtain ⟨q, hq⟩ : ∃ q, l[p] = q := ⟨_, rfl⟩
        rw [hq] at e0 e1 e2 s2 z2 HNX
        have hbxr := HBX.out.below hb (Nat.lt_succ_self _)
        obtain ⟨q0, q1, q2, qf⟩ := cells3 hbxr
        have hxs := HX.out wr hb
        have hszr : w.heap.size + 1 ≤ wr.heap.size := by have := hb.size; have := HZ.out; omega
        have HD : Hid (∀ W, Below wr.heap.size wr W → Calls Try.prog 15 #[.int .i64 n, .agg #[.int .i64 q.x.tag, .slice q.a q.x.vec.length q.c, .string q.x.str], .agg #[.int .i64 x.x.tag, .slice x.a x.x.vec.length x.c, .string x.x.str]] W fun e w' => e = .returned (.int .i64 (M n q.x x.x)) ∧ Below (w.heap.size + 1) V w') := Lib.hid fun W hW =>
          (rdist_any n q.a x.a q.c x.c q.x x.x z2 HSX.out W (s2.on hW) (hxs.on hW)).mono fun e w' ⟨he, hb2⟩ => ⟨he, hb.trans ((hW.trans (hb2.mono hW.size)).mono hszr)⟩
        generalize M n q.x x.x = d at HD HNX
        generalize nr (dt n l) U50 (ins l.length (ch.take i)) x = a at HNX ⊢
        clear hcells hTW s2 z2 hnx hq hbxr hxs hyes hno hin hy hyl y0 y1
        go_wp2_with (fail)
        go_region_law (first | (go_simp; go_at_call 15; (with_reducible refine (HD.out _ (by repeat' (first | (with_reducible exact Below.refl _ _) | (with_reducible assumption) | (with_reducible refine Below.drew ?_) | (with_reducible refine below_drewN' ?_ _)))).mono ?_); rintro e w2 ⟨rfl, xE⟩))
        all_goals
          have XE := Lib.hid xE
          clear xE
          go_wp2_with (fail)
          go_roundg (ch.length - (i + 1))
          case measure => omega
          case rel => exact ⟨i + 1, rfl, by omega, by rw [HNX.out], by go_num, XE.out⟩
    · obtain rfl : i = ch.length := by omega
      have i1 : ¬ (ch.length : Int) < (ch.length : Int) := by omega
      have HE : Hid (Below w.heap.size w wr) := Lib.hid (HBV.out.trans (hb.mono (Nat.le_succ _)))
      rw [List.take_length]
      clear hb
      go_wp2_with (fail)
      go_ret
      exact ⟨rfl, HE.out⟩
end Go.Proofs.Ythbohedkagjohaa.pv
