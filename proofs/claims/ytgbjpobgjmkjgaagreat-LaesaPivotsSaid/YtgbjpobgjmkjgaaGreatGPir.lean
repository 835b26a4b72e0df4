/-
  Several texts in one.
-/
import Derived.Test.YtgbjpobgjmkjgaaGreatGPiv
set_option maxRecDepth 100000
/-
  The contracts of the document's own answers: Short, Ints, Near, Choose.
-/
namespace Go.Proofs.YtgbjpobgjmkjgaaGreat.pv
open Go.RowKit law bytes only flat nums ord obj metric
set_option linter.unusedVariables false

set_option maxHeartbeats 1600000 in
theorem rshort_any (T : Nat → Prop) (A : Option Addr) (l : List At) (m : Int) (c : Nat) (w : World) (hs : Ts w T A l) (hl : l.length ≤ 9223372036854775807) :
    Calls Tryz.prog 61 #[.slice A l.length c, .int .i64 m] w fun e w' => e = .returned (.bool (shortL m l)) ∧ w = w' := by
  have HS := Lib.hid hs
  clear hs
  go_enter Tryz.func61, Tryz.ntmps61
  go_wp2_with (fail)
  go_loopw [5] (fun i wr => ∃ k : Nat, k ≤ l.length ∧ i = .int .i64 k ∧ shortL m (l.take k) = true ∧ wr = w) (fun i _ => l.length - (intOf i).toNat)
  case atStart => exact ⟨0, Nat.zero_le _, rfl, rfl, rfl⟩
  case round =>
    obtain ⟨k, hk, rfl, HT, rfl⟩ := hrel
    by_cases hlt : k < l.length
    · obtain ⟨b, o, rfl, -, -, hc⟩ := HS.out.place (by omega)
      obtain ⟨-, c1, c2⟩ := hc k hlt
      have hnext := shortL_take m l k hlt HT
      have hno := shortL_no m l k hlt
      have hI := shortP_iff m l[k].x
      have HN := Lib.hid hnext
      have HO := Lib.hid hno
      clear hnext hno hc HS
      generalize l[k].x = x at HN HO hI c1 c2
      generalize l[k].a = A at c1
      generalize l[k].c = q at c1
      by_cases h1 : (x.str.size : Int) > m
      · have HF : Hid (shortL m l = false) := Lib.hid (HO.out (by rw [Bool.eq_false_iff]; intro h; have := (hI.1 h).1; omega))
        have d1 : decide ((x.str.size : Int) > m) = true := decide_eq_true h1
        clear h1 hI
        go_wp2
        go_ret
        rw [HF.out]
        exact ⟨rfl, rfl⟩
      · have d1 : decide ((x.str.size : Int) > m) = false := decide_eq_false h1
        by_cases h2 : (x.vec.length : Int) > m
        · have HF : Hid (shortL m l = false) := Lib.hid (HO.out (by rw [Bool.eq_false_iff]; intro h; have := (hI.1 h).2; omega))
          have d2 : decide ((x.vec.length : Int) > m) = true := decide_eq_true h2
          clear h1 h2 hI
          go_wp2
          go_ret
          rw [HF.out]
          exact ⟨rfl, rfl⟩
        · have d2 : decide ((x.vec.length : Int) > m) = false := decide_eq_false h2
          have HF : Hid (shortL m (l.take (k + 1)) = true) := Lib.hid (by rw [HN.out, hI]; constructor <;> omega)
          clear h1 h2 hI
          go_wp2
          go_roundw
          case rel => exact ⟨k + 1, by omega, by go_num, HF.out, trivial⟩
          case measure => simp [intOf]; omega
    · have HF : Hid (shortL m l = true) := Lib.hid (by rwa [List.take_of_length_le (by omega)] at HT)
      go_wp2
      go_ret
      rw [HF.out]
      exact ⟨rfl, rfl⟩
/-- two rows that read alike are alike -/
theorem ints_same (A A' : Option Addr) (xs : List Int) (c c' B B' : Nat) (w : World) (hm : xs.length ≤ 281474976710656) (hs : Sl w B A (nv xs)) (hs' : Sl w B' A' (nv xs)) :
    Calls Tryz.prog 54 #[.slice A xs.length c, .slice A' xs.length c'] w fun e w' => e = .returned (.bool true) ∧ Below w.heap.size w w' := by
  have HS := Lib.hid hs
  have HS' := Lib.hid hs'
  clear hs hs'
  have d0 : ((xs.length : Int) != (xs.length : Int)) = false := by simp
  go_enter Tryz.func54, Tryz.ntmps54
  go_wp2_with (fail)
  go_loopg [5] xs.length (fun gk i wr => ∃ k : Nat, gk = xs.length - k ∧ k ≤ xs.length ∧ i = .int .i64 k ∧ Below w.heap.size w wr ∧ Sl wr B A (nv xs) ∧ Sl wr B' A' (nv xs))
  case atStart => exact ⟨0, rfl, Nat.zero_le _, rfl, Below.refl _ _, HS.out, HS'.out⟩
  case round =>
    clear HS HS'
    obtain ⟨k, rfl, hk, rfl, hb, hs, hs'⟩ := hrel
    by_cases hlt : k < xs.length
    · obtain ⟨ad, rfl, hb1, hc⟩ := Sl.num hs hlt
      obtain ⟨ad', rfl, hb2, hc'⟩ := Sl.num hs' hlt
      obtain ⟨x, hx⟩ : ∃ x, xs[k] = x := ⟨_, rfl⟩
      rw [hx] at hc hc'
      have i1 : (k : Int) < (xs.length : Int) := by omega
      have d1 : (x == x) = true := by simp
      have d2 : (x != x) = false := by simp
      have HB := Lib.hid (And.intro hb.drew (And.intro (hs.drewN 1) (hs'.drewN 1)))
      clear hs hs' hx hb
      go_wp2_with (fail)
      go_region
      go_wp2_with (fail)
      go_roundg (xs.length - (k + 1))
      case measure => omega
      case rel => exact ⟨k + 1, rfl, by omega, by go_num, HB.out.1, HB.out.2.1, HB.out.2.2⟩
    · have i1 : ¬ (k : Int) < (xs.length : Int) := by omega
      have HB := Lib.hid hb
      clear hs hs' hb
      go_wp2_with (fail)
      go_ret
      exact ⟨rfl, HB.out⟩
/-! ### Near -/
def U50 : Int := 1125899906842624
theorem ins_all {n : Nat} {cs : List Int} (h : ∀ c ∈ cs, 0 ≤ c ∧ c < (n : Int)) : ins n cs = cs := List.filter_eq_self.2 fun c hc => by
  obtain ⟨h1, h2⟩ := h c hc
  simp [isIn, h1, h2]
set_option maxRecDepth 100000 in
set_option maxHeartbeats 3200000 in
theorem near_any (w : World) (T : Nat → Prop) (n : Int) (A : Option Addr) (c : Nat) (l : List At) (A' : Option Addr) (c' : Nat) (ch : List Int) (x : At) (hT : Ts w T A l) (hs : Sl w w.heap.size A' (nv ch)) (hx : Sl w w.heap.size x.a (iv x.x.vec))
    (hsm : ∀ p ∈ l, Small p.x) (hsx : Small x.x) (hl : l.length ≤ 1048576) (hc : ch.length ≤ 1048576) :
    Calls Tryz.prog 21 #[.int .i64 n, .slice A l.length c, .slice A' ch.length c', oW x] w (Gives (.int .i64 (nr (dt n l) U50 (ins l.length ch) x)) w) := by
  obtain ⟨V, hV⟩ : ∃ V, V = w.alloc (.cells #[.int .i64 x.x.tag, .slice x.a x.x.vec.length x.c, .string x.x.str] 35) := ⟨_, rfl⟩
  have hbx : Blk V w.heap.size 35 #[.int .i64 x.x.tag, .slice x.a x.x.vec.length x.c, .string x.x.str] := by rw [hV]; exact Blk.new w _ _
  have hz : V.heap.size = w.heap.size + 1 := by rw [hV]; simp
  have hbV : Below w.heap.size w V := by rw [hV]; exact (Below.refl _ w).alloc (Nat.le_refl _) _
  have HBX := Lib.hid hbx
  have HZ := Lib.hid hz
  have HT : Hid (∀ W, Below (w.heap.size + 1) V W → Ts W T A l) := Lib.hid fun W hW => hT.on (hbV.trans (hW.mono (Nat.le_succ _)))
  have HS : Hid (∀ W, Below (w.heap.size + 1) V W → Sl W w.heap.size A' (nv ch)) := Lib.hid fun W hW => hs.below (hbV.trans (hW.mono (Nat.le_succ _)))
  have HX : Hid (∀ W, Below (w.heap.size + 1) V W → Sl W W.heap.size x.a (iv x.x.vec)) := Lib.hid fun W hW => (hx.below (hbV.trans (hW.mono (Nat.le_succ _)))).more (by have := hW.size; omega)
  have HSM := Lib.hid hsm
  have HSX := Lib.hid hsx
  have HBV := Lib.hid hbV
  clear hT hs hx hsm hsx hbx hz hbV
  have hxW : oW x = .agg #[.int .i64 x.x.tag, .slice x.a x.x.vec.length x.c, .string x.x.str] := rfl
  rw [hxW]
  clear hxW
  go_enter Tryz.func21, Tryz.ntmps21
  go_wp2_with (fail)
  rw [← hV]
  clear hV
  go_loopg [9, 10] ch.length (fun gk s9 s10 wr => ∃ i : Nat, gk = ch.length - i ∧ i ≤ ch.length ∧ s9 = .int .i64 (nr (dt n l) U50 (ins l.length (ch.take i)) x) ∧ s10 = .int .i64 i ∧ Below (w.heap.size + 1) V wr)
  case atStart => exact ⟨0, rfl, Nat.zero_le _, by rw [List.take_zero]; rfl, rfl, Below.refl _ _⟩
  case round =>
    obtain ⟨i, rfl, hi, rfl, rfl, hb⟩ := hrel
    by_cases hlt : i < ch.length
    · obtain ⟨ad, rfl, -, hc0⟩ := Sl.num (HS.out wr hb) hlt
      have i1 : (i : Int) < (ch.length : Int) := by omega
      have hyes := ins_yes (n := l.length) hlt
      have hno := ins_no (n := l.length) hlt
      obtain ⟨y, hy⟩ : ∃ y, ch[i] = y := ⟨_, rfl⟩
      rw [hy] at hc0 hyes hno
      rcases isIn_cases l.length y with ⟨d0, hin⟩ | ⟨d0, d1, hin⟩ | ⟨d0, d1, hin⟩
      · have HTK := Lib.hid (hno hin)
        clear hyes hno hin hy
        go_wp2_with (fail)
        go_roundg (ch.length - (i + 1))
        case measure => omega
        case rel => exact ⟨i + 1, rfl, by omega, by rw [HTK.out], by go_num, hb⟩
      · have HTK := Lib.hid (hno hin)
        clear hyes hno hin hy
        go_wp2_with (fail)
        go_roundg (ch.length - (i + 1))
        case measure => omega
        case rel => exact ⟨i + 1, rfl, by omega, by rw [HTK.out], by go_num, hb⟩
      · have hyl := hyes hin
        have y0 := of_decide_eq_true d0
        have y1 := of_decide_eq_true d1
        obtain ⟨p, rfl⟩ : ∃ p : Nat, y = (p : Int) := ⟨y.toNat, by omega⟩
        have hp : p < l.length := by omega
        have hTW := HT.out wr hb
        obtain ⟨bb, oo, rfl, hbb, -, hcells⟩ := hTW.place (by omega)
        obtain ⟨e0, e1, e2⟩ := hcells p hp
        have s2 := (hTW.vec _ (List.getElem_mem hp)).sl
        have z2 := HSM.out _ (List.getElem_mem hp)
        have hnx : nr (dt n l) U50 (ins l.length (ch.take (i + 1))) x = min (nr (dt n l) U50 (ins l.length (ch.take i)) x) (M n l[p].x x.x) := by rw [hyl, nr_snoc, dt_at n hp]
        have HNX := Lib.hid hnx
        obtain ⟨q, hq⟩ : ∃ q, l[p] = q := ⟨_, rfl⟩
        rw [hq] at e0 e1 e2 s2 z2 HNX
        have hbxr := HBX.out.below hb (Nat.lt_succ_self _)
        obtain ⟨q0, q1, q2, qf⟩ := cells3 hbxr
        have hxs := HX.out wr hb
        have hszr : w.heap.size + 1 ≤ wr.heap.size := by have := hb.size; have := HZ.out; omega
        have HD : Hid (∀ W, Below wr.heap.size wr W → Calls Tryz.prog 53 #[.int .i64 n, .agg #[.int .i64 q.x.tag, .slice q.a q.x.vec.length q.c, .string q.x.str], .agg #[.int .i64 x.x.tag, .slice x.a x.x.vec.length x.c, .string x.x.str]] W fun e w' => e = .returned (.int .i64 (M n q.x x.x)) ∧ Below (w.heap.size + 1) V w') := Lib.hid fun W hW =>
          (rdist_any n q.a x.a q.c x.c q.x x.x z2 HSX.out W (s2.on hW) (hxs.on hW)).mono fun e w' ⟨he, hb2⟩ => ⟨he, hb.trans ((hW.trans (hb2.mono hW.size)).mono hszr)⟩
        generalize M n q.x x.x = d at HD HNX
        generalize nr (dt n l) U50 (ins l.length (ch.take i)) x = a at HNX ⊢
        clear hcells hTW s2 z2 hnx hq hbxr hxs hyes hno hin hy hyl y0 y1
        go_wp2_with (fail)
        go_region_law (first | (go_simp; go_at_call 53; (with_reducible refine (HD.out _ (by repeat' (first | (with_reducible exact Below.refl _ _) | (with_reducible assumption) | (with_reducible refine Below.drew ?_) | (with_reducible refine below_drewN' ?_ _)))).mono ?_); rintro e w2 ⟨rfl, xE⟩))
        all_goals
          have XE := Lib.hid xE
          clear xE
          go_wp2_with (fail)
          go_roundg (ch.length - (i + 1))
          case measure => omega
          case rel => exact ⟨i + 1, rfl, by omega, by rw [HNX.out], by go_num, XE.out⟩
    · obtain rfl : i = ch.length := by omega
      have i1 : ¬ (ch.length : Int) < (ch.length : Int) := by omega
      have HE : Hid (Below w.heap.size w wr) := Lib.hid (HBV.out.trans (hb.mono (Nat.le_succ _)))
      rw [List.take_length]
      clear hb
      go_wp2_with (fail)
      go_ret
      exact ⟨rfl, HE.out⟩
end Go.Proofs.YtgbjpobgjmkjgaaGreat.pv
/-
  The contract of the document's own Choose.
-/
namespace Go.Proofs.YtgbjpobgjmkjgaaGreat.pv
open Go.RowKit law bytes only flat nums ord obj metric
set_option linter.unusedVariables false

/-- which place comes next -/
def nx (r : List Int) (f : Nat) (cs : List Int) : Nat := if cs.length = 0 then f else mp r
theorem nx_snoc (r : List Int) (f : Nat) (cs : List Int) (x : Int) : nx r f (cs ++ [x]) = mp r := by unfold nx; rw [if_neg (by simp)]
theorem nx_one (r : List Int) (f : Nat) (x : Int) : nx r f [x] = mp r := by unfold nx; rw [if_neg (by simp)]
set_option maxRecDepth 100000 in
set_option maxHeartbeats 6400000 in
theorem rchoose_any (w : World) (T : Nat → Prop) (n : Int) (A : Option Addr) (c : Nat) (l : List At) (p f : Int) (hT : Ts w T A l) (hsm : Brief l) (hl : l.length ≤ 1048576) :
    Calls Tryz.prog 23 #[.int .i64 n, .slice A l.length c, .int .i64 p, .int .i64 f] w (OwnI (chs (dt n l) U50 l p f) w) := by
  rcases Nat.eq_zero_or_pos l.length with h0 | h0
  · have hc : chs (dt n l) U50 l p f = [] := by unfold chs; rw [if_pos h0]
    rw [hc, h0]
    have HE : Hid (OwnI [] w (.returned (.slice none 0 0)) w) := Lib.hid ⟨none, 0, rfl, World.ownsRow_nil _ _ _ _, Below.refl _ _⟩
    clear hT hsm hc
    by_cases hp : (0 : Int) < p
    · have d0 : decide ((0 : Int) < p) = true := decide_eq_true hp
      go_enter Tryz.func23, Tryz.ntmps23
      go_wp2_with (fail)
      go_loopg [9] 0 (fun gk s9 wr => s9 = .slice none 0 0 ∧ w = wr)
      case atStart => exact ⟨rfl, rfl⟩
      case round =>
        obtain ⟨rfl, rfl⟩ := hrel
        go_wp2_with (fail)
        go_ret
        exact HE.out
    · have d0 : decide ((0 : Int) < p) = false := decide_eq_false hp
      go_enter Tryz.func23, Tryz.ntmps23
      go_wp2_with (fail)
      go_loopg [9] 0 (fun gk s9 wr => s9 = .slice none 0 0 ∧ w = wr)
      case atStart => exact ⟨rfl, rfl⟩
      case round =>
        obtain ⟨rfl, rfl⟩ := hrel
        go_wp2_with (fail)
        go_ret
        exact HE.out
  · obtain ⟨R, hR⟩ : ∃ R, chs (dt n l) U50 l p f = R := ⟨_, rfl⟩
    have hR2 : goA (dt n l) U50 l p.toNat [] (first l.length f) = R := by rw [← hR]; unfold chs; rw [if_neg (by omega)]
    rw [hR]
    have hfl := first_lt h0 f
    have hfi := first_is h0 f
    obtain ⟨f0, hf0⟩ : ∃ f0, first l.length f = f0 := ⟨_, rfl⟩
    rw [hf0] at hR2 hfl hfi
    have HT := Lib.hid hT
    have HS := Lib.hid hsm
    have HR2 := Lib.hid hR2
    have i0 : IntKind.i64.wrap ((l.length : Int) - 1) = (l.length : Int) - 1 := by rw [IntKind.wrap_i64]; omega
    have e0 : decide ((l.length : Int) > 0) = true := decide_eq_true (by omega)
    clear hT hsm hR2 hR hf0
    go_enter Tryz.func23, Tryz.ntmps23
    go_wp2_with (fail)
    go_loopg [9] p.toNat (fun gk s9 wr => ∃ (cs : List Int) (cc : Nat) (A' : Option Addr), gk = p.toNat - cs.length ∧ s9 = .slice A' cs.length cc ∧ Once (dt n l) l cs ∧ goA (dt n l) U50 l (p.toNat - cs.length) cs (nx (lr (dt n l) U50 cs l) f0 cs) = R ∧ wr.ownsRow w.heap.size 3 1 (.slice A' cs.length cc) cs.length (nv cs) ∧ Below w.heap.size w wr)
    case atStart => exact ⟨[], 0, none, rfl, rfl, Once.nil, HR2.out, World.ownsRow_nil _ _ _ _, Below.refl _ _⟩
    case round =>
      clear HR2
      obtain ⟨cs, cc, A', rfl, rfl, hon, hgo, hown, hb⟩ := hrel
      have hlen := hon.len
      have hsz := hb.size
      have HE : Hid (∀ wx, R = cs → wx.ownsRow w.heap.size 3 1 (.slice A' cs.length cc) cs.length (nv cs) → Below w.heap.size w wx → OwnI R w (.returned (.slice A' cs.length cc)) wx) := Lib.hid fun wx e ho hb => by
        subst e
        exact ⟨A', cc, rfl, ho, hb⟩
      by_cases hp : (cs.length : Int) < p
      · obtain ⟨K, hK⟩ : ∃ K, p.toNat - cs.length = K + 1 := ⟨p.toNat - cs.length - 1, by omega⟩
        rw [hK] at hgo
        have d0 : decide ((cs.length : Int) < p) = true := decide_eq_true hp
        have HK := Lib.hid hK
        obtain ⟨w0, hw0⟩ : ∃ w0, w0 = wr := ⟨_, rfl⟩
        subst hw0
        rcases Nat.eq_zero_or_pos cs.length with hz | hz
        · obtain rfl := List.eq_nil_of_length_eq_zero hz
          have hgo2 : goA (dt n l) U50 l K [(f0 : Int)] (mp (lr (dt n l) U50 [(f0 : Int)] l)) = R := by
            rw [← hgo]
            show _ = (if 0 < (lr (dt n l) U50 [] l).getD f0 0 then goA (dt n l) U50 l K [(f0 : Int)] (mp (lr (dt n l) U50 [(f0 : Int)] l)) else [])
            rw [if_pos (by rw [lr_at _ _ _ hfl, nr_nil]; decide)]
          have hon2 : Once (dt n l) l [(f0 : Int)] := hon.snoc (S := U50) (dt_self n l) hfl (by rw [lr_at _ _ _ hfl, nr_nil]; decide)
          rw [← nx_one (lr (dt n l) U50 [(f0 : Int)] l) f0 (f0 : Int)] at hgo2
          have HGO := Lib.hid hgo2
          have HON := Lib.hid hon2
          have HB := Lib.hid hb
          have HOW := Lib.hid hown
          rw [List.length_nil] at d0
          clear hgo hgo2 hon hon2 hK HE hown hb
          go_wp2_with (fail)
          go_loopg [10, 11, 12] 0 (fun gk s10 s11 s12 wr => s10 = .int .i64 f0 ∧ s11 = .int .i64 0 ∧ s12 = .int .i64 0 ∧ w0 = wr)
          case atStart => exact ⟨by first | rfl | rw [hfi], rfl, rfl, rfl⟩
          case round =>
            obtain ⟨rfl, rfl, rfl, rfl⟩ := hrel
            have hown := HOW.out
            have hb := HB.out
            have HB0 := Lib.hid hb
            clear HB HOW
            go_wp2_with (at_builtin
                         refine wpList_append_sl _ rfl (.tmp 61) (.tmp 63) _ rfl w.heap.size 3 _ 8 Tryz.underlying39 intE (.slice A' 0 cc) 0 (nv []) rfl (World.ownsRow.alloc (w := w0) hown _) _ _ 1 1 [.int .i64 f0] rfl (Sl.one w0 _ _) rfl (by simp [Value.oneCell']) (by omega) (by unfold maxLen; omega) (by simp; omega) ?_
                         intro v4 w4 hown4 hg4 hat4
                         obtain ⟨A4, c4, rfl, hc4⟩ := own_slice hown4)
            have HB4 := Lib.hid (below_append HB0.out hsz _ hown (Nat.le_refl _) hg4)
            go_roundg K
            case measure => have := HK.out; simp only [List.length_nil] at this; omega
            case rel => exact ⟨[(f0 : Int)], c4, A4, by have := HK.out; simp only [List.length_nil] at this; rw [List.length_singleton]; omega, rfl, HON.out, by
              have := HK.out
              simp only [List.length_nil] at this
              rw [List.length_singleton, show p.toNat - 1 = K by omega]
              exact HGO.out, hown4, HB4.out⟩
        · have hins : ins l.length cs = cs := ins_all hon.low
          obtain ⟨r, hr⟩ : ∃ r, lr (dt n l) U50 cs l = r := ⟨_, rfl⟩
          have hrl : r.length = l.length := by rw [← hr, lr_length]
          have hrat : ∀ i (hi : i < l.length), nr (dt n l) U50 (ins l.length cs) l[i] = r.getD i 0 := fun i hi => by rw [hins, ← hr, lr_at _ _ _ hi]
          have hnx : nx r f0 cs = mp r := by unfold nx; rw [if_neg (by omega)]
          have hmp : mp r < l.length := by rw [← hrl]; exact mp_lt (by omega)
          rw [hr, hnx] at hgo
          have hgo2 : (if 0 < r.getD (mp r) 0 then goA (dt n l) U50 l K (cs ++ [(mp r : Int)]) (mp (lr (dt n l) U50 (cs ++ [(mp r : Int)]) l)) else cs) = R := by rw [← hr] at hgo ⊢; exact hgo
          have hon2 : 0 < r.getD (mp r) 0 → Once (dt n l) l (cs ++ [(mp r : Int)]) := fun h => hon.snoc (S := U50) (dt_self n l) hmp (by rw [hr]; exact h)
          have hrk := rk_is r f0 (k := r.length) (by omega)
          have hmk : mpk r r.length = mp r := rfl
          rw [hmk, hrl] at hrk
          have HN : Hid (∀ (i : Nat) (hi : i < l.length) W, Below w0.heap.size w0 W → Calls Tryz.prog 21 #[.int .i64 n, .slice A l.length c, .slice A' cs.length cc, oW l[i]] W fun e w' => e = .returned (.int .i64 (r.getD i 0)) ∧ Below w0.heap.size w0 w') := Lib.hid fun i hi W hW => by
            have hTW := HT.out.on (hb.trans (hW.mono hsz))
            have h := near_any W T n A c l A' cc cs l[i] hTW ((Sl.of_own hown).on hW) (hTW.vec _ (List.getElem_mem hi)).sl (fun x hx => HS.out.small hx) (HS.out.small (List.getElem_mem hi)) hl (by omega)
            rw [hrat i hi] at h
            exact obj.on hW h
          have HTS : Hid (∀ W, Below w0.heap.size w0 W → Ts W T A l) := Lib.hid fun W hW => HT.out.on (hb.trans (hW.mono hsz))
          have HGO := Lib.hid hgo2
          have HON := Lib.hid hon2
          have HRK := Lib.hid hrk
          have HB := Lib.hid hb
          have HOW := Lib.hid hown
          have HMP := Lib.hid hmp
          have e2 : decide ((cs.length : Int) > 0) = true := decide_eq_true (by omega)
          clear hins hr hrl hrat hnx hmp hgo hgo2 hon hon2 hrk hmk hown hb hK
          go_wp2_with (fail)
          go_loopg [10, 11, 12] l.length (fun gk s10 s11 s12 wr => ∃ i : Nat, gk = l.length - i ∧ i ≤ l.length ∧ s10 = .int .i64 ((rk r f0 i).1 : Nat) ∧ s11 = .int .i64 (rk r f0 i).2 ∧ s12 = .int .i64 i ∧ Below w0.heap.size w0 wr)
          case atStart => exact ⟨0, rfl, Nat.zero_le _, by first | rfl | (rw [hfi]; rfl), rfl, rfl, Below.refl _ _⟩
          case round =>
            obtain ⟨i, rfl, hi, rfl, rfl, rfl, hbx⟩ := hrel
            by_cases hlt : i < l.length
            · have i1 : (i : Int) < (l.length : Int) := by omega
              have hTW := HTS.out wr hbx
              obtain ⟨bb, oo, rfl, hbb, -, hcells⟩ := hTW.place (by omega)
              obtain ⟨q0, q1, q2⟩ := hcells i hlt
              have hN := HN.out i hlt wr hbx
              have hst : rk r f0 (i + 1) = if (rk r f0 i).2 < r.getD i 0 then (i, r.getD i 0) else rk r f0 i := rfl
              obtain ⟨x, hx⟩ : ∃ x, l[i] = x := ⟨_, rfl⟩
              rw [hx] at q0 q1 q2 hN
              unfold oW at hN
              obtain ⟨⟨a, b⟩, hab⟩ : ∃ ab, rk r f0 i = ab := ⟨_, rfl⟩
              rw [hab] at hst ⊢
              generalize r.getD i 0 = d at hN hst
              dsimp only at hst ⊢
              have HNN := Lib.hid hN
              by_cases hc : b < d
              · have HST : Hid (rk r f0 (i + 1) = (i, d)) := Lib.hid (by rw [hst, if_pos hc])
                have d1 : decide (d > b) = true := decide_eq_true hc
                clear hst hN hab hx hTW hcells hc hbx HTS HN
                go_wp2_with (fail)
                refine HNN.out.mono ?_
                rintro e w5 ⟨rfl, hb5⟩
                have HB5 := Lib.hid hb5
                clear hb5 HNN
                go_wp2_with (fail)
                go_roundg (l.length - (i + 1))
                case measure => omega
                case rel => exact ⟨i + 1, rfl, by omega, by rw [HST.out], by rw [HST.out], by go_num, HB5.out⟩
              · have HST : Hid (rk r f0 (i + 1) = (a, b)) := Lib.hid (by rw [hst, if_neg hc])
                have d1 : decide (d > b) = false := decide_eq_false hc
                clear hst hN hab hx hTW hcells hc hbx HTS HN
                go_wp2_with (fail)
                refine HNN.out.mono ?_
                rintro e w5 ⟨rfl, hb5⟩
                have HB5 := Lib.hid hb5
                clear hb5 HNN
                go_wp2_with (fail)
                go_roundg (l.length - (i + 1))
                case measure => omega
                case rel => exact ⟨i + 1, rfl, by omega, by rw [HST.out], by rw [HST.out], by go_num, HB5.out⟩
            · obtain rfl : i = l.length := by omega
              have i1 : ¬ (l.length : Int) < (l.length : Int) := by omega
              have hrk := HRK.out
              have hownx := own_below HOW.out hbx (Nat.le_refl _)
              have hbw : Below w.heap.size w wr := HB.out.trans (hbx.mono hsz)
              have hszx := hbw.size
              by_cases hpos : 0 < r.getD (mp r) 0
              · rw [if_pos hpos] at hrk
                have hgo := HGO.out
                rw [if_pos hpos] at hgo
                have hon := HON.out hpos
                have hlen2 := hon.len
                rw [List.length_append, List.length_singleton] at hlen2
                have hz0 : (r.getD (mp r) 0 == 0) = false := beq_eq_false_iff_ne.2 (by omega)
                rw [hrk]
                obtain ⟨q, hq⟩ : ∃ q, mp r = q := ⟨_, rfl⟩
                obtain ⟨v, hv⟩ : ∃ v, r.getD (mp r) 0 = v := ⟨_, rfl⟩
                rw [hv] at hz0
                rw [hv, hq]
                rw [hq] at hgo hon
                rw [← nx_snoc (lr (dt n l) U50 (cs ++ [(q : Int)]) l) f0 cs (q : Int)] at hgo
                have HGO2 := Lib.hid hgo
                have HON2 := Lib.hid hon
                have HBW := Lib.hid hbw
                dsimp only
                have hbd : (cs.length + 1) * 8 ≤ 140737488355328 := by omega
                have hbd2 : cs.length + 1 ≤ maxLen := by unfold maxLen; omega
                clear hgo hon hrk hpos hq hv hbw hbx HGO HON HRK HB HOW HN HTS HE
                go_wp2_with (at_builtin
                             refine wpList_append_sl _ rfl (.tmp 61) (.tmp 63) _ rfl w.heap.size 3 _ 8 Tryz.underlying39 intE (.slice A' cs.length cc) cs.length (nv cs) rfl (World.ownsRow.alloc (w := wr) hownx _) _ _ 1 1 [.int .i64 q] rfl (Sl.one wr _ _) rfl (by simp [Value.oneCell']) hbd hbd2 (by simp; omega) ?_
                             intro v4 w4 hown4 hg4 hat4
                             obtain ⟨A4, c4, rfl, hc4⟩ := own_slice hown4)
                have HB4 := Lib.hid (below_append HBW.out hszx _ hownx (Nat.le_refl _) hg4)
                have HO4 := Lib.hid hown4
                clear hown4 hg4 hat4
                go_roundg K
                case measure => have := HK.out; omega
                case rel => exact ⟨cs ++ [(q : Int)], c4, A4, by have := HK.out; rw [List.length_append, List.length_singleton]; omega, by rw [List.length_append, List.length_singleton], HON2.out, by
                  have := HK.out
                  rw [List.length_append, List.length_singleton, show p.toNat - (cs.length + 1) = K by omega]
                  exact HGO2.out, by
                  rw [List.length_append, List.length_singleton, nv_snoc]
                  exact HO4.out, HB4.out⟩
              · rw [if_neg hpos] at hrk
                have hgo := HGO.out
                rw [if_neg hpos] at hgo
                rw [hrk]
                have HF2 := Lib.hid (HE.out wr hgo.symm hownx hbw)
                dsimp only
                clear hgo hrk hpos hbw hbx hownx HGO HON HRK HB HOW HN HTS HE
                go_wp2_with (fail)
                go_ret
                exact HF2.out
      · have hgo2 : cs = R := by
          rw [show p.toNat - cs.length = 0 by omega] at hgo
          exact hgo
        have HF2 := Lib.hid (HE.out wr hgo2.symm hown hb)
        have d0 : decide ((cs.length : Int) < p) = false := decide_eq_false hp
        clear HE hgo hgo2 hon hlen hown hb
        go_wp2_with (fail)
        go_ret
        exact HF2.out
end Go.Proofs.YtgbjpobgjmkjgaaGreat.pv
