/-
  For every k and all rows of hits the law BestKeeps returns true, and changes nothing that there was. No condition.
-/
import Derived.Test.YtbpahlhmdbahjaaBLives
import Derived.Test.YtbpahlhmdbahjaaHitOpen
import Derived.Deep.Cut
import Derived.Deep.CutRange
namespace Go.Proofs.Ytbpahlhmdbahjaa.bestKeeps
open Go.RowKit law bytes only flat came hit best Go.Sort Go.Shelf
open Go.ChangeShapes Go.WideShapes Go.Deep Go.ChangeAt
set_option linter.unusedVariables false

/-- a row that is read, away from what turns -/
def Aw (W : World) (T : Nat → Prop) (A : Option Addr) (xs : List Value) : Prop := ∀ j u, xs[j]? = some u → ∃ ad, A = some ad ∧ ad.block < W.heap.size ∧ ¬ T ad.block ∧ W.cell? (ad.add j) = some u
section
variable {W W2 : World} {T T2 : Nat → Prop} {A : Option Addr} {xs : List Value}
theorem Aw.sl (h : Aw W T A xs) : Sl W W.heap.size A xs := fun j u hj => by
  obtain ⟨ad, e, hb, _, hc⟩ := h j u hj
  exact ⟨ad, e, hb, hc⟩
theorem Aw.step (h : Aw W T A xs) (o : Only T W W2) (hT : ∀ i, i < W.heap.size → ¬ T i → ¬ T2 i) : Aw W2 T2 A xs := fun j u hj => by
  obtain ⟨ad, rfl, hb, hm, hc⟩ := h j u hj
  refine ⟨ad, rfl, Nat.lt_of_lt_of_le hb o.size, hT _ hb hm, ?_⟩
  rw [World.cell?_of_block (o.block _ (by rw [blk_add]; exact hb) (by rw [blk_add]; exact hm))]
  exact hc
theorem Aw.below (h : Aw W T A xs) (o : Below W.heap.size W W2) : Aw W2 T A xs := h.step (Only.of_below o (Nat.le_refl _) _) fun _ _ e => e
/-- what was made behind all that turns -/
theorem Aw.made {B : Nat} {e : TypeId} {n c : Nat} (ho : W.ownsRow B e 2 (.slice A n c) n xs) (hT : ∀ i, T i → i < B) : Aw W T A xs := fun j u hj => by
  have hn : 0 < n := by
    have := ho.1
    have hj2 := (List.getElem?_eq_some_iff.1 hj).1
    omega
  obtain ⟨ad, e4, hb, hc⟩ := Sl.of_ownK ho j u hj
  obtain ⟨g, k, e1, h1, h2, _⟩ := own_form ho hn
  injection e1 with e1 _ _
  rw [e1] at e4
  injection e4 with e4
  refine ⟨ad, by rw [e1, e4], hb, fun ht => ?_, hc⟩
  have := hT _ ht
  rw [← e4] at this
  exact absurd h1 (by simpa using this)
end
/-- where the law stands behind an Add of place i: what the Best keeps, what is kept -/
def Q1 (w : World) (bb : Nat) (k : Int) (l : List Hit) (A : Option Addr) (W : World) : Prop :=
  ∃ T, Be W w.heap.size bb T k l ∧ Aw W T A (hv (keep k l)) ∧ Below w.heap.size w W ∧ w.heap.size ≤ W.heap.size
/-- .. and what List told -/
def Q2 (w : World) (bb : Nat) (k : Int) (l : List Hit) (A A3 : Option Addr) (W : World) : Prop := Q1 w bb k l A W ∧ Sl W W.heap.size A3 (hv (keep k l))
/-- where the law stands between two hits -/
def Q0 (w : World) (bb : Nat) (k : Int) (l : List Hit) (W : World) : Prop := ∃ T, Be W w.heap.size bb T k l ∧ Below w.heap.size w W ∧ w.heap.size ≤ W.heap.size
section
variable {w W W2 : World} {bb : Nat} {k : Int} {l : List Hit} {A A3 : Option Addr}
theorem Q1.on (h : Q1 w bb k l A W) (o : Below W.heap.size W W2) : Q1 w bb k l A W2 := by
  obtain ⟨T, h1, h2, h3, h4⟩ := h
  exact ⟨T, h1.below o (Nat.le_refl _), h2.below o, h3.trans (o.mono h4), Nat.le_trans h4 o.size⟩
theorem Q1.drew (h : Q1 w bb k l A W) : Q1 w bb k l A W.drew := h.on ((Below.refl _ _).drew)
theorem Q1.drewN (h : Q1 w bb k l A W) (n : Nat) : Q1 w bb k l A (W.drewN n) := h.on (below_drewN' (Below.refl _ _) n)
theorem Q1.q0 (h : Q1 w bb k l A W) : Q0 w bb k l W := by
  obtain ⟨T, h1, h2, h3, h4⟩ := h
  exact ⟨T, h1, h3, h4⟩
theorem Q2.drew (h : Q2 w bb k l A A3 W) : Q2 w bb k l A A3 W.drew := ⟨h.1.drew, h.2⟩
theorem Q2.drewN (h : Q2 w bb k l A A3 W) (n : Nat) : Q2 w bb k l A A3 (W.drewN n) := ⟨h.1.drewN n, h.2⟩
theorem Q0.on (h : Q0 w bb k l W) (o : Below W.heap.size W W2) : Q0 w bb k l W2 := by
  obtain ⟨T, h1, h3, h4⟩ := h
  exact ⟨T, h1.below o (Nat.le_refl _), h3.trans (o.mono h4), Nat.le_trans h4 o.size⟩
theorem Q1.add (x : Hit) (n : Nat) (hlk : (keep k (l ++ [x])).length = n) (hsz : (l.length + 1) * 16 ≤ 140737488355328) {B c : Nat} (h : Q0 w bb k l W) {w1 : World} (h1 : Q0 w bb k l w1) (hb : Below w1.heap.size w1 W)
    (ho : W.ownsRow w1.heap.size 30 2 (.slice A n c) n (hv (keep k (l ++ [x])))) :
    Calls Try.prog 9 #[.pointer (some ⟨bb, 0, none⟩), .agg #[.int .u64 x.1, .int .i64 x.2]] W fun e w' => e = .returned (.bool (ad k l x)) ∧ Q1 w bb k (l ++ [x]) A w' := by
  obtain ⟨T, b1, b2, b3⟩ := h1
  have hB := b1.below hb (Nat.le_refl _)
  have haw : Aw W T A (hv (keep k (l ++ [x]))) := Aw.made ho fun i hi => (b1.low hi).2
  have hsz2 := Nat.le_trans b3 hb.size
  refine (add_any hB x hsz2 hsz).mono fun e w' ⟨he, ho2, T', hB', hT'⟩ => ⟨he, T', hB', haw.step ho2 (fun i hi hn ht => ?_), (b2.trans (hb.mono b3)).trans (ho2.below hsz2 fun i e => (hB.low e).1), Nat.le_trans hsz2 ho2.size⟩
  rcases hT' i ht with e | e
  · exact hn e
  · omega
end
set_option maxRecDepth 100000 in
set_option maxHeartbeats 12800000 in
theorem walk (k : Int) (A : Option Addr) (c : Nat) (l : List Hit) (hm : l.length * 16 ≤ 140737488355328) (hlc : l.length ≤ c) (w : World) (hs : Sl w w.heap.size A (hv l)) :
    Calls Try.prog 3 #[.int .i64 k, .slice A l.length c] w fun e w' => e = .returned (.bool true) ∧ Below w.heap.size w w' := by
  have HN := Lib.hid (new_any k w)
  have HS := Lib.hid hs
  clear hs
  go_enter Try.func3, Try.ntmps3
  go_wp2_with (fail)
  refine HN.out.mono ?_
  rintro e w1 ⟨bb, T, rfl, hb1, hB1⟩
  have HQ : Hid (Q0 w bb k (l.take 0) w1) := Lib.hid ⟨T, by rw [List.take_zero]; exact hB1, hb1, hb1.size⟩
  clear HN hb1 hB1
  go_wp2_with (fail)
  go_loopg [6, 7, 8, 9] l.length (fun gk s6 s7 s8 s9 wr => ∃ i : Nat, gk = l.length - i ∧ i ≤ l.length ∧ s6 = .int .i64 i ∧ Q0 w bb k (l.take i) wr)
  case atStart => exact ⟨0, rfl, Nat.zero_le _, rfl, HQ.out⟩
  case round =>
    clear HQ
    obtain ⟨i, rfl, hi, rfl, hq⟩ := hrel
    by_cases hlt : i < l.length
    · obtain ⟨b, o, rfl, hbb, hcells⟩ := Sl.hit HS.out (by omega)
      obtain ⟨hc0, hc1⟩ := hcells i hlt
      obtain ⟨i1, hi1⟩ : ∃ i1, i1 = i + 1 := ⟨_, rfl⟩
      have j1 : (i : Int) < (l.length : Int) := by omega
      have j2 : IntKind.i64.wrap ((i : Int) + 1) = (i1 : Int) := by rw [IntKind.wrap_i64]; omega
      have j3 : (i : Int) ≤ (c : Int) := by omega
      have j4 : (i1 : Int) ≤ (c : Int) := by omega
      have j5 : i ≤ c := by omega
      have j6 : i1 ≤ c := by omega
      obtain ⟨x, hx⟩ : ∃ x, l[i] = x := ⟨_, rfl⟩
      have htk : l.take i1 = l.take i ++ [x] := by rw [hi1, List.take_succ_eq_append_getElem hlt, hx]
      have hl0 : (l.take i).length = i := by rw [List.length_take]; omega
      have hl1 : (l.take i1).length = i1 := by rw [List.length_take]; omega
      rw [hx] at hc0 hc1
      obtain ⟨n1, hn1⟩ : ∃ n, (keep k (l.take i)).length = n := ⟨_, rfl⟩
      obtain ⟨n2, hn2⟩ : ∃ n, (keep k (l.take i1)).length = n := ⟨_, rfl⟩
      have hn1l : n1 ≤ i := by have := keep_le k (l.take i); omega
      have hn2l : n2 ≤ i1 := by have := keep_le k (l.take i1); omega
      have hin : ∀ W, Below w.heap.size w W → ∀ m, Sl W w.heap.size (some ⟨b, o, none⟩) (hv (l.take m)) := fun W hW m j u hj => (HS.out.below hW) j u (by
        have e : hv l = hv (l.take m) ++ hv (l.drop m) := by rw [← hv_append, List.take_append_drop]
        rw [e, List.getElem?_append_left (List.getElem?_eq_some_iff.1 hj).1]
        exact hj)
      have HK1 : Hid (Calls Try.prog 7 #[.slice (some ⟨b, o, none⟩) i c, .int .i64 k] wr fun e w' => ∃ A1 c1, e = .returned (.slice A1 n1 c1) ∧ Sl w' w'.heap.size A1 (hv (keep k (l.take i))) ∧ Q0 w bb k (l.take i) w') := Lib.hid (by
        obtain ⟨T, q1, q2, q3⟩ := hq
        have h := keep_any (some ⟨b, o, none⟩) (l.take i) c w.heap.size k wr (by omega) q3 (hin wr q2 i)
        rw [hl0] at h
        refine h.mono fun e w' ⟨A1, c1, he, ho, hb⟩ => ⟨A1, c1, by rw [he, hn1], Sl.of_ownK ho, Q0.on ⟨T, q1, q2, q3⟩ hb⟩)
      have HK2 : Hid (∀ W, Q0 w bb k (l.take i) W → Calls Try.prog 7 #[.slice (some ⟨b, o, none⟩) i1 c, .int .i64 k] W fun e w' => ∃ A2 c2, e = .returned (.slice A2 n2 c2) ∧ w'.ownsRow W.heap.size 30 2 (.slice A2 n2 c2) n2 (hv (keep k (l.take i1))) ∧ Below W.heap.size W w') := Lib.hid fun W ⟨T, q1, q2, q3⟩ => by
        have h := keep_any (some ⟨b, o, none⟩) (l.take i1) c w.heap.size k W (by omega) q3 (hin W q2 i1)
        rw [hl1] at h
        refine h.mono fun e w' ⟨A2, c2, he, ho, hb⟩ => ⟨A2, c2, by rw [he, hn2], by rw [← hn2]; exact ho, hb⟩
      have HSM : Hid (∀ W A1 c1 A2 c2 B1 B2, Sl W B1 A1 (hv (keep k (l.take i))) → Sl W B2 A2 (hv (keep k (l.take i1))) → Calls Try.prog 8 #[.slice A2 n2 c2, .slice A1 n1 c1] W fun e w' => e = .returned (.bool (decide (keep k (l.take i1) = keep k (l.take i)))) ∧ Below W.heap.size W w') := Lib.hid fun W A1 c1 A2 c2 B1 B2 h1 h2 => by
        have h := same2_any A2 A1 _ _ c2 c1 _ _ W (by omega) (by omega) h2 h1
        rw [hn1, hn2] at h
        exact h
      obtain ⟨q, hqq⟩ : ∃ q, ad k (l.take i) x = q := ⟨_, rfl⟩
      have HQQ : Hid (q = decide (keep k (l.take i1) ≠ keep k (l.take i))) := Lib.hid (by rw [← hqq, htk]; rfl)
      have HAD : Hid (∀ wa A2 c2 W, Q0 w bb k (l.take i) wa → Below wa.heap.size wa W → W.ownsRow wa.heap.size 30 2 (.slice A2 n2 c2) n2 (hv (keep k (l.take i1))) →
          Calls Try.prog 9 #[.pointer (some ⟨bb, 0, none⟩), .agg #[.int .u64 x.1, .int .i64 x.2]] W fun e w' => e = .returned (.bool q) ∧ Q1 w bb k (l.take i1) A2 w') := Lib.hid fun wa A2 c2 W h1 h2 h3 => by
        rw [htk] at h3 ⊢
        have h := Q1.add (w := w) (bb := bb) (k := k) (l := l.take i) (A := A2) x n2 (by rw [← htk]; exact hn2) (by omega) (B := 0) (h1.on h2) h1 h2 h3
        rw [hqq] at h
        exact h
      have HLS : Hid (∀ A2 W, Q1 w bb k (l.take i1) A2 W → Calls Try.prog 10 #[.pointer (some ⟨bb, 0, none⟩)] W fun e w' => ∃ A3 c3, e = .returned (.slice A3 n2 c3) ∧ Q2 w bb k (l.take i1) A2 A3 w') := Lib.hid fun A2 W h => by
        obtain ⟨T, q1, q2, q3, q4⟩ := h
        refine (list_any q1 (by omega)).mono fun e w' ⟨A3, c3, he, ho, hb⟩ => ⟨A3, c3, by rw [he, hn2], Q1.on ⟨T, q1, q2, q3, q4⟩ hb, Sl.of_ownK ho⟩
      have HS2 : Hid (∀ A2 A3 c2 c3 W, Q2 w bb k (l.take i1) A2 A3 W → Calls Try.prog 8 #[.slice A3 n2 c3, .slice A2 n2 c2] W fun e w' => e = .returned (.bool true) ∧ Q1 w bb k (l.take i1) A2 w') := Lib.hid fun A2 A3 c2 c3 W ⟨h1, h2⟩ => by
        obtain ⟨T, q1, q2, q3, q4⟩ := h1
        have h := same_any A3 A2 _ c3 c2 _ _ W (by omega) h2 q2.sl
        rw [hn2] at h
        exact h.mono fun e w' ⟨he, hb⟩ => ⟨he, Q1.on ⟨T, q1, q2, q3, q4⟩ hb⟩
      have HLE : Hid (∀ A2 W, Q1 w bb k (l.take i1) A2 W → Calls Try.prog 11 #[.pointer (some ⟨bb, 0, none⟩)] W fun e w' => e = .returned (.int .i64 (n2 : Int)) ∧ Q1 w bb k (l.take i1) A2 w') := Lib.hid fun A2 W h => by
        obtain ⟨T, q1, q2, q3, q4⟩ := h
        have h := len_any q1
        rw [hn2] at h
        exact h.mono fun e w' ⟨he, hb⟩ => ⟨he, Q1.on ⟨T, q1, q2, q3, q4⟩ hb⟩
      obtain ⟨bv, hbv⟩ : ∃ bv, bd k (l.take i1) = bv := ⟨_, rfl⟩
      have HBO : Hid (∀ A2 W, Q1 w bb k (l.take i1) A2 W → Calls Try.prog 12 #[.pointer (some ⟨bb, 0, none⟩)] W fun e w' => e = .returned (.int .i64 bv) ∧ Q1 w bb k (l.take i1) A2 w') := Lib.hid fun A2 W h => by
        obtain ⟨T, q1, q2, q3, q4⟩ := h
        have h := bound_any q1
        rw [hbv] at h
        exact h.mono fun e w' ⟨he, hb⟩ => ⟨he, Q1.on ⟨T, q1, q2, q3, q4⟩ hb⟩
      have HRB : Hid (∀ A2 W, Q1 w bb k (l.take i1) A2 W → Calls Try.prog 13 #[.slice (some ⟨b, o, none⟩) i1 c, .int .i64 k] W fun e w' => e = .returned (.int .i64 bv) ∧ Q1 w bb k (l.take i1) A2 w') := Lib.hid fun A2 W h => by
        obtain ⟨T, q1, q2, q3, q4⟩ := h
        have h := rbound_any (some ⟨b, o, none⟩) (l.take i1) c w.heap.size k W (by omega) q4 (hin W q3 i1)
        rw [hl1, hbv] at h
        exact h.mono fun e w' ⟨he, hb⟩ => ⟨he, Q1.on ⟨T, q1, q2, q3, q4⟩ hb⟩
      obtain ⟨fo, hfo⟩ : ∃ fo, decide (k ≤ (n2 : Int)) = fo := ⟨_, rfl⟩
      have HFU : Hid (∀ A2 W, Q1 w bb k (l.take i1) A2 W → Calls Try.prog 14 #[.pointer (some ⟨bb, 0, none⟩)] W fun e w' => e = .returned (.bool fo) ∧ Q1 w bb k (l.take i1) A2 w') := Lib.hid fun A2 W h => by
        obtain ⟨T, q1, q2, q3, q4⟩ := h
        have h := full_any q1
        rw [hn2, hfo] at h
        exact h.mono fun e w' ⟨he, hb⟩ => ⟨he, Q1.on ⟨T, q1, q2, q3, q4⟩ hb⟩
      have HSC : Hid (∀ W, Below w.heap.size w W → W.cell? ⟨b, o + i * 2, none⟩ = some (.int .u64 x.1) ∧ W.cell? ⟨b, o + i * 2 + 1, none⟩ = some (.int .i64 x.2)) := Lib.hid fun W hW =>
        ⟨(hW.cell (p := ⟨b, _, none⟩) hbb).trans hc0, (hW.cell (p := ⟨b, _, none⟩) hbb).trans hc1⟩
      have HNL : Hid (n1 < n2 → q = true) := Lib.hid fun h => by
        rw [HQQ.out]
        refine decide_eq_true fun e => ?_
        rw [e, hn1] at hn2
        omega
      have HSQ : Hid (∀ A2 W, Q1 w bb k (l.take i1) A2 W → W.cell? ⟨b, o + i * 2, none⟩ = some (.int .u64 x.1) ∧ W.cell? ⟨b, o + i * 2 + 1, none⟩ = some (.int .i64 x.2)) := Lib.hid fun A2 W ⟨T, q1, q2, q3, q4⟩ => HSC.out W q3
      have HI1 := Lib.hid hi1
      clear hx htk hl0 hl1 hqq hbv hin hc0 hc1 hcells hn1 hn2 hq hi1
      go_wp2_with (fail)
      refine HK1.out.mono ?_
      rintro e wa ⟨A1, c1, rfl, hs1, hqa⟩
      have HS1 := Lib.hid hs1
      have HQA := Lib.hid hqa
      have HK := Lib.hid (HK2.out wa hqa)
      clear HK1 HK2 hs1 hqa
      go_wp2_with (fail)
      refine HK.out.mono ?_
      rintro e wb ⟨A2, c2, rfl, hown, hbw⟩
      have HOW := Lib.hid hown
      have HBW := Lib.hid hbw
      have HSA := Lib.hid (HSM.out wb A1 c1 A2 c2 _ _ (HS1.out.below hbw) (Sl.of_ownK hown))
      clear HK HSM HS1 hown hbw
      obtain ⟨sm, hsm⟩ : ∃ sm, decide (keep k (l.take i1) = keep k (l.take i)) = sm := ⟨_, rfl⟩
      have HQS : Hid (q = !sm) := Lib.hid (by rw [HQQ.out, ← hsm]; simp)
      rw [hsm] at HSA
      clear hsm HQQ
      go_upto_region 7 with (fail)
      go_cut [9] from 12 to 81 (fun s9 wc => s9 = .bool q ∧ Below wb.heap.size wb wc)
      case first =>
        by_cases hnn : n1 < n2
        · have hqt := Lib.hid (HNL.out hnn)
          have z1 : decide (n1 < n2) = true := decide_eq_true hnn
          have z2 : decide ((n1 : Int) < (n2 : Int)) = true := decide_eq_true (by omega)
          have z3 : (n1 : Int) < (n2 : Int) := by omega
          go_wp2_with (fail)
          go_meet
          case rel => exact ⟨by rw [hqt.out], Below.refl _ _⟩
        · have z1 : decide (n1 < n2) = false := decide_eq_false hnn
          have z2 : decide ((n1 : Int) < (n2 : Int)) = false := decide_eq_false (by omega)
          have z3 : ¬ (n1 : Int) < (n2 : Int) := by omega
          go_wp2_with (fail)
          refine HSA.out.mono ?_
          rintro e w3 ⟨rfl, hb3⟩
          have HB3 := Lib.hid hb3
          clear hb3
          go_wp2_with (fail)
          go_meet
          case rel => exact ⟨by rw [HQS.out], HB3.out⟩
      case rest =>
        obtain ⟨rfl, hbc⟩ := hcut
        have HAC : Hid (∀ W, Below wc.heap.size wc W → Calls Try.prog 9 #[.pointer (some ⟨bb, 0, none⟩), .agg #[.int .u64 x.1, .int .i64 x.2]] W fun e w' => e = .returned (.bool q) ∧ Q1 w bb k (l.take i1) A2 w') := Lib.hid fun W hW =>
          HAD.out wa A2 c2 W HQA.out (HBW.out.trans ((hbc.trans (hW.mono hbc.size)).mono HBW.out.size)) (own_below HOW.out (hbc.trans (hW.mono hbc.size)) (Nat.le_refl _))
        have HSW : Hid (∀ W, Below wc.heap.size wc W → W.cell? ⟨b, o + i * 2, none⟩ = some (.int .u64 x.1) ∧ W.cell? ⟨b, o + i * 2 + 1, none⟩ = some (.int .i64 x.2)) := Lib.hid fun W hW => by
          obtain ⟨T, q1, q2, q3⟩ := HQA.out
          exact HSC.out W (q2.trans ((HBW.out.trans ((hbc.trans (hW.mono hbc.size)).mono HBW.out.size)).mono q3))
        obtain ⟨x1, x2⟩ := x
        dsimp only at HAC HSW HSQ
        obtain ⟨q0, q1⟩ := HSW.out wc (Below.refl _ _)
        have d1 : (q != q) = false := by simp
        have d2 : ((n2 : Int) != (n2 : Int)) = false := by simp
        have d3 : (bv != bv) = false := by simp
        have d4 : (fo != fo) = false := by simp
        clear hbc HAD HSC HQS HNL HSA HOW HBW HQA
        go_wp2_with (fail)
        go_region_held3 (fun W => W.cell? ⟨b, o + i * 2, none⟩ = some (.int .u64 x1) ∧ W.cell? ⟨b, o + i * 2 + 1, none⟩ = some (.int .i64 x2))
          ((first
            | (refine HSW.out _ ?_; (repeat' (first | (with_reducible exact Below.refl _ _) | (with_reducible assumption) | (with_reducible refine Below.drew ?_) | (with_reducible refine below_drewN' ?_ _))); done)
            | (refine HSQ.out A2 _ ?_; (repeat' (first | (with_reducible assumption) | (with_reducible refine Q1.drew ?_) | (with_reducible refine Q1.drewN ?_ _))); done)))
          (first
            | (go_at_call 9; (with_reducible refine (HAC.out _ (by repeat' (first | (with_reducible exact Below.refl _ _) | (with_reducible assumption) | (with_reducible refine Below.drew ?_) | (with_reducible refine below_drewN' ?_ _)))).mono ?_); rintro e w3 ⟨rfl, hq3⟩)
            | (go_at_call 10; (with_reducible refine (HLS.out A2 _ (by repeat' (first | (with_reducible assumption) | (with_reducible refine Q1.drew ?_) | (with_reducible refine Q1.drewN ?_ _)))).mono ?_); rintro e w4 ⟨A3, c3, rfl, hq4⟩; have hq4' := hq4.1)
            | (go_at_call 8; (with_reducible refine (HS2.out A2 _ c2 _ _ (by repeat' (first | (with_reducible assumption) | (with_reducible refine Q2.drew ?_) | (with_reducible refine Q2.drewN ?_ _)))).mono ?_); rintro e w5 ⟨rfl, hq5⟩)
            | (go_at_call 11; (with_reducible refine (HLE.out A2 _ (by repeat' (first | (with_reducible assumption) | (with_reducible refine Q1.drew ?_) | (with_reducible refine Q1.drewN ?_ _)))).mono ?_); rintro e w6 ⟨rfl, hq6⟩)
            | (go_at_call 12; (with_reducible refine (HBO.out A2 _ (by repeat' (first | (with_reducible assumption) | (with_reducible refine Q1.drew ?_) | (with_reducible refine Q1.drewN ?_ _)))).mono ?_); rintro e w7 ⟨rfl, hq7⟩)
            | (go_at_call 13; (with_reducible refine (HRB.out A2 _ (by repeat' (first | (with_reducible assumption) | (with_reducible refine Q1.drew ?_) | (with_reducible refine Q1.drewN ?_ _)))).mono ?_); rintro e w8 ⟨rfl, hq8⟩)
            | (go_at_call 14; (with_reducible refine (HFU.out A2 _ (by repeat' (first | (with_reducible assumption) | (with_reducible refine Q1.drew ?_) | (with_reducible refine Q1.drewN ?_ _)))).mono ?_); rintro e w9 ⟨rfl, hq9⟩))
        have HQ9 := Lib.hid hq9.q0
        clear hq9
        go_wp2_with (fail)
        go_roundg (l.length - i1)
        case measure => have := HI1.out; omega
        case rel => exact ⟨i1, rfl, by have := HI1.out; omega, rfl, HQ9.out⟩
    · obtain rfl : i = l.length := by omega
      rw [List.take_length] at hq
      have j1 : ¬ (l.length : Int) < (l.length : Int) := by omega
      obtain ⟨bv, hbv⟩ : ∃ bv, bd k l = bv := ⟨_, rfl⟩
      have HBO : Hid (Calls Try.prog 12 #[.pointer (some ⟨bb, 0, none⟩)] wr fun e w' => e = .returned (.int .i64 bv) ∧ Q0 w bb k l w') := Lib.hid (by
        obtain ⟨T, q1, q2, q3⟩ := hq
        have h := bound_any q1
        rw [hbv] at h
        exact h.mono fun e w' ⟨he, hb⟩ => ⟨he, Q0.on ⟨T, q1, q2, q3⟩ hb⟩)
      have HRB : Hid (∀ W, Q0 w bb k l W → Calls Try.prog 13 #[.slice A l.length c, .int .i64 k] W fun e w' => e = .returned (.int .i64 bv) ∧ Q0 w bb k l w') := Lib.hid fun W ⟨T, q1, q2, q3⟩ => by
        have h := rbound_any A l c w.heap.size k W hm q3 (HS.out.below q2)
        rw [hbv] at h
        exact h.mono fun e w' ⟨he, hb⟩ => ⟨he, Q0.on ⟨T, q1, q2, q3⟩ hb⟩
      have d1 : (bv == bv) = true := by simp
      clear hbv hq
      go_wp2_with (fail)
      refine HBO.out.mono ?_
      rintro e w2 ⟨rfl, hq2⟩
      have HR := Lib.hid (HRB.out w2 hq2)
      clear HBO HRB hq2
      go_wp2_with (fail)
      refine HR.out.mono ?_
      rintro e w3 ⟨rfl, hq3⟩
      obtain ⟨T, q1, q2, q3⟩ := hq3
      have HL : Hid (Calls Try.prog 15 #[] w3 fun e w' => e = .returned (.bool true) ∧ Below w.heap.size w w') := Lib.hid ((lives_any w3).mono fun e w' ⟨he, hb⟩ => ⟨he, q2.trans (hb.mono q3)⟩)
      clear HR q1 q2 q3
      go_wp2_with (fail)
      refine HL.out.mono ?_
      rintro e w4 ⟨rfl, hb4⟩
      have HB4 := Lib.hid hb4
      clear HL hb4
      go_wp2_with (fail)
      go_ret
      exact ⟨rfl, HB4.out⟩

theorem lifted (os : Os) (started : os.Started) (H : Type) (enc : TypeId × Value → H) :
    ReturnsInHanded {} Try.checked os 3 .any (Rows.bestKeepsSpec.pre6 enc Try.prog Try.f3 Rows.bestKeepsRow.domain false) (Rows.bestKeepsSpec.post enc Try.prog Try.f3 false true false false) := by
  refine lift (C := Try.checked) (by kernel_rfl) started (by kernel_rfl) Try.func3 rfl (by kernel_rfl) (by kernel_rfl) rfl Try.underlying4
    (fun ds hd => by match ds, hd with | [_, _], _ => exact ⟨rfl, rfl, rfl⟩)
    (ChangeSpec.witness6 (enc := enc) (C := Try.checked) false ⟨#[], #[.int .i64 0, .slice none 0 0], []⟩ 8 (by kernel_rfl) (by kernel_rfl) (by kernel_rfl) (by kernel_rfl)) ?_
  intro W base args ds before hval0 hA0 hfz hsz0
  have hval : ∀ (j : Nat) t v, Try.f3.params[j]? = some t → args[j]? = some v → Value.okWide Try.prog W .any base t v := hval0
  have hA : DataW.TrodAll enc Try.prog W 0 (fun _ => true) true Try.f3.params.toList args.toList ds before := hA0
  have hsz : (DataW.weightsEach Try.prog Try.f3.params.toList ds).all (· ≤ reachBytes) = true := hsz0
  rw [Try.params3] at hA hval hsz
  obtain ⟨v0, vs0, d0, ds0, p0, q0, hargs, rfl, rfl, h0, r0⟩ := trodAll_cons hA
  obtain ⟨v1, vs1, d1, ds1, p1, q1, rfl, rfl, rfl, h1, r1⟩ := trodAll_cons r0
  obtain ⟨rfl, rfl, rfl⟩ := trodAll_nil r1
  obtain rfl : args = #[v0, v1] := by cases args; simp_all
  obtain ⟨k, rfl, rfl, rfl, wk⟩ := open_int Try.underlying3 (hval 0 3 v0 rfl rfl) h0
  obtain ⟨A, c, l, rfl, hlc, hs, hd⟩ := open_hitsc (hval 1 22 v1 rfl rfl) h1
  have hm : l.length * 16 ≤ 140737488355328 := by
    rcases hd with rfl | ⟨el, sp, rfl, hle⟩
    · simp
    · have h2 := sized_slice hsz (j := 1) rfl rfl Try.underlying22
      rw [show Try.prog.bytesOf 30 = 16 from by kernel_rfl] at h2
      have hr := reachBytes_lt
      omega
  exact walk k A c l hm hlc W hs

theorem proved : Rows.BestKeepsSaid :=
  OpenClaim.holds_of_wide 3 Try.f3 rfl rfl rfl rfl rfl rfl rfl ⟨rfl, rfl, rfl, rfl, rfl⟩ rfl rfl rfl rfl rfl (by kernel_rfl) Try.func3 (by kernel_rfl)
    (of_decide_eq_true (by kernel_rfl)) (by unfold Func.isWrapper; first | (rw [if_pos (by decide +kernel)]; kernel_rfl) | (rw [if_neg (by decide +kernel)]; exact ⟨rfl, rfl⟩))
    (fun os started H enc _ => lifted os started H enc)
#print axioms proved
end Go.Proofs.Ytbpahlhmdbahjaa.bestKeeps
