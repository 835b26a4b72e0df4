/-
  The contracts of Choose and Spread.
-/
import Derived.Test.YthbohedkagjohaaPvB
namespace Go.Proofs.Ythbohedkagjohaa.pv
open Go.RowKit law bytes only flat nums ord obj metric
set_option linter.unusedVariables false

theorem own_base {w : World} {B B' : Nat} {e : TypeId} {size n : Nat} {v : Value} {xs : List Value} (h : w.ownsRow B e size v n xs) (hB : B' ≤ B) : w.ownsRow B' e size v n xs := by
  refine ⟨h.1, ?_⟩
  rcases h.2 with h | ⟨g, c, cur, hv, hg, rest⟩
  · exact .inl h
  · exact .inr ⟨g, c, cur, hv, Nat.le_trans hB hg, rest⟩
/-- where Choose and Spread stand: the chosen ones' row v; least distances from cr; asked m times more -/
structure St (w W : World) (g : Nat) (n k : Int) (l : List At) (v : Value) (cs cr : List Int) (m : Nat) : Prop where
  own : W.ownsRow (w.heap.size + 1) 3 1 v cs.length (nv cs)
  row : Rw W w.heap.size w.heap.size l.length (lr (dt n l) U63 cr l)
  only : Only (fun i => i = g) w W
  mt : Mt W g n (k + (m : Int))
/-- what is asked for in both -/
structure Fit (w : World) (g : Nat) (n k : Int) (A : Option Addr) (l : List At) : Prop where
  ts : Ts w (fun i => i = g) A l
  mt : Mt w g n k
  brief : Brief l
section
variable {w W W' : World} {g c : Nat} {n k : Int} {A : Option Addr} {l : List At} {v : Value} {cs cr : List Int} {m p : Nat}
theorem Fit.things (h : Fit w g n k A l) (o : Only (fun i => i = g) w W) : Ts W (fun i => i = g ∨ w.heap.size ≤ i) A l := h.ts.step o fun i hi hn e => by
  rcases e with e | e
  · exact hn e
  · omega
theorem St.bring (h : St w W g n k l v cs cr m) (hF : Fit w g n k A l) (hp : p < l.length) (h0 : 0 ≤ k) (h1 : k + (m : Int) + (l.length : Int) < 9223372036854775807) :
    Calls Try.prog 18 #[.pointer (some ⟨g, 0, none⟩), .slice A l.length c, .int .i64 p, .slice (some ⟨w.heap.size, 0, none⟩) l.length l.length] W fun e w' => e = .returned (.tuple #[]) ∧ St w w' g n k l v cs (cr ++ [(p : Int)]) (m + l.length) := by
  have hg := hF.mt.lt
  refine (bring_any W _ g w.heap.size w.heap.size l.length p n (k + m) A c l _ hp (hF.things h.only) (.inl rfl) (.inr (Nat.le_refl _)) (Nat.ne_of_lt hg) (fun x hx => hF.brief.small hx) h.mt (by omega) h.row (lr_length ..)).mono fun e w' ⟨he, ho, hm, hr⟩ => ⟨he, ?_, ?_, ?_, ?_⟩
  · exact own_only h.own ho fun i e e2 => by
      have h2 := (own_lt h.own e).1
      rcases e2 with e2 | e2 <;> omega
  · rw [brk_all] at hr
    exact hr
  · exact h.only.trans ho fun i e => e.elim .inl fun e => .inr (by omega)
  · rw [Int.add_assoc] at hm
    push_cast
    exact hm
theorem St.far (h : St w W g n k l v cs cr m) (h0 : 0 < l.length) (hm : l.length ≤ 8796093022208) :
    Calls Try.prog 19 #[.slice (some ⟨w.heap.size, 0, none⟩) l.length l.length] W fun e w' => e = .returned (.int .i64 (mp (lr (dt n l) U63 cr l))) ∧ W = w' := by
  have hl := lr_length (dt n l) U63 cr l
  have := farthest_any w.heap.size l.length w.heap.size (lr (dt n l) U63 cr l) (by omega) W h.row (by omega)
  rwa [hl] at this
theorem St.on (h : St w W g n k l v cs cr m) (o : Below W.heap.size W W') : St w W' g n k l v cs cr m :=
  ⟨own_below h.own o (Nat.le_refl _), h.row.on o, h.only.on o, h.mt.below o h.mt.lt⟩
/-- one chosen place more -/
theorem St.grown {v4 : Value} {x : Int} (h : St w W g n k l v cs cr m) (hg : g < w.heap.size) (hg4 : W.grownBy W' v.ownBlock) (ho : W'.ownsRow (w.heap.size + 1) 3 1 v4 (cs.length + 1) (nv cs ++ [.int .i64 x])) : St w W' g n k l v4 (cs ++ [x]) cr m := by
  have ho2 : Only (fun i => v.ownBlock = some i) W W' := Only.of_grown hg4 fun i e => .inl e
  have hlo : ∀ i, v.ownBlock = some i → w.heap.size < i := fun i e => (own_lt h.own e).1
  refine ⟨?_, h.row.only ho2 fun e => by have := hlo _ e; omega, h.only.trans ho2 fun i e => .inr (by have := hlo i e; omega), Blk.only h.mt ho2 fun e => by have := hlo _ e; omega⟩
  rw [nv_snoc, List.length_append]
  exact ho
theorem St.cell (h : St w W g n k l v cs cr m) (hp : p < l.length) : W.cell? ⟨w.heap.size, p, none⟩ = some (.int .i64 ((lr (dt n l) U63 cr l).getD p 0)) := by
  have hl := lr_length (dt n l) U63 cr l
  rw [h.row.cell (i := p) (by omega)]
  simp [List.getD, hl, hp]
end
/-- a row of ints of the call's own; the meter asked m times more -/
def Chosen (w : World) (g : Nat) (n k : Int) (cs : List Int) (m : Nat) (e : Ending) (w' : World) : Prop :=
  ∃ A c, e = .returned (.slice A cs.length c) ∧ w'.ownsRow w.heap.size 3 1 (.slice A cs.length c) cs.length (nv cs) ∧ Only (fun i => i = g) w w' ∧ Mt w' g n (k + (m : Int))
set_option maxRecDepth 100000 in
set_option maxHeartbeats 3200000 in
theorem choose_any (w : World) (g : Nat) (n k : Int) (A : Option Addr) (c : Nat) (l : List At) (p f : Int) (hF : Fit w g n k A l) (hk : 0 ≤ k ∧ k ≤ 4611686018427387904) (hl : l.length ≤ 1048576) :
    Calls Try.prog 9 #[.pointer (some ⟨g, 0, none⟩), .slice A l.length c, .int .i64 p, .int .i64 f] w (Chosen w g n k (chs (dt n l) U63 l p f) ((chs (dt n l) U63 l p f).length * l.length)) := by
  rcases Nat.eq_zero_or_pos l.length with h0 | h0
  · have hc : chs (dt n l) U63 l p f = [] := by unfold chs; rw [if_pos h0]
    rw [hc, h0]
    have HE : Hid (Chosen w g n k [] 0 (.returned (.slice none 0 0)) w) := Lib.hid ⟨none, 0, rfl, World.ownsRow_nil _ _ _ _, Only.refl _ _, by simpa using hF.mt⟩
    clear hF hc
    go_enter Try.func9, Try.ntmps9
    go_wp2_with (fail)
    go_ret
    exact HE.out
  · obtain ⟨R, hR⟩ : ∃ R, chs (dt n l) U63 l p f = R := ⟨_, rfl⟩
    have hR2 : goA (dt n l) U63 l p.toNat [] (first l.length f) = R := by rw [← hR]; unfold chs; rw [if_neg (by omega)]
    rw [hR]
    have HF := Lib.hid hF
    have HR2 := Lib.hid hR2
    have hbe := beyond_any l.length h0 (by omega) w
    have HBE := Lib.hid hbe
    have hfl := first_lt h0 f
    have hfi := first_is h0 f
    have hsq : l.length * l.length ≤ 1048576 * 1048576 := Nat.mul_le_mul hl hl
    have e0 : ((l.length : Int) == 0) = false := beq_eq_false_iff_ne.2 (by omega)
    have e1 : (l.length == 0) = false := beq_eq_false_iff_ne.2 (by omega)
    have i0 : IntKind.i64.wrap ((l.length : Int) - 1) = (l.length : Int) - 1 := by rw [IntKind.wrap_i64]; omega
    have HSQ := Lib.hid hsq
    clear hF hR hR2 hbe hsq
    go_enter Try.func9, Try.ntmps9
    go_wp2_with (fail)
    refine HBE.out.mono ?_
    rintro e w1 ⟨rfl, hr1, hb1⟩
    have hst : St w w1 g n k l (.slice none 0 0) [] [] 0 := ⟨World.ownsRow_nil _ _ _ _, by rw [lr_nil]; exact hr1, Only.of_below hb1 (Nat.le_refl _) _, by simpa using HF.out.mt.below hb1 HF.out.mt.lt⟩
    have HST := Lib.hid hst
    clear HBE hr1 hb1 hst
    go_wp2_with (fail)
    go_loopg [9, 11] p.toNat (fun gk s9 s11 wr => ∃ (cs : List Int) (q cc : Nat) (A' : Option Addr), gk = p.toNat - cs.length ∧ s9 = .slice A' cs.length cc ∧ s11 = .int .i64 q ∧ q < l.length ∧ Once (dt n l) l cs ∧ goA (dt n l) U63 l (p.toNat - cs.length) cs q = R ∧ St w wr g n k l (.slice A' cs.length cc) cs cs (cs.length * l.length))
    case atStart => exact ⟨[], first l.length f, 0, none, rfl, rfl, by first | rfl | rw [hfi], hfl, Once.nil, HR2.out, by simpa using HST.out⟩
    case round =>
      clear HST HR2
      obtain ⟨cs, q, cc, A', rfl, rfl, rfl, hq, hon, hgo, hst⟩ := hrel
      have hlen := hon.len
      have hsz := hst.row.lt
      have c0 := hst.cell hq
      have HE : Hid (R = cs → Chosen w g n k R (R.length * l.length) (.returned (.slice A' cs.length cc)) wr) := Lib.hid fun e => by
        subst e
        exact ⟨A', cc, rfl, own_base hst.own (Nat.le_succ _), hst.only, hst.mt⟩
      obtain ⟨a, ha⟩ : ∃ a, (lr (dt n l) U63 cs l).getD q 0 = a := ⟨_, rfl⟩
      rw [ha] at c0
      by_cases hp : (cs.length : Int) < p
      · obtain ⟨K, hK⟩ : ∃ K, p.toNat - cs.length = K + 1 := ⟨p.toNat - cs.length - 1, by omega⟩
        rw [hK] at hgo
        have hgo2 : (if 0 < a then goA (dt n l) U63 l K (cs ++ [(q : Int)]) (mp (lr (dt n l) U63 (cs ++ [(q : Int)]) l)) else cs) = R := by rw [← ha]; exact hgo
        by_cases hpos : a > 0
        · rw [if_pos hpos] at hgo2
          have hon2 : Once (dt n l) l (cs ++ [(q : Int)]) := hon.snoc (S := U63) (dt_self n l) hq (by rw [ha]; exact hpos)
          have hlen2 := hon2.len
          rw [List.length_append, List.length_singleton] at hlen2
          have hmul : (cs.length + 1) * l.length ≤ l.length * l.length := Nat.mul_le_mul_right _ hlen2
          have hmul2 : (cs.length + 1) * l.length = cs.length * l.length + l.length := Nat.succ_mul _ _
          have d0 : decide ((cs.length : Int) < p) = true := decide_eq_true hp
          have d1 : decide (a > 0) = true := decide_eq_true hpos
          have HBR : Hid (∀ W v4, St w W g n k l v4 (cs ++ [(q : Int)]) cs (cs.length * l.length) → Calls Try.prog 18 #[.pointer (some ⟨g, 0, none⟩), .slice A l.length c, .int .i64 q, .slice (some ⟨w.heap.size, 0, none⟩) l.length l.length] W fun e w' => e = .returned (.tuple #[]) ∧ St w w' g n k l v4 (cs ++ [(q : Int)]) (cs ++ [(q : Int)]) (cs.length * l.length + l.length)) := Lib.hid fun W v4 h =>
            h.bring HF.out hq hk.1 (by have := HSQ.out; have := hk.2; omega)
          have HFA : Hid (∀ W v4 m, St w W g n k l v4 (cs ++ [(q : Int)]) (cs ++ [(q : Int)]) m → Calls Try.prog 19 #[.slice (some ⟨w.heap.size, 0, none⟩) l.length l.length] W fun e w' => e = .returned (.int .i64 (mp (lr (dt n l) U63 (cs ++ [(q : Int)]) l))) ∧ W = w') := Lib.hid fun W v4 m h =>
            h.far h0 (by omega)
          have hmp : mp (lr (dt n l) U63 (cs ++ [(q : Int)]) l) < l.length := by have := mp_lt (r := lr (dt n l) U63 (cs ++ [(q : Int)]) l) (by rw [lr_length]; exact h0); rwa [lr_length] at this
          obtain ⟨qn, hqn⟩ : ∃ qn, mp (lr (dt n l) U63 (cs ++ [(q : Int)]) l) = qn := ⟨_, rfl⟩
          rw [hqn] at HFA hgo2 hmp
          have HGO := Lib.hid hgo2
          have HON := Lib.hid hon2
          have HML := Lib.hid hmul2
          have HK2 := Lib.hid hK
          have HLN := Lib.hid hlen2
          have hstA := hst.on ((Below.refl _ wr).alloc (Nat.le_refl _) (.cells #[.int .i64 (q : Int)] 3))
          have HSA := Lib.hid hstA
          have hbd : (cs.length + 1) * 8 ≤ 140737488355328 := by omega
          have hbd2 : cs.length + 1 ≤ maxLen := by unfold maxLen; omega
          have hbd3 : w.heap.size + 1 ≤ (wr.alloc (.cells #[.int .i64 (q : Int)] 3)).heap.size := by simp; omega
          clear hst hgo hgo2 hon hon2 hmul hmul2 ha hpos hqn hK hlen2 HE hstA
          go_wp2_with (at_builtin
                       refine wpList_append_sl _ rfl (.tmp 35) (.tmp 37) _ rfl (w.heap.size + 1) 3 _ 8 Try.underlying29 intE (.slice A' cs.length cc) cs.length (nv cs) rfl HSA.out.own _ _ 1 1 [.int .i64 q] rfl (Sl.one wr _ _) rfl (by simp [Value.oneCell']) hbd hbd2 hbd3 ?_
                       intro v4 w4 hown4 hg4 hat4
                       obtain ⟨A4, c4, rfl, hc4⟩ := own_slice hown4)
          have HS4 := Lib.hid (HSA.out.grown HF.out.mt.lt hg4 hown4)
          clear hown4 hg4 hat4 c0
          refine (HBR.out _ _ HS4.out).mono ?_
          rintro e w5 ⟨rfl, hs5⟩
          have HS5 := Lib.hid hs5
          clear HS4 hs5
          go_wp2_with (fail)
          refine (HFA.out _ _ _ HS5.out).mono ?_
          rintro e w6 ⟨rfl, rfl⟩
          go_wp2_with (fail)
          go_roundg K
          case measure => have := HK2.out; omega
          case rel => exact ⟨cs ++ [(q : Int)], qn, c4, A4, by have := HK2.out; rw [List.length_append, List.length_singleton]; omega, by rw [List.length_append, List.length_singleton], rfl, hmp, HON.out, by
            have := HK2.out
            rw [List.length_append, List.length_singleton, show p.toNat - (cs.length + 1) = K by omega]
            exact HGO.out, by
            rw [List.length_append, List.length_singleton, HML.out]
            exact HS5.out⟩
        · rw [if_neg hpos] at hgo2
          have HF2 := Lib.hid (HE.out hgo2.symm)
          have d0 : decide ((cs.length : Int) < p) = true := decide_eq_true hp
          have d1 : decide (a > 0) = false := decide_eq_false hpos
          clear HE hst hgo hgo2 hon hlen ha hpos hK
          go_wp2_with (fail)
          go_ret
          exact HF2.out
      · have hgo2 : cs = R := by
          rw [show p.toNat - cs.length = 0 by omega] at hgo
          exact hgo
        have HF2 := Lib.hid (HE.out hgo2.symm)
        have d0 : decide ((cs.length : Int) < p) = false := decide_eq_false hp
        clear HE hst hgo hgo2 hon hlen ha
        go_wp2_with (fail)
        go_ret
        exact HF2.out
/-! ### Spread -/
/-- how far a thing is at most from the nearest one of those that are chosen -/
def spr (n : Int) (l : List At) (ch : List Int) : Int := if (ins l.length ch).length = 0 then 0 else (lr (dt n l) U63 (ins l.length ch) l).getD (mp (lr (dt n l) U63 (ins l.length ch) l)) 0
def Spread (w : World) (g : Nat) (n k x : Int) (m : Nat) (e : Ending) (w' : World) : Prop := e = .returned (.int .i64 x) ∧ Only (fun i => i = g) w w' ∧ Mt w' g n (k + (m : Int))
theorem Fit.on {w w' : World} {g : Nat} {n k : Int} {A : Option Addr} {l : List At} (h : Fit w g n k A l) (o : Below w.heap.size w w') : Fit w' g n k A l := ⟨h.ts.on o, h.mt.below o h.mt.lt, h.brief⟩
set_option maxRecDepth 100000 in
set_option maxHeartbeats 3200000 in
theorem spread_any (w : World) (g : Nat) (n k : Int) (A : Option Addr) (c : Nat) (l : List At) (A' : Option Addr) (c' : Nat) (ch : List Int) (hF : Fit w g n k A l) (hs : Sl w w.heap.size A' (nv ch)) (hk : 0 ≤ k ∧ k ≤ 4611686018427387904) (hl : l.length ≤ 1048576) (hc : ch.length ≤ 1048576) :
    Calls Try.prog 14 #[.pointer (some ⟨g, 0, none⟩), .slice A l.length c, .slice A' ch.length c'] w (Spread w g n k (spr n l ch) ((ins l.length ch).length * l.length)) := by
  have HI := Lib.hid (inside_any A' c' w.heap.size l.length ch w (Nat.le_refl _) hs (by omega))
  have hil := ins_length l.length ch
  have hlow : ∀ x ∈ ins l.length ch, 0 ≤ x ∧ x < (l.length : Int) := fun x => ins_low
  have hspr : spr n l ch = if (ins l.length ch).length = 0 then 0 else (lr (dt n l) U63 (ins l.length ch) l).getD (mp (lr (dt n l) U63 (ins l.length ch) l)) 0 := rfl
  obtain ⟨th, hth⟩ : ∃ th, ins l.length ch = th := ⟨_, rfl⟩
  obtain ⟨y, hy⟩ : ∃ y, spr n l ch = y := ⟨_, rfl⟩
  rw [hth] at HI hil hlow hspr ⊢
  rw [hy] at hspr ⊢
  have HY := Lib.hid hspr
  have HF := Lib.hid hF
  have HLOW := Lib.hid hlow
  clear hth hspr hs hF hlow hy
  go_enter Try.func14, Try.ntmps14
  go_wp2_with (fail)
  refine HI.out.mono ?_
  rintro e w1 ⟨A3, c3, rfl, hown, hb1⟩
  have hF1 := HF.out.on hb1
  have hgl := HF.out.mt.lt
  have hsz1 := hb1.size
  have haw : Away w1 (fun i => i = g) A3 (nv th) := Away.made (by decide) hown fun i e => by omega
  have HAW := Lib.hid haw
  have HF1 := Lib.hid hF1
  have HB1 := Lib.hid hb1
  clear HI haw hF1 hown hb1 HF
  rcases Nat.eq_zero_or_pos th.length with h0 | h0
  · have hy := HY.out
    rw [if_pos h0] at hy
    have HE : Hid (Spread w g n k y (th.length * l.length) (.returned (.int .i64 0)) w1) := Lib.hid (by
      rw [hy, h0, Nat.zero_mul]
      exact ⟨rfl, Only.of_below HB1.out (Nat.le_refl _) _, by simpa using HF1.out.mt⟩)
    clear HY hy
    go_wp2_with (fail)
    go_ret
    exact HE.out
  · have hy := HY.out
    rw [if_neg (by omega)] at hy
    have HYY := Lib.hid hy
    clear HY hy
    have hl0 : 0 < l.length := by have := HLOW.out _ (List.getElem_mem h0); omega
    have hsq : th.length * l.length ≤ 1048576 * 1048576 := Nat.mul_le_mul (by omega) hl
    have e0 : ((th.length : Int) == 0) = false := beq_eq_false_iff_ne.2 (by omega)
    have e1 : (th.length == 0) = false := beq_eq_false_iff_ne.2 (by omega)
    have HBE := Lib.hid (beyond_any l.length hl0 (by omega) w1)
    have HSQ := Lib.hid hsq
    clear hsq
    go_wp2_with (fail)
    refine HBE.out.mono ?_
    rintro e w2 ⟨rfl, hr2, hb2⟩
    have hst : St w1 w2 g n k l (.slice none 0 0) [] (th.take 0) (0 * l.length) := ⟨World.ownsRow_nil _ _ _ _, by rw [List.take_zero, lr_nil]; exact hr2, Only.of_below hb2 (Nat.le_refl _) _, by simpa using HF1.out.mt.below hb2 HF1.out.mt.lt⟩
    have HST := Lib.hid hst
    clear HBE hr2 hb2 hst
    go_wp2_with (fail)
    go_loopg [23] th.length (fun gk s23 wr => ∃ i : Nat, gk = th.length - i ∧ i ≤ th.length ∧ s23 = .int .i64 i ∧ St w1 wr g n k l (.slice none 0 0) [] (th.take i) (i * l.length))
    case atStart => exact ⟨0, rfl, Nat.zero_le _, rfl, HST.out⟩
    case round =>
      clear HST
      obtain ⟨i, rfl, hi, rfl, hst⟩ := hrel
      by_cases hlt : i < th.length
      · obtain ⟨ad, rfl, -, hc0⟩ := Sl.num (HAW.out.step hst.only fun _ _ e => e).sl hlt
        obtain ⟨x0, x1⟩ := HLOW.out _ (List.getElem_mem hlt)
        have htk : th.take (i + 1) = th.take i ++ [th[i]] := List.take_succ_eq_append_getElem hlt
        obtain ⟨x, hx⟩ : ∃ x, th[i] = x := ⟨_, rfl⟩
        rw [hx] at hc0 x0 x1 htk
        obtain ⟨p, rfl⟩ : ∃ p : Nat, x = (p : Int) := ⟨x.toNat, by omega⟩
        have i1 : (i : Int) < (th.length : Int) := by omega
        have hmul : i * l.length + l.length = (i + 1) * l.length := (Nat.succ_mul _ _).symm
        have hle : (i + 1) * l.length ≤ th.length * l.length := Nat.mul_le_mul_right _ hlt
        have hbr := hst.bring (c := c) HF1.out (p := p) (by omega) hk.1 (by have := HSQ.out; have := hk.2; omega)
        rw [← htk, hmul] at hbr
        have HBR := Lib.hid hbr
        clear hbr hst htk hmul hle hx x0 x1
        go_wp2_with (fail)
        refine HBR.out.mono ?_
        rintro e w5 ⟨rfl, hs5⟩
        have HS5 := Lib.hid hs5
        clear HBR hs5
        go_wp2_with (fail)
        go_roundg (th.length - (i + 1))
        case measure => omega
        case rel => exact ⟨i + 1, rfl, by omega, by go_num, HS5.out⟩
      · obtain rfl : i = th.length := by omega
        have i1 : ¬ (th.length : Int) < (th.length : Int) := by omega
        rw [List.take_length] at hst
        have hmp : mp (lr (dt n l) U63 th l) < l.length := by have := mp_lt (r := lr (dt n l) U63 th l) (by rw [lr_length]; exact hl0); rwa [lr_length] at this
        have c0 := hst.cell hmp
        have hfa := hst.far hl0 (by omega)
        have hy := HYY.out.symm
        have HE : Hid (Spread w g n k y (th.length * l.length) (.returned (.int .i64 y)) wr) := Lib.hid ⟨rfl, (Only.of_below HB1.out (Nat.le_refl _) _).trans hst.only fun i e => .inl e, hst.mt⟩
        rw [hy] at c0
        clear HYY
        generalize mp (lr (dt n l) U63 th l) = q at c0 hmp hfa
        have i2 : (q : Int) < (l.length : Int) := by omega
        have HFA := Lib.hid hfa
        clear hfa hst hy
        go_wp2_with (fail)
        refine HFA.out.mono ?_
        rintro e w6 ⟨rfl, rfl⟩
        go_wp2_with (fail)
        go_ret
        exact HE.out
end Go.Proofs.Ythbohedkagjohaa.pv
