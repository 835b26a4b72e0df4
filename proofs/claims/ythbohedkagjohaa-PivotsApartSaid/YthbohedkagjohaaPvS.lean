/-
  The contract of the document's own Choose.
-/
import Derived.Test.YthbohedkagjohaaPvR
namespace Go.Proofs.Ythbohedkagjohaa.pv
open Go.RowKit law bytes only flat nums ord obj metric
set_option linter.unusedVariables false

/-- which place comes next -/
def nx (r : List Int) (f : Nat) (cs : List Int) : Nat := if cs.length = 0 then f else mp r
theorem nx_snoc (r : List Int) (f : Nat) (cs : List Int) (x : Int) : nx r f (cs ++ [x]) = mp r := by unfold nx; rw [if_neg (by simp)]
theorem nx_one (r : List Int) (f : Nat) (x : Int) : nx r f [x] = mp r := by unfold nx; rw [if_neg (by simp)]
set_option maxRecDepth 100000 in
set_option maxHeartbeats 6400000 in
theorem rchoose_any (w : World) (T : Nat → Prop) (n : Int) (A : Option Addr) (c : Nat) (l : List At) (p f : Int) (hT : Ts w T A l) (hsm : Brief l) (hl : l.length ≤ 1048576) :
    Calls Try.prog 11 #[.int .i64 n, .slice A l.length c, .int .i64 p, .int .i64 f] w (OwnI (chs (dt n l) U50 l p f) w) := by
  rcases Nat.eq_zero_or_pos l.length with h0 | h0
  · have hc : chs (dt n l) U50 l p f = [] := by unfold chs; rw [if_pos h0]
    rw [hc, h0]
    have HE : Hid (OwnI [] w (.returned (.slice none 0 0)) w) := Lib.hid ⟨none, 0, rfl, World.ownsRow_nil _ _ _ _, Below.refl _ _⟩
    clear hT hsm hc
    by_cases hp : (0 : Int) < p
    · have d0 : decide ((0 : Int) < p) = true := decide_eq_true hp
      go_enter Try.func11, Try.ntmps11
      go_wp2_with (fail)
      go_loopg [9] 0 (fun gk s9 wr => s9 = .slice none 0 0 ∧ w = wr)
      case atStart => exact ⟨rfl, rfl⟩
      case round =>
        obtain ⟨rfl, rfl⟩ := hrel
        go_wp2_with (fail)
        go_ret
        exact HE.out
    · have d0 : decide ((0 : Int) < p) = false := decide_eq_false hp
      go_enter Try.func11, Try.ntmps11
      go_wp2_with (fail)
      go_loopg [9] 0 (fun gk s9 wr => s9 = .slice none 0 0 ∧ w = wr)
      case atStart => exact ⟨rfl, rfl⟩
      case round =>
        obtain ⟨rfl, rfl⟩ := hrel
        go_wp2_with (fail)
        go_ret
        exact HE.out
  · obtain ⟨R, hR⟩ : ∃ R, chs (dt n l) U50 l p f = R := ⟨_, rfl⟩
    have hR2 : goA (dt n l) U50 l p.toNat [] (first l.length f) = R := by rw [← hR]; unfold chs; rw [if_neg (by omega)]
    rw [hR]
    have hfl := first_lt h0 f
    have hfi := first_is h0 f
    obtain ⟨f0, hf0⟩ : ∃ f0, first l.length f = f0 := ⟨_, rfl⟩
    rw [hf0] at hR2 hfl hfi
    have HT := Lib.hid hT
    have HS := Lib.hid hsm
    have HR2 := Lib.hid hR2
    have i0 : IntKind.i64.wrap ((l.length : Int) - 1) = (l.length : Int) - 1 := by rw [IntKind.wrap_i64]; omega
    have e0 : decide ((l.length : Int) > 0) = true := decide_eq_true (by omega)
    clear hT hsm hR2 hR hf0
    go_enter Try.func11, Try.ntmps11
    go_wp2_with (fail)
    go_loopg [9] p.toNat (fun gk s9 wr => ∃ (cs : List Int) (cc : Nat) (A' : Option Addr), gk = p.toNat - cs.length ∧ s9 = .slice A' cs.length cc ∧ Once (dt n l) l cs ∧ goA (dt n l) U50 l (p.toNat - cs.length) cs (nx (lr (dt n l) U50 cs l) f0 cs) = R ∧ wr.ownsRow w.heap.size 3 1 (.slice A' cs.length cc) cs.length (nv cs) ∧ Below w.heap.size w wr)
    case atStart => exact ⟨[], 0, none, rfl, rfl, Once.nil, HR2.out, World.ownsRow_nil _ _ _ _, Below.refl _ _⟩
    case round =>
      clear HR2
      obtain ⟨cs, cc, A', rfl, rfl, hon, hgo, hown, hb⟩ := hrel
      have hlen := hon.len
      have hsz := hb.size
      have HE : Hid (∀ wx, R = cs → wx.ownsRow w.heap.size 3 1 (.slice A' cs.length cc) cs.length (nv cs) → Below w.heap.size w wx → OwnI R w (.returned (.slice A' cs.length cc)) wx) := Lib.hid fun wx e ho hb => by
        subst e
        exact ⟨A', cc, rfl, ho, hb⟩
      by_cases hp : (cs.length : Int) < p
      · obtain ⟨K, hK⟩ : ∃ K, p.toNat - cs.length = K + 1 := ⟨p.toNat - cs.length - 1, by omega⟩
        rw [hK] at hgo
        have d0 : decide ((cs.length : Int) < p) = true := decide_eq_true hp
        have HK := Lib.hid hK
        obtain ⟨w0, hw0⟩ : ∃ w0, w0 = wr := ⟨_, rfl⟩
        subst hw0
        rcases Nat.eq_zero_or_pos cs.length with hz | hz
        · obtain rfl := List.eq_nil_of_length_eq_zero hz
          have hgo2 : goA (dt n l) U50 l K [(f0 : Int)] (mp (lr (dt n l) U50 [(f0 : Int)] l)) = R := by
            rw [← hgo]
            show _ = (if 0 < (lr (dt n l) U50 [] l).getD f0 0 then goA (dt n l) U50 l K [(f0 : Int)] (mp (lr (dt n l) U50 [(f0 : Int)] l)) else [])
            rw [if_pos (by rw [lr_at _ _ _ hfl, nr_nil]; decide)]
          have hon2 : Once (dt n l) l [(f0 : Int)] := hon.snoc (S := U50) (dt_self n l) hfl (by rw [lr_at _ _ _ hfl, nr_nil]; decide)
          rw [← nx_one (lr (dt n l) U50 [(f0 : Int)] l) f0 (f0 : Int)] at hgo2
          have HGO := Lib.hid hgo2
          have HON := Lib.hid hon2
          have HB := Lib.hid hb
          have HOW := Lib.hid hown
          rw [List.length_nil] at d0
          clear hgo hgo2 hon hon2 hK HE hown hb
          go_wp2_with (fail)
          go_loopg [10, 11, 12] 0 (fun gk s10 s11 s12 wr => s10 = .int .i64 f0 ∧ s11 = .int .i64 0 ∧ s12 = .int .i64 0 ∧ w0 = wr)
          case atStart => exact ⟨by first | rfl | rw [hfi], rfl, rfl, rfl⟩
          case round =>
            obtain ⟨rfl, rfl, rfl, rfl⟩ := hrel
            have hown := HOW.out
            have hb := HB.out
            have HB0 := Lib.hid hb
            clear HB HOW
            go_wp2_with (at_builtin
                         refine wpList_append_sl _ rfl (.tmp 61) (.tmp 63) _ rfl w.heap.size 3 _ 8 Try.underlying29 intE (.slice A' 0 cc) 0 (nv []) rfl (World.ownsRow.alloc (w := w0) hown _) _ _ 1 1 [.int .i64 f0] rfl (Sl.one w0 _ _) rfl (by simp [Value.oneCell']) (by omega) (by unfold maxLen; omega) (by simp; omega) ?_
                         intro v4 w4 hown4 hg4 hat4
                         obtain ⟨A4, c4, rfl, hc4⟩ := own_slice hown4)
            have HB4 := Lib.hid (below_append HB0.out hsz _ hown (Nat.le_refl _) hg4)
            go_roundg K
            case measure => have := HK.out; simp only [List.length_nil] at this; omega
            case rel => exact ⟨[(f0 : Int)], c4, A4, by have := HK.out; simp only [List.length_nil] at this; rw [List.length_singleton]; omega, rfl, HON.out, by
              have := HK.out
              simp only [List.length_nil] at this
              rw [List.length_singleton, show p.toNat - 1 = K by omega]
              exact HGO.out, hown4, HB4.out⟩
        · have hins : ins l.length cs = cs := ins_all hon.low
          obtain ⟨r, hr⟩ : ∃ r, lr (dt n l) U50 cs l = r := ⟨_, rfl⟩
          have hrl : r.length = l.length := by rw [← hr, lr_length]
          have hrat : ∀ i (hi : i < l.length), nr (dt n l) U50 (ins l.length cs) l[i] = r.getD i 0 := fun i hi => by rw [hins, ← hr, lr_at _ _ _ hi]
          have hnx : nx r f0 cs = mp r := by unfold nx; rw [if_neg (by omega)]
          have hmp : mp r < l.length := by rw [← hrl]; exact mp_lt (by omega)
          rw [hr, hnx] at hgo
          have hgo2 : (if 0 < r.getD (mp r) 0 then goA (dt n l) U50 l K (cs ++ [(mp r : Int)]) (mp (lr (dt n l) U50 (cs ++ [(mp r : Int)]) l)) else cs) = R := by rw [← hr] at hgo ⊢; exact hgo
          have hon2 : 0 < r.getD (mp r) 0 → Once (dt n l) l (cs ++ [(mp r : Int)]) := fun h => hon.snoc (S := U50) (dt_self n l) hmp (by rw [hr]; exact h)
          have hrk := rk_is r f0 (k := r.length) (by omega)
          have hmk : mpk r r.length = mp r := rfl
          rw [hmk, hrl] at hrk
          have HN : Hid (∀ (i : Nat) (hi : i < l.length) W, Below w0.heap.size w0 W → Calls Try.prog 13 #[.int .i64 n, .slice A l.length c, .slice A' cs.length cc, oW l[i]] W fun e w' => e = .returned (.int .i64 (r.getD i 0)) ∧ Below w0.heap.size w0 w') := Lib.hid fun i hi W hW => by
            have hTW := HT.out.on (hb.trans (hW.mono hsz))
            have h := near_any W T n A c l A' cc cs l[i] hTW ((Sl.of_own hown).on hW) (hTW.vec _ (List.getElem_mem hi)).sl (fun x hx => HS.out.small hx) (HS.out.small (List.getElem_mem hi)) hl (by omega)
            rw [hrat i hi] at h
            exact obj.on hW h
          have HTS : Hid (∀ W, Below w0.heap.size w0 W → Ts W T A l) := Lib.hid fun W hW => HT.out.on (hb.trans (hW.mono hsz))
          have HGO := Lib.hid hgo2
          have HON := Lib.hid hon2
          have HRK := Lib.hid hrk
          have HB := Lib.hid hb
          have HOW := Lib.hid hown
          have HMP := Lib.hid hmp
          have e2 : decide ((cs.length : Int) > 0) = true := decide_eq_true (by omega)
          clear hins hr hrl hrat hnx hmp hgo hgo2 hon hon2 hrk hmk hown hb hK
          go_wp2_with (fail)
          go_loopg [10, 11, 12] l.length (fun gk s10 s11 s12 wr => ∃ i : Nat, gk = l.length - i ∧ i ≤ l.length ∧ s10 = .int .i64 ((rk r f0 i).1 : Nat) ∧ s11 = .int .i64 (rk r f0 i).2 ∧ s12 = .int .i64 i ∧ Below w0.heap.size w0 wr)
          case atStart => exact ⟨0, rfl, Nat.zero_le _, by first | rfl | (rw [hfi]; rfl), rfl, rfl, Below.refl _ _⟩
          case round =>
            obtain ⟨i, rfl, hi, rfl, rfl, rfl, hbx⟩ := hrel
            by_cases hlt : i < l.length
            · have i1 : (i : Int) < (l.length : Int) := by omega
              have hTW := HTS.out wr hbx
              obtain ⟨bb, oo, rfl, hbb, -, hcells⟩ := hTW.place (by omega)
              obtain ⟨q0, q1, q2⟩ := hcells i hlt
              have hN := HN.out i hlt wr hbx
              have hst : rk r f0 (i + 1) = if (rk r f0 i).2 < r.getD i 0 then (i, r.getD i 0) else rk r f0 i := rfl
              obtain ⟨x, hx⟩ : ∃ x, l[i] = x := ⟨_, rfl⟩
              rw [hx] at q0 q1 q2 hN
              unfold oW at hN
              obtain ⟨⟨a, b⟩, hab⟩ : ∃ ab, rk r f0 i = ab := ⟨_, rfl⟩
              rw [hab] at hst ⊢
              generalize r.getD i 0 = d at hN hst
              dsimp only at hst ⊢
              have HNN := Lib.hid hN
              by_cases hc : b < d
              · have HST : Hid (rk r f0 (i + 1) = (i, d)) := Lib.hid (by rw [hst, if_pos hc])
                have d1 : decide (d > b) = true := decide_eq_true hc
                clear hst hN hab hx hTW hcells hc hbx HTS HN
                go_wp2_with (fail)
                refine HNN.out.mono ?_
                rintro e w5 ⟨rfl, hb5⟩
                have HB5 := Lib.hid hb5
                clear hb5 HNN
                go_wp2_with (fail)
                go_roundg (l.length - (i + 1))
                case measure => omega
                case rel => exact ⟨i + 1, rfl, by omega, by rw [HST.out], by rw [HST.out], by go_num, HB5.out⟩
              · have HST : Hid (rk r f0 (i + 1) = (a, b)) := Lib.hid (by rw [hst, if_neg hc])
                have d1 : decide (d > b) = false := decide_eq_false hc
                clear hst hN hab hx hTW hcells hc hbx HTS HN
                go_wp2_with (fail)
                refine HNN.out.mono ?_
                rintro e w5 ⟨rfl, hb5⟩
                have HB5 := Lib.hid hb5
                clear hb5 HNN
                go_wp2_with (fail)
                go_roundg (l.length - (i + 1))
                case measure => omega
                case rel => exact ⟨i + 1, rfl, by omega, by rw [HST.out], by rw [HST.out], by go_num, HB5.out⟩
            · obtain rfl : i = l.length := by omega
              have i1 : ¬ (l.length : Int) < (l.length : Int) := by omega
              have hrk := HRK.out
              have hownx := own_below HOW.out hbx (Nat.le_refl _)
              have hbw : Below w.heap.size w wr := HB.out.trans (hbx.mono hsz)
              have hszx := hbw.size
              by_cases hpos : 0 < r.getD (mp r) 0
              · rw [if_pos hpos] at hrk
                have hgo := HGO.out
                rw [if_pos hpos] at hgo
                have hon := HON.out hpos
                have hlen2 := hon.len
                rw [List.length_append, List.length_singleton] at hlen2
                have hz0 : (r.getD (mp r) 0 == 0) = false := beq_eq_false_iff_ne.2 (by omega)
                rw [hrk]
                obtain ⟨q, hq⟩ : ∃ q, mp r = q := ⟨_, rfl⟩
                obtain ⟨v, hv⟩ : ∃ v, r.getD (mp r) 0 = v := ⟨_, rfl⟩
                rw [hv] at hz0
                rw [hv, hq]
                rw [hq] at hgo hon
                rw [← nx_snoc (lr (dt n l) U50 (cs ++ [(q : Int)]) l) f0 cs (q : Int)] at hgo
                have HGO2 := Lib.hid hgo
                have HON2 := Lib.hid hon
                have HBW := Lib.hid hbw
                dsimp only
                have hbd : (cs.length + 1) * 8 ≤ 140737488355328 := by omega
                have hbd2 : cs.length + 1 ≤ maxLen := by unfold maxLen; omega
                clear hgo hon hrk hpos hq hv hbw hbx HGO HON HRK HB HOW HN HTS HE
                go_wp2_with (at_builtin
                             refine wpList_append_sl _ rfl (.tmp 61) (.tmp 63) _ rfl w.heap.size 3 _ 8 Try.underlying29 intE (.slice A' cs.length cc) cs.length (nv cs) rfl (World.ownsRow.alloc (w := wr) hownx _) _ _ 1 1 [.int .i64 q] rfl (Sl.one wr _ _) rfl (by simp [Value.oneCell']) hbd hbd2 (by simp; omega) ?_
                             intro v4 w4 hown4 hg4 hat4
                             obtain ⟨A4, c4, rfl, hc4⟩ := own_slice hown4)
                have HB4 := Lib.hid (below_append HBW.out hszx _ hownx (Nat.le_refl _) hg4)
                have HO4 := Lib.hid hown4
                clear hown4 hg4 hat4
                go_roundg K
                case measure => have := HK.out; omega
                case rel => exact ⟨cs ++ [(q : Int)], c4, A4, by have := HK.out; rw [List.length_append, List.length_singleton]; omega, by rw [List.length_append, List.length_singleton], HON2.out, by
                  have := HK.out
                  rw [List.length_append, List.length_singleton, show p.toNat - (cs.length + 1) = K by omega]
                  exact HGO2.out, by
                  rw [List.length_append, List.length_singleton, nv_snoc]
                  exact HO4.out, HB4.out⟩
              · rw [if_neg hpos] at hrk
                have hgo := HGO.out
                rw [if_neg hpos] at hgo
                rw [hrk]
                have HF2 := Lib.hid (HE.out wr hgo.symm hownx hbw)
                dsimp only
                clear hgo hrk hpos hbw hbx hownx HGO HON HRK HB HOW HN HTS HE
                go_wp2_with (fail)
                go_ret
                exact HF2.out
      · have hgo2 : cs = R := by
          rw [show p.toNat - cs.length = 0 by omega] at hgo
          exact hgo
        have HF2 := Lib.hid (HE.out wr hgo2.symm hown hb)
        have d0 : decide ((cs.length : Int) < p) = false := decide_eq_false hp
        clear HE hgo hgo2 hon hlen hown hb
        go_wp2_with (fail)
        go_ret
        exact HF2.out
end Go.Proofs.Ythbohedkagjohaa.pv
