/-
  For all metrics, sizes, bounds of pivots, items and draws: which pivots are chosen, of things that are put in at once, and one by one, as the document has it (P22.2). No condition.
-/
import Derived.Test.YtgbjpobgjmkjgaaGreatGLp
import Derived.Deep.RegionHeld3
import Derived.BigQuiet
import Derived.Deep.Cut
import Derived.Deep.CutRange
namespace Go.Proofs.YtgbjpobgjmkjgaaGreat.laesaPivots
open Go.RowKit Go.ChangeShapes Go.WideShapes Go.ChangeAt law bytes only flat nums ord obj metric pv lae tab
open aro (Kept)
open store (iE iE_len itemAt)
set_option linter.unusedVariables false
set_option maxRecDepth 100000

/-- one new table, what there was -/
def L1 (w W : World) (d : Dat) (g ta : Nat) : Prop := ∃ (ba ma : Nat) (Ta : Nat → Prop), Tx W ba ta g ma d.n 0 d.most Ta (.slice none 0 0) (.slice none 0 0) [] [] ∧ w.heap.size < ba ∧ w.heap.size < g ∧ Blk W w.heap.size 24 (rC d) ∧ Below w.heap.size w W
section
variable {w W W' : World} {d : Dat} {g ta : Nat}
theorem L1.on (h : L1 w W d g ta) (o : Below W.heap.size W W') : L1 w W' d g ta := by
  obtain ⟨ba, ma, Ta, h1, h2, h3, h4, h5⟩ := h
  exact ⟨ba, ma, Ta, h1.below o, h2, h3, h4.below o h4.lt, h5.trans (o.mono h5.size)⟩
theorem L1.drew (h : L1 w W d g ta) : L1 w W.drew d g ta := h.on ((Below.refl _ _).drew)
theorem L1.drewN (h : L1 w W d g ta) (n : Nat) : L1 w (W.drewN n) d g ta := h.on (below_drewN' (Below.refl _ _) n)
theorem L1.cell (h : L1 w W d g ta) : W.cell? ⟨w.heap.size, 2, none⟩ = some (.int .i64 d.most) := by
  obtain ⟨ba, ma, Ta, h1, h2, h3, h4, h5⟩ := h
  exact h4.cell 2
theorem L1.new (h : L1 w W d g ta) : Calls Tryz.prog 11 #[.pointer (some ⟨g, 0, none⟩), .int .i64 d.most] W fun e w' => ∃ tb, e = .returned (.pointer (some ⟨tb, 0, none⟩)) ∧ L0 w w' d g ta tb ∧ w'.cell? ⟨w.heap.size, 2, none⟩ = some (.int .i64 d.most) := by
  obtain ⟨ba, ma, Ta, h1, h2, h3, h4, h5⟩ := h
  refine (new_tb g d.n 0 d.most W h1.mt).mono fun e w' ⟨tb, mb, Tb, he, hT, hb⟩ => ⟨tb, he, ⟨ba, W.heap.size, ma, mb, Ta, Tb, h5.trans (hb.mono h5.size), h4.below hb h4.lt, h3, h2, h4.lt, h1.below hb, hT, fun i e e2 => ?_, World.ownsRow_nil _ _ _ _, World.ownsRow_nil _ _ _ _, fun i e => (by cases e), fun i e => (by cases e), fun i e => (by cases e)⟩, (h4.below hb h4.lt).cell 2⟩
  have := (h1.low i e).2
  have := (hT.low i e2).1
  omega
end
/-- a row of places, behind w -/
def Pls (w W : World) (A : Option Addr) (m : Nat) : Prop := Below w.heap.size w W ∧ Sl W W.heap.size A (nv (rng m))
theorem Pls.low {w W : World} {A : Option Addr} {m : Nat} (h : Pls w W A m) : Below w.heap.size w W := h.1
theorem Pls.drew {w W : World} {A : Option Addr} {m : Nat} (h : Pls w W A m) : Pls w W.drew A m := ⟨h.1.drew, h.2⟩
theorem Pls.drewN {w W : World} {A : Option Addr} {m : Nat} (h : Pls w W A m) (n : Nat) : Pls w (W.drewN n) A m := ⟨below_drewN' h.1 n, h.2⟩
theorem fine_of {w : World} {d : Dat} (hy : Hyp w d) {D : List play.Deed} (h : play.rgt d.n d.s [⟨2, (0, ⟨(fst0 d.l).x, (fst0 d.l).a, (fst0 d.l).c⟩), d.A, d.c, d.l, 0, none, 0, []⟩] = true) : Fine d := by
  simp only [play.rgt, play.rgt1, List.all_cons, List.all_nil, Bool.and_true, Bool.and_eq_true, decide_eq_true_eq, List.all_eq_true] at h
  obtain ⟨⟨-, hs⟩, ⟨hl, -⟩, -, ha⟩ := h
  exact ⟨by omega, fun q hq => bf_right (hy.bd q hq) (ha q hq) (by omega)⟩
set_option maxHeartbeats 12800000 in
theorem walk (d : Dat) (w : World) (hy : Hyp w d) : Calls Tryz.prog 4 #[.agg #[.int .i64 d.n, .int .i64 d.s, .int .i64 d.most, .slice d.Aa d.an d.ac], .slice d.A d.l.length d.c, .slice d.D d.raw.length d.dc] w fun e w' => e = .returned (.bool true) ∧ Below w.heap.size w w' := by
  obtain ⟨V, hV⟩ : ∃ V, V = w.alloc (.cells #[.int .i64 d.n, .int .i64 d.s, .int .i64 d.most, .slice d.Aa d.an d.ac] 24) := ⟨_, rfl⟩
  have hbV : Below w.heap.size w V := by rw [hV]; exact (Below.refl _ _).alloc (Nat.le_refl _) _
  have hkV : Blk V w.heap.size 24 (rC d) := by rw [hV]; exact Blk.new w _ _
  have hzV : V.heap.size = w.heap.size + 1 := by rw [hV]; simp
  have HL : Hid (∀ W, Below w.heap.size w W → Calls Tryz.prog 9 #[] W fun e w' => e = .returned (.bool true) ∧ Below w.heap.size w w') := Lib.hid fun W hb => (lives_any W).mono fun e w' ⟨he, hb2⟩ => ⟨he, hb.trans (hb2.mono hb.size)⟩
  have HS : Hid (∀ W, Below V.heap.size V W → W.cell? ⟨w.heap.size, 0, none⟩ = some (.int .i64 d.n) ∧ W.cell? ⟨w.heap.size, 1, none⟩ = some (.int .i64 d.s) ∧ W.cell? ⟨w.heap.size, 2, none⟩ = some (.int .i64 d.most)) := Lib.hid fun W hW => by
    have b := hkV.below hW hkV.lt
    exact ⟨b.cell 0, b.cell 1, b.cell 2⟩
  have HBW : Hid (∀ W, Below V.heap.size V W → Below w.heap.size w W ∧ Blk W w.heap.size 24 (rC d)) := Lib.hid fun W hW => ⟨hbV.trans (hW.mono (by omega)), hkV.below hW hkV.lt⟩
  obtain ⟨y, hyy⟩ : ∃ y, fst0 d.l = y := ⟨_, rfl⟩
  have HF : Hid (∀ W, Below V.heap.size V W → Calls Tryz.prog 17 #[.slice d.A d.l.length d.c] W fun e w' => e = .returned (.agg #[.int .i64 y.x.tag, .slice y.a y.x.vec.length y.c, .string y.x.str]) ∧ Below V.heap.size V w') := Lib.hid fun W hW => by
    have hlen := hy.len
    have h := first_any (c := d.c) (l := d.l) (by omega) W (hy.row.on (hbV.trans (hW.mono (by omega))))
    rw [hyy] at h
    exact h.mono fun e w' ⟨he, hb⟩ => ⟨he, hW.trans (hb.mono hW.size)⟩
  obtain ⟨r, hr⟩ : ∃ r, play.rgt d.n d.s [⟨2, (0, ⟨y.x, y.a, y.c⟩), d.A, d.c, d.l, 0, none, 0, []⟩] = r := ⟨_, rfl⟩
  have HR : Hid (∀ (b : Nat) W, Blk W b 41 #[.int .i64 2, .int .u64 0, .int .i64 y.x.tag, .slice y.a y.x.vec.length y.c, .string y.x.str, .slice d.A d.l.length d.c, .int .i64 0, .slice none 0 0] → Below V.heap.size V W →
      Calls Tryz.prog 8 #[.int .i64 d.n, .int .i64 d.s, .slice (some ⟨b, 0, none⟩) 1 1] W fun e w' => e = .returned (.bool r) ∧ Below V.heap.size V w') := Lib.hid fun b W hk hW => by
    have hbw : Below w.heap.size w W := hbV.trans (hW.mono (by omega))
    have h := play.right_any d.n d.s (some ⟨b, 0, none⟩) 1 [⟨2, (0, ⟨y.x, y.a, y.c⟩), d.A, d.c, d.l, 0, none, 0, []⟩] W (obj.Sl.of_blk hk) (fun a ha => by
      simp only [List.mem_singleton] at ha
      subst ha
      exact ⟨hy.row.on hbw, hy.len⟩) (by simp)
    rw [hr] at h
    exact h.mono fun e w' ⟨he, hb⟩ => ⟨he, hW.trans (hb.mono hW.size)⟩
  have HFI : Hid (r = true → Fine d) := Lib.hid fun e => by
    rw [e, ← hyy] at hr
    exact fine_of (D := []) hy hr
  have HY := Lib.hid hy
  obtain ⟨x0, x1, x2⟩ := HS.out V (Below.refl _ _)
  have HV := Lib.hid hV
  have HB0 := Lib.hid hbV
  rw [hV] at x2
  clear hy hbV hkV hzV hV hyy hr
  go_enter Tryz.func4, Tryz.ntmps4
  by_cases hm : d.most > 20
  · have d0 : decide (d.most > 20) = true := decide_eq_true hm
    clear hm HF HR HFI HY
    go_wp2_with (fail)
    rw [← HV.out]
    clear HV x2
    obtain ⟨x0, x1, x2⟩ := HS.out V (Below.refl _ _)
    go_quiet (fail)
    clear x0 x1 x2
    have HLL : Hid (∀ n, Calls Tryz.prog 9 #[] (V.drewN n) fun e w' => e = .returned (.bool true) ∧ Below w.heap.size w w') := Lib.hid fun n => HL.out _ (below_drewN' HB0.out n)
    go_wp2_with (fail)
    refine (HLL.out _).mono ?_
    rintro e w9 ⟨rfl, hb9⟩
    have HE := Lib.hid hb9
    clear hb9
    go_wp2_with (fail)
    go_ret
    exact ⟨rfl, HE.out⟩
  have d0 : decide (d.most > 20) = false := decide_eq_false hm
  have h20 := Lib.hid hm
  clear hm
  go_wp2_with (fail)
  rw [← HV.out]
  clear HV x2
  obtain ⟨x0, x1, x2⟩ := HS.out V (Below.refl _ _)
  go_region_held3 (fun W => W.cell? ⟨w.heap.size, 0, none⟩ = some (.int .i64 d.n) ∧ W.cell? ⟨w.heap.size, 1, none⟩ = some (.int .i64 d.s) ∧ W.cell? ⟨w.heap.size, 2, none⟩ = some (.int .i64 d.most))
    ((refine HS.out _ ?_; repeat' (first | (with_reducible exact Below.refl _ _) | (with_reducible assumption) | (with_reducible refine Below.drew ?_) | (with_reducible refine below_drewN' ?_ _) | (refine Below.alloc ?_ ?_ _) | (exact Below.size (by assumption)))))
    (first
      | (go_at_call 17; (with_reducible refine (HF.out _ (by repeat' (first | (with_reducible exact Below.refl _ _) | (with_reducible assumption) | (with_reducible refine Below.drew ?_) | (with_reducible refine below_drewN' ?_ _)))).mono ?_); rintro e w2 ⟨rfl, hb2⟩)
      | (go_at_call 8; (refine (HR.out _ _ (by first | exact Blk.new _ _ _ | exact (Blk.new _ _ _).drewN _ | exact ((Blk.new _ _ _).drewN _).drewN _) (by repeat' (first | (with_reducible exact Below.refl _ _) | (with_reducible assumption) | (with_reducible refine Below.drew ?_) | (with_reducible refine below_drewN' ?_ _) | (refine Below.alloc ?_ ?_ _) | (exact Below.size (by assumption))))).mono ?_); rintro e w3 ⟨rfl, hb3⟩))
  have HBX := Lib.hid (HBW.out _ hb3)
  have HZ := Lib.hid hb3.size
  clear hb3 hb2 x0 x1 x2 HF HR HS HBW
  cases r with
  | false =>
    have HLL := Lib.hid (HL.out _ HBX.out.1)
    go_wp2_with (fail)
    refine HLL.out.mono ?_
    rintro e w9 ⟨rfl, hb9⟩
    have HE := Lib.hid hb9
    clear hb9
    go_wp2_with (fail)
    go_ret
    exact ⟨rfl, HE.out⟩
  | true =>
  have HFN := Lib.hid (HFI.out rfl)
  have x0 : w3.cell? ⟨w.heap.size, 0, none⟩ = some (.int .i64 d.n) := HBX.out.2.cell 0
  have HM := Lib.hid (metric.new_any d.n w3)
  clear HFI
  go_wp2_with (fail)
  refine HM.out.mono ?_
  rintro e w1 ⟨rfl, hm1, hb1⟩
  obtain ⟨g, hg⟩ : ∃ g, g = w3.heap.size := ⟨_, rfl⟩
  rw [← hg] at hm1 ⊢
  have HX1 : Hid (Blk w1 w.heap.size 24 (rC d) ∧ Below w.heap.size w w1 ∧ w.heap.size < g) := Lib.hid ⟨HBX.out.2.below hb1 HBX.out.2.lt, HBX.out.1.trans (hb1.mono HBX.out.1.size), by rw [hg]; exact HBX.out.2.lt⟩
  have HA : Hid (∀ W, Below w1.heap.size w1 W → Calls Tryz.prog 11 #[.pointer (some ⟨g, 0, none⟩), .int .i64 d.most] W fun e w' => ∃ ta, e = .returned (.pointer (some ⟨ta, 0, none⟩)) ∧ L1 w w' d g ta ∧ w'.cell? ⟨w.heap.size, 2, none⟩ = some (.int .i64 d.most)) := Lib.hid fun W hW => by
    obtain ⟨h1, h2, h3⟩ := HX1.out
    have hs := hm1.lt
    have hs2 := hW.size
    refine (new_tb g d.n 0 d.most W (hm1.below hW hm1.lt)).mono fun e w' ⟨ta, ma, Ta, he, hT, hb⟩ => ⟨ta, he, ⟨W.heap.size, ma, Ta, hT, by omega, h3, (h1.below hW h1.lt).below hb (by have := h1.lt; omega), (h2.trans (hW.mono h2.size)).trans (hb.mono (by have := h2.size; omega))⟩, ((h1.below hW h1.lt).below hb (by have := h1.lt; omega)).cell 2⟩
  have HC : Hid (∀ W, Below w1.heap.size w1 W → W.cell? ⟨w.heap.size, 2, none⟩ = some (.int .i64 d.most)) := Lib.hid fun W hW => (HX1.out.1.below hW HX1.out.1.lt).cell 2
  have x2 := HC.out w1 (Below.refl _ _)
  have hw1 : w.heap.size < w1.heap.size := HX1.out.1.lt
  clear hm1 hb1 hg x0 HM HBX HZ
  go_wp2_with (fail)
  go_region_held3 (fun W => W.cell? ⟨w.heap.size, 2, none⟩ = some (.int .i64 d.most))
    (first
      | (with_reducible assumption)
      | (show World.cell? _ _ = _; assumption)
      | (refine HC.out _ ?_; (repeat' (first | (with_reducible exact Below.refl _ _) | (with_reducible assumption) | (with_reducible refine Below.drew ?_) | (with_reducible refine below_drewN' ?_ _))); done)
      | (refine L1.cell (g := g) (ta := _) ?_; (repeat' (first | (with_reducible assumption) | (with_reducible refine L1.drew ?_) | (with_reducible refine L1.drewN ?_ _))); done))
    (first
      | (go_at_call 11; (with_reducible refine (L1.new (ta := ta) (by (repeat' (first | (with_reducible assumption) | (with_reducible refine L1.drew ?_) | (with_reducible refine L1.drewN ?_ _))))).mono ?_); rintro e w5 ⟨tb, rfl, hL0, xx2⟩)
      | (go_at_call 11; (with_reducible refine (HA.out _ (by repeat' (first | (with_reducible exact Below.refl _ _) | (with_reducible assumption) | (with_reducible refine Below.drew ?_) | (with_reducible refine below_drewN' ?_ _)))).mono ?_); rintro e w4 ⟨ta, rfl, hL1, xx1⟩))
  have H0 := Lib.hid hL0
  have hL60 : d.l.length ≤ 60 := HFN.out.few
  have HN := Lib.hid (newD_any d.D d.dc d.raw d.l.length ⟨by omega, by omega⟩ HY.out.rlen HY.out.ri w5 (HY.out.raw.on hL0.low))
  clear hL0 xx2 hL1 xx1 HA HC HX1 x2 hw1
  go_wp2_with (fail)
  refine HN.out.mono ?_
  rintro e w6 ⟨gs, DS, Dk, rfl, hd, hdk, hDS, hb6⟩
  have HBU := Lib.hid (H0.out.bulk HY.out HFN.out hd hdk hb6 hDS)
  clear hd hdk hDS hb6 HN H0
  go_wp2_with (fail)
  refine HBU.out.mono ?_
  rintro e w7 ⟨rfl, hq7⟩
  have HQ := Lib.hid hq7
  clear hq7 HBU
  have hl63 : (d.l.length : Int) < 9223372036854775807 := by omega
  go_wp2_with (fail)
  obtain ⟨A0, hA0⟩ : ∃ A0, A0 = d.A := ⟨_, rfl⟩
  rw [← hA0]
  go_loopg [11, 12, 13] d.l.length (fun gk s11 s12 s13 wr => ∃ (i c1 c2 : Nat) (A1 A2 : Option Addr) (one : List At), gk = d.l.length - i ∧ i ≤ d.l.length ∧ s11 = .slice A1 i c1 ∧ s12 = .slice A2 one.length c2 ∧ s13 = .int .i64 i ∧ Lq w wr d g ta tb (PA0 d) (one.map At.x) i (.slice A1 i c1) (.slice A2 one.length c2) ((ths d.l).take i) one ∧ ∀ p ∈ one, Bf p.x ∧ Sl w w.heap.size p.a (iv p.x.vec))
  case atStart => exact ⟨0, 0, 0, none, none, [], rfl, Nat.zero_le _, rfl, rfl, rfl, HQ.out, fun p hp => by simp at hp⟩
  case round =>
    clear HQ
    obtain ⟨i, c1, c2, A1, A2, one, rfl, hi, rfl, rfl, rfl, hq, hob⟩ := hrel
    by_cases hlt : i < d.l.length
    · rename_i KK3 ka4 JJ KK2 ka3 ka2
      clear ka4
      have i1 : (i : Int) < (d.l.length : Int) := by omega
      have i0 : (0 : Int) ≤ (i : Int) := by omega
      obtain ⟨b, o, hA, hb1, d0, d1, d2, d3⟩ := itemAt (HY.out.row.below hq.low) hlt
      have HSW : Hid (∀ W, Below w.heap.size w W → W.cell? ⟨b, o + i * 4, none⟩ = some (.int .u64 d.l[i].1) ∧ W.cell? ⟨b, o + i * 4 + 1, none⟩ = some (.int .i64 d.l[i].2.x.tag) ∧ W.cell? ⟨b, o + i * 4 + 2, none⟩ = some (.slice d.l[i].2.A d.l[i].2.x.vec.length d.l[i].2.c) ∧ W.cell? ⟨b, o + i * 4 + 3, none⟩ = some (.string d.l[i].2.x.str)) := Lib.hid fun W hW => by
        obtain ⟨b', o', hA', -, e0, e1, e2, e3⟩ := itemAt (HY.out.row.below hW) hlt
        rw [hA] at hA'
        injection hA' with hA'
        injection hA' with h1 h2
        subst h1 h2
        exact ⟨e0, e1, e2, e3⟩
      have hal : ((ths d.l).take i).length = i := by rw [List.length_take, ths_length]; omega
      have htk : (ths d.l).take (i + 1) = (ths d.l).take i ++ [tho d.l[i]] := by
        rw [List.take_succ_eq_append_getElem (by rw [ths_length]; exact hlt)]
        simp [ths]
      have hmem : d.l[i] ∈ d.l := List.getElem_mem hlt
      have hbf := HFN.out.bf _ hmem
      have hwf := HY.out.wf _ hmem
      have hv := HY.out.vec _ hmem
      obtain ⟨q, hqq⟩ : ∃ q, d.l[i] = q := ⟨_, rfl⟩
      rw [hqq] at d0 d1 d2 d3 HSW htk hbf hwf hv
      have hrows := hq.rows
      rw [hal] at hrows
      have hsz := hq.size
      have HQ := Lib.hid hq
      have HRW := Lib.hid hrows
      have HT := Lib.hid (And.intro htk (And.intro hal (And.intro hbf (And.intro hwf (And.intro hv hob)))))
      have hol : one.length ≤ i := by have := hq.lenB.1; rwa [List.length_map] at this
      clear hq hrows htk hal hbf hwf hv hob hqq hmem d0
      rw [← hA0] at hA
      subst hA
      clear hA0
      go_wp2_with (at_builtin
                   refine wpList_append_slk _ rfl (.tmp 60) (.tmp 66) _ rfl (w.heap.size + 1) 35 3 48 Tryz.underlying42 objK (by omega) (.slice A1 i c1) i (ocs ((ths d.l).take i)) rfl (World.ownsRow.alloc (w := wr) HRW.out.1 _) _ _ 1 1 [.int .i64 q.2.x.tag, .slice q.2.A q.2.x.vec.length q.2.c, .string q.2.x.str] rfl (Sl.lit wr _ _) rfl (by simp [Value.oneCell']) (by omega) (by unfold maxLen; omega) (by simp; omega) ?_
                   intro v4 w4 hown4 hg4 hat4
                   obtain ⟨A4, k4, rfl, hk4⟩ := own_slice hown4)
      have HQ4 : Hid (Lq w w4 d g ta tb (PA0 d) (one.map At.x) i (.slice A4 (i + 1) k4) (.slice A2 one.length c2) ((ths d.l).take (i + 1)) one) := Lib.hid (by
        rw [HT.out.1]
        exact HQ.out.moreA (p := tho q) hg4 (by rw [HT.out.2.1]; exact hown4) hat4)
      clear hown4 hg4 hat4 HQ HRW d1 d2 d3 hk4
      have HS4 : Hid (∀ W, Below w4.heap.size w4 W → W.cell? ⟨b, o + i * 4, none⟩ = some (.int .u64 q.1) ∧ W.cell? ⟨b, o + i * 4 + 1, none⟩ = some (.int .i64 q.2.x.tag) ∧ W.cell? ⟨b, o + i * 4 + 2, none⟩ = some (.slice q.2.A q.2.x.vec.length q.2.c) ∧ W.cell? ⟨b, o + i * 4 + 3, none⟩ = some (.string q.2.x.str)) := Lib.hid fun W hW => HSW.out W (HQ4.out.on hW).low
      have HN4 : Hid (∀ W, Below w4.heap.size w4 W → Calls Tryz.prog 19 #[.slice d.D d.raw.length d.dc] W fun e w' => ∃ gs, e = .returned (.pointer (some ⟨gs, 0, none⟩)) ∧ Below w4.heap.size w4 w') := Lib.hid fun W hW =>
        (newD_any d.D d.dc d.raw d.l.length ⟨by omega, by omega⟩ HY.out.rlen HY.out.ri W (HY.out.raw.on (HQ4.out.on hW).low)).mono fun e w' ⟨gs, DS, Dk, he, _, _, _, hb⟩ => ⟨gs, he, hW.trans (hb.mono hW.size)⟩
      have HI4 : Hid (∀ (gs : Nat) W, Below w4.heap.size w4 W → Calls Tryz.prog 20 #[.pointer (some ⟨tb, 0, none⟩), .agg #[.int .u64 q.1, .int .i64 q.2.x.tag, .slice q.2.A q.2.x.vec.length q.2.c, .string q.2.x.str], .pointer (some ⟨gs, 0, none⟩)] W fun e w' => ∃ z : Int, e = .returned (.int .i64 z) ∧ Hid (∃ f : Bool, z = (if f then 0 else 4) ∧
          Lq w w' d g ta tb (PA0 d) (if f && moreT d.n d.most (one.map At.x) q.2.x then one.map At.x ++ [q.2.x] else one.map At.x) (i + 1) (.slice A4 (i + 1) k4) (.slice A2 one.length c2) ((ths d.l).take (i + 1)) one) ∧
          (w'.cell? ⟨b, o + i * 4, none⟩ = some (.int .u64 q.1) ∧ w'.cell? ⟨b, o + i * 4 + 1, none⟩ = some (.int .i64 q.2.x.tag) ∧ w'.cell? ⟨b, o + i * 4 + 2, none⟩ = some (.slice q.2.A q.2.x.vec.length q.2.c) ∧ w'.cell? ⟨b, o + i * 4 + 3, none⟩ = some (.string q.2.x.str))) := Lib.hid fun gs W hW => by
        obtain ⟨-, -, hbf, hwf, hv, -⟩ := HT.out
        exact ((HQ4.out.on hW).insert hwf hbf hv (by omega) _).mono fun e w' ⟨f, he, hq5⟩ => ⟨_, he, Lib.hid ⟨f, rfl, hq5⟩, HSW.out _ hq5.low⟩
      obtain ⟨d0, d1, d2, d3⟩ := HS4.out w4 (Below.refl _ _)
      go_region_held3 (fun W => W.cell? ⟨b, o + i * 4, none⟩ = some (.int .u64 q.1) ∧ W.cell? ⟨b, o + i * 4 + 1, none⟩ = some (.int .i64 q.2.x.tag) ∧ W.cell? ⟨b, o + i * 4 + 2, none⟩ = some (.slice q.2.A q.2.x.vec.length q.2.c) ∧ W.cell? ⟨b, o + i * 4 + 3, none⟩ = some (.string q.2.x.str))
        (first
          | (with_reducible assumption)
          | (refine HS4.out _ ?_; first | (with_reducible exact Below.refl _ _) | (with_reducible assumption) | (with_reducible exact Below.drew (by with_reducible assumption)) | (with_reducible exact Below.drew (Below.refl _ _)) | (with_reducible exact below_drewN' (by with_reducible assumption) _) | (with_reducible exact below_drewN' (Below.refl _ _) _)))
        (first
          | (go_at_call 19; (with_reducible refine (HN4.out _ (by first | (with_reducible exact Below.refl _ _) | (with_reducible assumption) | (with_reducible exact Below.drew (by with_reducible assumption)) | (with_reducible exact Below.drew (Below.refl _ _)) | (with_reducible exact below_drewN' (by with_reducible assumption) _) | (with_reducible exact below_drewN' (Below.refl _ _) _))).mono ?_); rintro e w8 ⟨gs, rfl, hb8⟩)
          | (go_at_call 20; (with_reducible refine (HI4.out _ _ (by first | (with_reducible exact Below.refl _ _) | (with_reducible assumption) | (with_reducible exact Below.drew (by with_reducible assumption)) | (with_reducible exact Below.drew (Below.refl _ _)) | (with_reducible exact below_drewN' (by with_reducible assumption) _) | (with_reducible exact below_drewN' (Below.refl _ _) _))).mono ?_); rintro e w9 ⟨z, rfl, hq9, hS9⟩))
      obtain ⟨f, hzf, hq9b⟩ := hq9.out
      have HQ9 := Lib.hid hq9b
      clear hq9 hq9b hS9 hb8 HI4 HN4 HS4 HQ4 d0 d1 d2 d3
      have HS9 : Hid (∀ W, Below w9.heap.size w9 W → W.cell? ⟨b, o + i * 4 + 1, none⟩ = some (.int .i64 q.2.x.tag) ∧ W.cell? ⟨b, o + i * 4 + 2, none⟩ = some (.slice q.2.A q.2.x.vec.length q.2.c) ∧ W.cell? ⟨b, o + i * 4 + 3, none⟩ = some (.string q.2.x.str) ∧ W.cell? ⟨w.heap.size, 0, none⟩ = some (.int .i64 d.n) ∧ W.cell? ⟨w.heap.size, 2, none⟩ = some (.int .i64 d.most)) := Lib.hid fun W hW => by
        have h := HQ9.out.on hW
        exact ⟨(HSW.out W h.low).2.1, (HSW.out W h.low).2.2.1, (HSW.out W h.low).2.2.2, h.box.1, h.box.2⟩
      obtain ⟨d1, d2, d3, x0, x2⟩ := HS9.out w9 (Below.refl _ _)
      cases f with
      | false =>
        have e0 : (z == 0) = false := by rw [hzf]; rfl
        have e0' : decide (z = 0) = false := by rw [hzf]; rfl
        clear hzf
        have HE : Hid (∀ W, Below w9.heap.size w9 W → Lq w W d g ta tb (PA0 d) (one.map At.x) (i + 1) (.slice A4 (i + 1) k4) (.slice A2 one.length c2) ((ths d.l).take (i + 1)) one) := Lib.hid fun W hW => HQ9.out.on hW
        have HOB := Lib.hid HT.out.2.2.2.2.2
        clear HQ9 HT HSW
        go_wp2_with (fail)
        go_quiet (fail)
        clear d1 d2 d3 x0 x2 HS9
        go_wp2_with (fail)
        go_roundg (d.l.length - (i + 1))
        case measure => omega
        case rel => exact ⟨i + 1, k4, c2, A4, A2, one, rfl, by omega, rfl, rfl, by go_num, HE.out _ (by repeat' (first | (with_reducible exact Below.refl _ _) | (with_reducible refine Below.drew ?_) | (with_reducible refine below_drewN' ?_ _))), HOB.out⟩
      | true =>
        have e0 : (z == 0) = true := by rw [hzf]; rfl
        have e0' : decide (z = 0) = true := by rw [hzf]; rfl
        clear hzf
        have HOB := Lib.hid HT.out.2.2.2.2.2
        have HBF := Lib.hid HT.out.2.2.1
        have HVV := Lib.hid HT.out.2.2.2.2.1
        rw [Bool.true_and] at HQ9
        have hmore : moreT d.n d.most (one.map At.x) q.2.x = (decide ((one.length : Int) < d.most) && !((row (M d.n) (one.map At.x) q.2.x).contains 0)) := by unfold moreT; rw [List.length_map]
        by_cases hlm : (one.length : Int) < d.most
        · have e1 : decide ((one.length : Int) < d.most) = true := decide_eq_true hlm
          have hnm : decide (pv.nr (dt d.n one) U50 (rng one.length) (tho q) > 0) = !((row (M d.n) (one.map At.x) q.2.x).contains 0) := near_more d.n one (tho q)
          rw [e1, Bool.true_and, ← hnm] at hmore
          clear hnm
          obtain ⟨v, hvv⟩ : ∃ v, pv.nr (dt d.n one) U50 (rng one.length) (tho q) = v := ⟨_, rfl⟩
          rw [hvv] at hmore
          obtain ⟨mb, hmb⟩ : ∃ mb, decide (v > 0) = mb := ⟨_, rfl⟩
          rw [hmb] at hmore
          have HPL : Hid (∀ W, Below w9.heap.size w9 W → Calls Tryz.prog 22 #[.int .i64 one.length] W fun e w' => ∃ A' c', e = .returned (.slice A' one.length c') ∧ Pls w9 w' A' one.length) := Lib.hid fun W hW =>
            (places_any one.length (by omega) W).mono fun e w' ⟨A', c', he, ho, hb⟩ => ⟨A', c', by rw [he, rng_length], hW.trans (hb.mono hW.size), by rw [rng_length] at ho; exact Sl.of_own ho⟩
          have HNR : Hid (∀ (A' : Option Addr) (c' : Nat) W, Pls w9 W A' one.length → Calls Tryz.prog 21 #[.int .i64 d.n, .slice A2 one.length c2, .slice A' one.length c', .agg #[.int .i64 q.2.x.tag, .slice q.2.A q.2.x.vec.length q.2.c, .string q.2.x.str]] W fun e w' => e = .returned (.int .i64 v) ∧ Below w9.heap.size w9 w') := Lib.hid fun A' c' W hP => by
            rw [← hvv]
            exact HQ9.out.near hP.1 rfl HOB.out HBF.out HVV.out hP.2 (by omega)
          have HHM := Lib.hid hmore
          clear hvv hmore hlm HT HSW
          go_wp2_with (fail)
          go_region_held3 (fun W => W.cell? ⟨b, o + i * 4 + 1, none⟩ = some (.int .i64 q.2.x.tag) ∧ W.cell? ⟨b, o + i * 4 + 2, none⟩ = some (.slice q.2.A q.2.x.vec.length q.2.c) ∧ W.cell? ⟨b, o + i * 4 + 3, none⟩ = some (.string q.2.x.str) ∧ W.cell? ⟨w.heap.size, 0, none⟩ = some (.int .i64 d.n) ∧ W.cell? ⟨w.heap.size, 2, none⟩ = some (.int .i64 d.most))
            (first
              | (refine HS9.out _ ?_; first | (with_reducible exact Below.refl _ _) | (with_reducible assumption) | (with_reducible exact Below.drew (by with_reducible assumption)) | (with_reducible exact Below.drew (Below.refl _ _)) | (with_reducible exact below_drewN' (by with_reducible assumption) _) | (with_reducible exact below_drewN' (Below.refl _ _) _))
              | (refine HS9.out _ (Pls.low (A := A') (m := one.length) ?_); first | (with_reducible assumption) | (with_reducible exact Pls.drew (by with_reducible assumption)) | (with_reducible exact Pls.drewN (by with_reducible assumption) _)))
            (first
              | (go_at_call 22; (with_reducible refine (HPL.out _ (by first | (with_reducible exact Below.refl _ _) | (with_reducible assumption) | (with_reducible exact Below.drew (Below.refl _ _)) | (with_reducible exact below_drewN' (Below.refl _ _) _))).mono ?_); rintro e w8 ⟨A', c', rfl, hP8⟩)
              | (go_at_call 21; (with_reducible refine (HNR.out _ _ _ (by first | (with_reducible assumption) | (with_reducible exact Pls.drew (by with_reducible assumption)) | (with_reducible exact Pls.drewN (by with_reducible assumption) _))).mono ?_); rintro e w10 ⟨rfl, hb10⟩))
          have HB10 := Lib.hid hb10
          clear hb10 hP8 HPL HNR d1 d2 d3 x0 x2
          obtain ⟨d1, d2, d3, x0, x2⟩ := HS9.out w10 HB10.out
          have HQ10 := Lib.hid (HQ9.out.on HB10.out)
          clear HQ9 HS9 HB10
          cases mb with
          | false =>
            rw [HHM.out] at HQ10
            clear d1 d2 d3 x0 x2
            go_wp2_with (fail)
            go_roundg (d.l.length - (i + 1))
            case measure => omega
            case rel => exact ⟨i + 1, k4, c2, A4, A2, one, rfl, by omega, rfl, rfl, by go_num, HQ10.out, HOB.out⟩
          | true =>
            rw [HHM.out, if_pos rfl] at HQ10
            have hsz10 := HQ10.out.size
            have HRW := Lib.hid HQ10.out.rows.2
            have hol : one.length ≤ i := hol
            go_wp2_with (at_builtin
                         refine wpList_append_slk _ rfl (.tmp 100) (.tmp 106) _ rfl (w.heap.size + 1) 35 3 48 Tryz.underlying42 objK (by omega) (.slice A2 one.length c2) one.length (ocs one) rfl (World.ownsRow.alloc (w := w10) HRW.out _) _ _ 1 1 [.int .i64 q.2.x.tag, .slice q.2.A q.2.x.vec.length q.2.c, .string q.2.x.str] rfl (Sl.lit w10 _ _) rfl (by simp [Value.oneCell']) (by omega) (by unfold maxLen; omega) (by simp; omega) ?_
                         intro v11 w11 hown11 hg11 hat11
                         obtain ⟨A11, k11, rfl, hk11⟩ := own_slice hown11)
            have HQ11 : Hid (Lq w w11 d g ta tb (PA0 d) ((one ++ [tho q]).map At.x) (i + 1) (.slice A4 (i + 1) k4) (.slice A11 (one ++ [tho q]).length k11) ((ths d.l).take (i + 1)) (one ++ [tho q])) := Lib.hid (by
              have h := HQ10.out.moreO (p := tho q) hg11 hown11 hat11
              rw [List.map_append, List.length_append, List.length_singleton]
              exact h)
            have HOB2 : Hid (∀ p ∈ one ++ [tho q], Bf p.x ∧ Sl w w.heap.size p.a (iv p.x.vec)) := Lib.hid fun p hp => by
              rcases List.mem_append.1 hp with hp | hp
              · exact HOB.out p hp
              · simp only [List.mem_singleton] at hp
                subst hp
                exact ⟨HBF.out, HVV.out⟩
            clear hown11 hg11 hat11 HQ10 HRW d1 d2 d3 x0 x2 hk11
            go_wp2_with (fail)
            go_roundg (d.l.length - (i + 1))
            case measure => omega
            case rel => exact ⟨i + 1, k4, k11, A4, A11, one ++ [tho q], rfl, by omega, rfl, by simp, by go_num, HQ11.out, HOB2.out⟩
        · have e1 : decide ((one.length : Int) < d.most) = false := decide_eq_false hlm
          rw [e1, Bool.false_and] at hmore
          rw [hmore] at HQ9
          have HE : Hid (∀ W, Below w9.heap.size w9 W → Lq w W d g ta tb (PA0 d) (one.map At.x) (i + 1) (.slice A4 (i + 1) k4) (.slice A2 one.length c2) ((ths d.l).take (i + 1)) one) := Lib.hid fun W hW => HQ9.out.on hW
          clear HQ9 HT HSW hmore hlm HBF HVV
          go_wp2_with (fail)
          go_quiet (fail)
          clear d1 d2 d3 x0 x2 HS9
          go_wp2_with (fail)
          go_roundg (d.l.length - (i + 1))
          case measure => omega
          case rel => exact ⟨i + 1, k4, c2, A4, A2, one, rfl, by omega, rfl, rfl, by go_num, HE.out _ (by repeat' (first | (with_reducible exact Below.refl _ _) | (with_reducible refine Below.drew ?_) | (with_reducible refine below_drewN' ?_ _))), HOB.out⟩
    · obtain rfl : i = d.l.length := by omega
      have i1 : ¬ (d.l.length : Int) < (d.l.length : Int) := by omega
      rw [List.take_of_length_le (by rw [ths_length]; exact Nat.le_refl _)] at hq
      have HQ := Lib.hid hq
      have HOB := Lib.hid hob
      have HS14 : Hid (∀ W, Below wr.heap.size wr W → W.cell? ⟨w.heap.size, 0, none⟩ = some (.int .i64 d.n) ∧ W.cell? ⟨w.heap.size, 2, none⟩ = some (.int .i64 d.most)) := Lib.hid fun W hW => (HQ.out.on hW).box
      have HAT : Hid (∀ W, Below wr.heap.size wr W → Calls Tryz.prog 25 #[.slice d.D d.raw.length d.dc, .int .i64 0] W fun e w' => e = .returned (.int .i64 (draws.nx d.raw 0)) ∧ W = w') := Lib.hid fun W hW =>
        draws.at_any (A := d.D) (c := d.dc) 0 W.heap.size HY.out.rlen (by omega) W (HY.out.raw.on (HQ.out.on hW).low)
      have HMO : Hid (∀ W, Calls Tryz.prog 24 #[.int .i64 (draws.nx d.raw 0), .int .i64 d.l.length] W fun e w' => e = .returned (.int .i64 (draws.md (draws.nx d.raw 0) d.l.length)) ∧ W = w') := Lib.hid fun W =>
        draws.rmod_any (draws.nx d.raw 0) d.l.length (draws.nx_i64 HY.out.ri 0) ⟨by omega, by omega⟩ W
      have HCH : Hid (∀ W, Below wr.heap.size wr W → Calls Tryz.prog 23 #[.int .i64 d.n, .slice A1 d.l.length c1, .int .i64 d.most, .int .i64 (draws.md (draws.nx d.raw 0) d.l.length)] W fun e w' => ∃ A3 c3, e = .returned (.slice A3 (cs0 d).length c3) ∧ Sl w' w'.heap.size A3 (nv (cs0 d)) ∧ Below wr.heap.size wr w') := Lib.hid fun W hW =>
        (HQ.out.choose HY.out HFN.out rfl hW).mono fun e w' ⟨A3, c3, he, ho, hb⟩ => ⟨A3, c3, he, Sl.of_own ho, hb⟩
      obtain ⟨x0, x2⟩ := HS14.out wr (Below.refl _ _)
      clear hq hob
      go_wp2_with (fail)
      go_region_held3 (fun W => W.cell? ⟨w.heap.size, 0, none⟩ = some (.int .i64 d.n) ∧ W.cell? ⟨w.heap.size, 2, none⟩ = some (.int .i64 d.most))
        ((refine HS14.out _ ?_; first | (with_reducible exact Below.refl _ _) | (with_reducible assumption) | (with_reducible exact Below.drew (by with_reducible assumption)) | (with_reducible exact Below.drew (Below.refl _ _)) | (with_reducible exact below_drewN' (by with_reducible assumption) _) | (with_reducible exact below_drewN' (Below.refl _ _) _)))
        (first
          | (go_at_call 25; (with_reducible refine (HAT.out _ (by first | (with_reducible exact Below.refl _ _) | (with_reducible assumption) | (with_reducible exact Below.drew (by with_reducible assumption)) | (with_reducible exact Below.drew (Below.refl _ _)) | (with_reducible exact below_drewN' (by with_reducible assumption) _) | (with_reducible exact below_drewN' (Below.refl _ _) _))).mono ?_); rintro e wz ⟨rfl, rfl⟩)
          | (go_at_call 24; (with_reducible refine (HMO.out _).mono ?_); rintro e wz ⟨rfl, rfl⟩)
          | (go_at_call 23; (with_reducible refine (HCH.out _ (by first | (with_reducible exact Below.refl _ _) | (with_reducible assumption) | (with_reducible exact Below.drew (by with_reducible assumption)) | (with_reducible exact Below.drew (Below.refl _ _)) | (with_reducible exact below_drewN' (by with_reducible assumption) _) | (with_reducible exact below_drewN' (Below.refl _ _) _))).mono ?_); rintro e w4 ⟨A3, c3, rfl, hs3, hb4⟩))
      have HQ4 := Lib.hid (HQ.out.on hb4)
      have HPA := Lib.hid (HQ.out.on hb4).pivA
      have HS3 := Lib.hid hs3
      clear x0 x2 hs3 hb4 HCH HMO HAT HS14 HQ
      go_wp2_with (fail)
      refine HPA.out.mono ?_
      rintro e w5 ⟨AP, cP, lP, rfl, hoP, hmP, hwP, hb5⟩
      obtain ⟨m, hm⟩ : ∃ m, (PA0 d).length = m := ⟨_, rfl⟩
      rw [hm] at hoP ⊢
      have hlm : lP.length = m := by rw [← hm, ← hmP, List.length_map]
      -- what each of the rows holds from now on
      have HQ5 := Lib.hid (HQ4.out.on hb5)
      have HTP : Hid (∀ W, Below w5.heap.size w5 W → Ts W (fun _ => False) AP lP) := Lib.hid fun W hW => (show Ts w5 (fun _ => False) AP lP from ⟨fun j u hj => by
        obtain ⟨ad, e, hb2, hc⟩ := Sl.of_ownK hoP j u hj
        exact ⟨ad, e, hb2, fun e => e, hc⟩, fun p hp j u hj => by
        obtain ⟨ad, e, hb2, hc⟩ := Sl.of_own (hwP p hp) j u hj
        exact ⟨ad, e, hb2, fun e => e, hc⟩⟩).on hW
      have HTA : Hid (∀ W, Below w5.heap.size w5 W → Ts W (fun _ => False) A1 (ths d.l)) := Lib.hid fun W hW => by
        have h := HQ5.out.on hW
        have h2 := h.rows.1
        rw [ths_length] at h2
        exact ⟨fun j u hj => by
          obtain ⟨ad, e, hb2, hc⟩ := Sl.of_ownK h2 j u hj
          exact ⟨ad, e, hb2, fun e => e, hc⟩, fun p hp => by
          obtain ⟨q, hq, rfl⟩ := List.mem_map.1 hp
          exact Away.fresh (HY.out.vec q hq) h.low fun i e => e.elim⟩
      have HTO : Hid (∀ W, Below w5.heap.size w5 W → Ts W (fun _ => False) A2 one) := Lib.hid fun W hW => by
        have h := HQ5.out.on hW
        have h2 := h.rows.2
        exact ⟨fun j u hj => by
          obtain ⟨ad, e, hb2, hc⟩ := Sl.of_ownK h2 j u hj
          exact ⟨ad, e, hb2, fun e => e, hc⟩, fun p hp => Away.fresh (HOB.out p hp).2 h.low fun i e => e.elim⟩
      have HS5 : Hid (∀ W, Below w5.heap.size w5 W → Sl W W.heap.size A3 (nv (cs0 d))) := Lib.hid fun W hW => (HS3.out.on hb5).on hW
      have HPB : Hid (∀ W, Below w5.heap.size w5 W → Calls Tryz.prog 14 #[.pointer (some ⟨tb, 0, none⟩)] W fun e w' => ∃ A c l, e = .returned (.slice A one.length c) ∧ (∀ W', Below w'.heap.size w' W' → Ts W' (fun _ => False) A l) ∧ l.map At.x = one.map At.x ∧ Below w5.heap.size w5 w') := Lib.hid fun W hW => by
        refine ((HQ5.out.on hW).pivB (by omega)).mono fun e w' ⟨A, c, l, he, ho, hm, hw, hb⟩ => ⟨A, c, l, by rw [he, List.length_map], fun W' hW' => ?_, hm, hW.trans (hb.mono hW.size)⟩
        exact (show Ts w' (fun _ => False) A l from ⟨fun j u hj => by
          obtain ⟨ad, e, hb2, hc⟩ := Sl.of_ownK ho j u hj
          exact ⟨ad, e, hb2, fun e => e, hc⟩, fun p hp j u hj => by
          obtain ⟨ad, e, hb2, hc⟩ := Sl.of_own (hw p hp) j u hj
          exact ⟨ad, e, hb2, fun e => e, hc⟩⟩).on hW'
      have HLI : Hid (∀ W, Below w5.heap.size w5 W → Calls Tryz.prog 9 #[] W fun e w' => e = .returned (.bool true) ∧ Below w.heap.size w w') := Lib.hid fun W hW => HL.out W (HQ5.out.on hW).low
      have HLP := Lib.hid hlm
      have HMP := Lib.hid hmP
      have HM := Lib.hid hm
      have hml : m ≤ 60 := by
        rw [← hm]
        unfold PA0
        split
        · rw [att_length]; have := cs0_len d; omega
        · simp
      have hcl : (cs0 d).length ≤ 60 := by have := cs0_len d; omega
      have hol : one.length ≤ 60 := by have := HQ5.out.lenB.1; rw [List.length_map] at this; omega
      have HFE := Lib.hid (fe0_or d)
      obtain ⟨z, hz⟩ : ∃ z, fe0 d = z := ⟨_, rfl⟩
      rw [hz]
      have HZ := Lib.hid hz
      clear hoP hmP hwP hb5 hm hlm hz HPA HQ4 HS3
      have m0 : (0 : Int) ≤ (m : Int) := by omega
      have HPX : Hid (∀ k, (hk : k < m) → ∃ j : Nat, ∃ hj : j < d.l.length, ∃ hkc : k < (cs0 d).length, (cs0 d)[k] = (j : Int) ∧ ∃ hkp : k < lP.length, lP[k].x = (d.l[j]).2.x) := Lib.hid fun k hk => by
        have hkp : k < lP.length := by rw [HLP.out]; exact hk
        by_cases h0 : fe0 d = 0
        · have hP : PA0 d = att d.l (cs0 d) := if_pos h0
          have hkc : k < (cs0 d).length := by have := HM.out; rw [hP, att_length] at this; omega
          obtain ⟨j, hj, h1, h2⟩ := cs0_at d hkc
          refine ⟨j, hj, hkc, h1, hkp, ?_⟩
          have h3 : (lP.map At.x)[k]? = some (d.l[j]).2.x := by rw [HMP.out, hP]; exact h2
          simpa [hkp] using h3
        · have hP : PA0 d = [] := if_neg h0
          have := HM.out
          rw [hP] at this
          simp at this
          omega
      have HFA : Hid (∀ q ∈ d.l, q.2.x.vec.length ≤ 281474976710656) := Lib.hid fun q hq => by have := (HFN.out.bf q hq).2.1; omega
      have HFO : Hid (∀ p ∈ one, p.x.vec.length ≤ 281474976710656) := Lib.hid fun p hp => by have := (HOB.out p hp).1.2.1; omega
      rcases HFE.out with h0 | h4
      · have e0 : (z == 0) = true := by rw [← HZ.out, h0]; rfl
        have e1 : (z != 0) = false := by rw [← HZ.out, h0]; rfl
        have hmc : m = (cs0 d).length := by
          have := HM.out
          rw [show PA0 d = att d.l (cs0 d) from if_pos h0, att_length] at this
          exact this.symm
        have n1 : ((m : Int) != ((cs0 d).length : Int)) = false := by rw [hmc]; simp
        have n2 : ((one.length : Int) != (one.length : Int)) = false := by simp
        have n3 : (one.length != one.length) = false := by simp
        have n4 : (m != (cs0 d).length) = false := by rw [hmc]; simp
        clear h0 hmc HFE
        go_wp2_with (fail)
        refine (HPB.out _ (Below.refl _ _)).mono ?_
        rintro e w6 ⟨AQ, cQ, lQ, rfl, hTQ, hmQ, hb6⟩
        have HB6 := Lib.hid hb6
        clear hTQ hmQ hb6
        go_wp2_with (fail)
        go_loopg [17] m (fun gk s17 wr => ∃ k : Nat, gk = m - k ∧ k ≤ m ∧ s17 = .int .i64 k ∧ Below w5.heap.size w5 wr)
        case atStart => exact ⟨0, rfl, Nat.zero_le _, rfl, HB6.out⟩
        case round =>
          clear HB6
          obtain ⟨k, rfl, hk, rfl, hb⟩ := hrel
          by_cases hkl : k < m
          · have j1 : (k : Int) < (m : Int) := by omega
            have j0 : (0 : Int) ≤ (k : Int) := by omega
            obtain ⟨j, hj, hkc, hcj, hkp, hx⟩ := HPX.out k hkl
            have hjt : j < (ths d.l).length := by rw [ths_length]; exact hj
            have j2 : (k : Int) < ((cs0 d).length : Int) := by omega
            have j3 : (j : Int) < (d.l.length : Int) := by omega
            have j4 : (0 : Int) ≤ (j : Int) := by omega
            obtain ⟨bP, oP, rfl, hbP, -, hcP⟩ := (HTP.out wr hb).place (Nat.lt_of_le_of_lt (Nat.zero_le _) hkp)
            obtain ⟨bA, oA, rfl, hbA, -, hcA⟩ := (HTA.out wr hb).place (Nat.lt_of_le_of_lt (Nat.zero_le _) hjt)
            obtain ⟨ad, rfl, hb3, hc3⟩ := Sl.num (HS5.out wr hb) hkc
            rw [hcj] at hc3
            obtain ⟨p0, p1, p2⟩ := hcP k hkp
            obtain ⟨a0, a1, a2⟩ := hcA j hjt
            have vP := ((HTP.out wr hb).vec _ (List.getElem_mem hkp)).sl
            have vA := ((HTA.out wr hb).vec _ (List.getElem_mem hjt)).sl
            have hfa := HFA.out _ (List.getElem_mem hj)
            have htj : (ths d.l)[j]'hjt = tho (d.l[j]'hj) := by simp [ths]
            rw [htj] at a0 a1 a2 vA
            rw [hx] at p0 p1 p2 vP
            obtain ⟨q, hq⟩ : ∃ q, d.l[j]'hj = q := ⟨_, rfl⟩
            obtain ⟨p, hp⟩ : ∃ p, lP[k]'hkp = p := ⟨_, rfl⟩
            rw [hq] at a0 a1 a2 vA p0 p1 p2 vP hfa
            rw [hp] at p1 vP
            have HSM : Hid (∀ W, Below wr.heap.size wr W → Calls Tryz.prog 26 #[.agg #[.int .i64 q.2.x.tag, .slice p.a q.2.x.vec.length p.c, .string q.2.x.str], .agg #[.int .i64 q.2.x.tag, .slice q.2.A q.2.x.vec.length q.2.c, .string q.2.x.str]] W fun e w' => e = .returned (.bool true) ∧ Below wr.heap.size wr w') := Lib.hid fun W hW => by
              have h := rsame_any p.a q.2.A p.c q.2.c W.heap.size W.heap.size q.2.x q.2.x W hfa hfa (Nat.le_refl _) (Nat.le_refl _) (vP.on hW) (vA.on hW)
              rw [sameO_rfl] at h
              exact h.mono fun e w' ⟨he, hb2⟩ => ⟨he, hW.trans (hb2.mono hW.size)⟩
            have HS7 : Hid (∀ W, Below wr.heap.size wr W → W.cell? ⟨bP, oP + k * 3, none⟩ = some (.int .i64 q.2.x.tag) ∧ W.cell? ⟨bP, oP + k * 3 + 1, none⟩ = some (.slice p.a q.2.x.vec.length p.c) ∧ W.cell? ⟨bP, oP + k * 3 + 2, none⟩ = some (.string q.2.x.str) ∧ W.cell? (ad.add k) = some (.int .i64 j) ∧ W.cell? ⟨bA, oA + j * 3, none⟩ = some (.int .i64 q.2.x.tag) ∧ W.cell? ⟨bA, oA + j * 3 + 1, none⟩ = some (.slice q.2.A q.2.x.vec.length q.2.c) ∧ W.cell? ⟨bA, oA + j * 3 + 2, none⟩ = some (.string q.2.x.str)) := Lib.hid fun W hW =>
              ⟨(hW.cell (p := ⟨bP, _, none⟩) hbP).trans p0, (hW.cell (p := ⟨bP, _, none⟩) hbP).trans p1, (hW.cell (p := ⟨bP, _, none⟩) hbP).trans p2, (hW.cell (p := ad.add k) (by rw [blk_add]; exact hb3)).trans hc3, (hW.cell (p := ⟨bA, _, none⟩) hbA).trans a0, (hW.cell (p := ⟨bA, _, none⟩) hbA).trans a1, (hW.cell (p := ⟨bA, _, none⟩) hbA).trans a2⟩
            have HBB := Lib.hid hb
            clear hcP hcA hx hcj hkp hjt hkc htj hq hp vP vA hfa hb p0 p1 p2 a0 a1 a2 hc3 hbP hbA hb3
            obtain ⟨p0, p1, p2, hc3, a0, a1, a2⟩ := HS7.out wr (Below.refl _ _)
            go_wp2_with (fail)
            go_region_held3 (fun W => W.cell? ⟨bP, oP + k * 3, none⟩ = some (.int .i64 q.2.x.tag) ∧ W.cell? ⟨bP, oP + k * 3 + 1, none⟩ = some (.slice p.a q.2.x.vec.length p.c) ∧ W.cell? ⟨bP, oP + k * 3 + 2, none⟩ = some (.string q.2.x.str) ∧ W.cell? (ad.add k) = some (.int .i64 j) ∧ W.cell? ⟨bA, oA + j * 3, none⟩ = some (.int .i64 q.2.x.tag) ∧ W.cell? ⟨bA, oA + j * 3 + 1, none⟩ = some (.slice q.2.A q.2.x.vec.length q.2.c) ∧ W.cell? ⟨bA, oA + j * 3 + 2, none⟩ = some (.string q.2.x.str))
              ((refine HS7.out _ ?_; first | (with_reducible exact Below.refl _ _) | (with_reducible assumption) | (with_reducible exact Below.drew (by with_reducible assumption)) | (with_reducible exact Below.drew (Below.refl _ _)) | (with_reducible exact below_drewN' (by with_reducible assumption) _) | (with_reducible exact below_drewN' (Below.refl _ _) _)))
              (first
                | (go_at_call 26; (with_reducible refine (HSM.out _ (by first | (with_reducible exact Below.refl _ _) | (with_reducible assumption) | (with_reducible exact Below.drew (by with_reducible assumption)) | (with_reducible exact Below.drew (Below.refl _ _)) | (with_reducible exact below_drewN' (by with_reducible assumption) _) | (with_reducible exact below_drewN' (Below.refl _ _) _))).mono ?_); rintro e w8 ⟨rfl, hb8⟩))
            have HB8 := Lib.hid (HBB.out.trans (hb8.mono HBB.out.size))
            clear hb8 HBB HSM HS7 p0 p1 p2 hc3 a0 a1 a2
            go_wp2_with (fail)
            go_roundg (m - (k + 1))
            case measure => omega
            case rel => exact ⟨k + 1, rfl, by omega, by go_num, HB8.out⟩
          · obtain rfl : k = m := by omega
            have j1 : ¬ (k : Int) < (k : Int) := by omega
            have HPB2 := Lib.hid (HPB.out wr hb)
            clear hb HPX HTP HTA HS5
            go_wp2_with (fail)
            refine HPB2.out.mono ?_
            rintro e w7 ⟨AB, cB, lB, rfl, hTB, hmB, hb7⟩
            have HTB := Lib.hid hTB
            have HMB := Lib.hid hmB
            have HB7 := Lib.hid hb7
            clear hTB hmB hb7 HPB2
            go_wp2_with (fail)
            go_loopg [169] one.length (fun gk s169 wr => ∃ k : Nat, gk = one.length - k ∧ k ≤ one.length ∧ s169 = .int .i64 k ∧ Below w7.heap.size w7 wr)
            case atStart => exact ⟨0, rfl, Nat.zero_le _, rfl, Below.refl _ _⟩
            case round =>
              obtain ⟨k, rfl, hk, rfl, hb⟩ := hrel
              have hb5 : Below w5.heap.size w5 wr := HB7.out.trans (hb.mono HB7.out.size)
              by_cases hkl : k < one.length
              · have j1 : (k : Int) < (one.length : Int) := by omega
                have j0 : (0 : Int) ≤ (k : Int) := by omega
                have hkB : k < lB.length := by
                  have := congrArg List.length HMB.out
                  rw [List.length_map, List.length_map] at this
                  omega
                have hx : (lB[k]'hkB).x = (one[k]'hkl).x := by
                  have h : (lB.map At.x)[k]? = (one.map At.x)[k]? := by rw [HMB.out]
                  simpa [hkB, hkl] using h
                obtain ⟨bB, oB, rfl, hbB, -, hcB⟩ := (HTB.out wr hb).place (Nat.lt_of_le_of_lt (Nat.zero_le _) hkB)
                obtain ⟨bO, oO, rfl, hbO, -, hcO⟩ := (HTO.out wr hb5).place (Nat.lt_of_le_of_lt (Nat.zero_le _) hkl)
                obtain ⟨p0, p1, p2⟩ := hcB k hkB
                obtain ⟨a0, a1, a2⟩ := hcO k hkl
                have vP := ((HTB.out wr hb).vec _ (List.getElem_mem hkB)).sl
                have vA := ((HTO.out wr hb5).vec _ (List.getElem_mem hkl)).sl
                have hfa := HFO.out _ (List.getElem_mem hkl)
                rw [hx] at p0 p1 p2 vP
                obtain ⟨q, hq⟩ : ∃ q, one[k]'hkl = q := ⟨_, rfl⟩
                obtain ⟨p, hp⟩ : ∃ p, lB[k]'hkB = p := ⟨_, rfl⟩
                rw [hq] at a0 a1 a2 vA p0 p1 p2 vP hfa
                rw [hp] at p1 vP
                obtain ⟨V2, hV2⟩ : ∃ V2, V2 = wr.alloc (.cells #[.int .i64 q.x.tag, .slice p.a q.x.vec.length p.c, .string q.x.str] 35) := ⟨_, rfl⟩
                have hbV : Below wr.heap.size wr V2 := by rw [hV2]; exact (Below.refl _ _).alloc (Nat.le_refl _) _
                have hkV : Blk V2 wr.heap.size 35 #[.int .i64 q.x.tag, .slice p.a q.x.vec.length p.c, .string q.x.str] := by rw [hV2]; exact Blk.new wr _ _
                have hzV : V2.heap.size = wr.heap.size + 1 := by rw [hV2]; simp
                have HSM : Hid (∀ W, Below V2.heap.size V2 W → Calls Tryz.prog 26 #[.agg #[.int .i64 q.x.tag, .slice p.a q.x.vec.length p.c, .string q.x.str], .agg #[.int .i64 q.x.tag, .slice q.a q.x.vec.length q.c, .string q.x.str]] W fun e w' => e = .returned (.bool true) ∧ Below V2.heap.size V2 w') := Lib.hid fun W hW => by
                  have hWr : Below wr.heap.size wr W := hbV.trans (hW.mono (by omega))
                  have h := rsame_any p.a q.a p.c q.c W.heap.size W.heap.size q.x q.x W hfa hfa (Nat.le_refl _) (Nat.le_refl _) (vP.on hWr) (vA.on hWr)
                  rw [sameO_rfl] at h
                  exact h.mono fun e w' ⟨he, hb2⟩ => ⟨he, hW.trans (hb2.mono hW.size)⟩
                have HS7 : Hid (∀ W, Below V2.heap.size V2 W → W.cell? ⟨wr.heap.size, 0, none⟩ = some (.int .i64 q.x.tag) ∧ W.cell? ⟨wr.heap.size, 1, none⟩ = some (.slice p.a q.x.vec.length p.c) ∧ W.cell? ⟨wr.heap.size, 2, none⟩ = some (.string q.x.str) ∧ W.cell? ⟨bO, oO + k * 3, none⟩ = some (.int .i64 q.x.tag) ∧ W.cell? ⟨bO, oO + k * 3 + 1, none⟩ = some (.slice q.a q.x.vec.length q.c) ∧ W.cell? ⟨bO, oO + k * 3 + 2, none⟩ = some (.string q.x.str)) := Lib.hid fun W hW => by
                  have hWr : Below wr.heap.size wr W := hbV.trans (hW.mono (by omega))
                  have b := hkV.below hW hkV.lt
                  exact ⟨b.cell 0, b.cell 1, b.cell 2, (hWr.cell (p := ⟨bO, _, none⟩) hbO).trans a0, (hWr.cell (p := ⟨bO, _, none⟩) hbO).trans a1, (hWr.cell (p := ⟨bO, _, none⟩) hbO).trans a2⟩
                have HV2 := Lib.hid hV2
                have HBB : Hid (∀ W, Below V2.heap.size V2 W → Below w7.heap.size w7 W) := Lib.hid fun W hW => hb.trans ((hbV.trans (hW.mono (by omega))).mono hb.size)
                obtain ⟨-, -, -, hfz⟩ := cells3 (Blk.new wr 35 #[.int .i64 0, .slice none 0 0, .string ⟨#[]⟩])
                clear hcB hcO hx hq hp vP vA hfa hb hb5 hbV hkV hzV hV2 hbB hbO hkB a0 a1 a2
                go_wp2_with (fail)
                rw [← HV2.out]
                clear HV2 p0 p1 p2 hfz
                obtain ⟨y, hy⟩ : ∃ y, y = wr.heap.size := ⟨_, rfl⟩
                rw [← hy] at HS7 ⊢
                clear hy
                obtain ⟨p0, p1, p2, a0, a1, a2⟩ := HS7.out V2 (Below.refl _ _)
                go_region_held3 (fun W => W.cell? ⟨y, 0, none⟩ = some (.int .i64 q.x.tag) ∧ W.cell? ⟨y, 1, none⟩ = some (.slice p.a q.x.vec.length p.c) ∧ W.cell? ⟨y, 2, none⟩ = some (.string q.x.str) ∧ W.cell? ⟨bO, oO + k * 3, none⟩ = some (.int .i64 q.x.tag) ∧ W.cell? ⟨bO, oO + k * 3 + 1, none⟩ = some (.slice q.a q.x.vec.length q.c) ∧ W.cell? ⟨bO, oO + k * 3 + 2, none⟩ = some (.string q.x.str))
                  ((refine HS7.out _ ?_; first | (with_reducible exact Below.refl _ _) | (with_reducible assumption) | (with_reducible exact Below.drew (by with_reducible assumption)) | (with_reducible exact Below.drew (Below.refl _ _)) | (with_reducible exact below_drewN' (by with_reducible assumption) _) | (with_reducible exact below_drewN' (Below.refl _ _) _)))
                  (first
                    | (go_at_call 26; (with_reducible refine (HSM.out _ (by first | (with_reducible exact Below.refl _ _) | (with_reducible assumption) | (with_reducible exact Below.drew (by with_reducible assumption)) | (with_reducible exact Below.drew (Below.refl _ _)) | (with_reducible exact below_drewN' (by with_reducible assumption) _) | (with_reducible exact below_drewN' (Below.refl _ _) _))).mono ?_); rintro e w8 ⟨rfl, hb8⟩))
                have HB8 := Lib.hid (HBB.out _ hb8)
                clear hb8 HBB HSM HS7 p0 p1 p2 a0 a1 a2
                go_wp2_with (fail)
                go_roundg (one.length - (k + 1))
                case measure => omega
                case rel => exact ⟨k + 1, rfl, by omega, by go_num, HB8.out⟩
              · obtain rfl : k = one.length := by omega
                have j1 : ¬ (one.length : Int) < (one.length : Int) := by omega
                have HLX := Lib.hid (HLI.out wr hb5)
                clear hb hb5
                go_wp2_with (fail)
                refine HLX.out.mono ?_
                rintro e w9 ⟨rfl, hb9⟩
                have HE := Lib.hid hb9
                clear hb9 HLX
                go_wp2_with (fail)
                go_ret
                exact ⟨rfl, HE.out⟩
      · have e0 : (z == 0) = false := by rw [← HZ.out, h4]; rfl
        have e1 : (z != 0) = true := by rw [← HZ.out, h4]; rfl
        have hm0 : m = 0 := by
          have := HM.out
          rw [show PA0 d = [] from if_neg (by omega)] at this
          exact this.symm
        have n2 : ((one.length : Int) != (one.length : Int)) = false := by simp
        have n3 : (one.length != one.length) = false := by simp
        subst hm0
        clear h4 HFE
        go_wp2_with (fail)
        refine (HPB.out _ (Below.refl _ _)).mono ?_
        rintro e w6 ⟨AQ, cQ, lQ, rfl, hTQ, hmQ, hb6⟩
        have HB6 := Lib.hid hb6
        clear hTQ hmQ hb6
        go_wp2_with (fail)
        go_loopg [17] 0 (fun gk s17 wr => gk = 0 ∧ s17 = .int .i64 0 ∧ Below w5.heap.size w5 wr)
        case atStart => exact ⟨rfl, rfl, HB6.out⟩
        case round =>
          clear HB6
          obtain ⟨rfl, rfl, hb⟩ := hrel
          · skip
            have HPB2 := Lib.hid (HPB.out wr hb)
            clear hb HPX HTP HTA HS5
            go_wp2_with (fail)
            refine HPB2.out.mono ?_
            rintro e w7 ⟨AB, cB, lB, rfl, hTB, hmB, hb7⟩
            have HTB := Lib.hid hTB
            have HMB := Lib.hid hmB
            have HB7 := Lib.hid hb7
            clear hTB hmB hb7 HPB2
            go_wp2_with (fail)
            go_loopg [169] one.length (fun gk s169 wr => ∃ k : Nat, gk = one.length - k ∧ k ≤ one.length ∧ s169 = .int .i64 k ∧ Below w7.heap.size w7 wr)
            case atStart => exact ⟨0, rfl, Nat.zero_le _, rfl, Below.refl _ _⟩
            case round =>
              obtain ⟨k, rfl, hk, rfl, hb⟩ := hrel
              have hb5 : Below w5.heap.size w5 wr := HB7.out.trans (hb.mono HB7.out.size)
              by_cases hkl : k < one.length
              · have j1 : (k : Int) < (one.length : Int) := by omega
                have j0 : (0 : Int) ≤ (k : Int) := by omega
                have hkB : k < lB.length := by
                  have := congrArg List.length HMB.out
                  rw [List.length_map, List.length_map] at this
                  omega
                have hx : (lB[k]'hkB).x = (one[k]'hkl).x := by
                  have h : (lB.map At.x)[k]? = (one.map At.x)[k]? := by rw [HMB.out]
                  simpa [hkB, hkl] using h
                obtain ⟨bB, oB, rfl, hbB, -, hcB⟩ := (HTB.out wr hb).place (Nat.lt_of_le_of_lt (Nat.zero_le _) hkB)
                obtain ⟨bO, oO, rfl, hbO, -, hcO⟩ := (HTO.out wr hb5).place (Nat.lt_of_le_of_lt (Nat.zero_le _) hkl)
                obtain ⟨p0, p1, p2⟩ := hcB k hkB
                obtain ⟨a0, a1, a2⟩ := hcO k hkl
                have vP := ((HTB.out wr hb).vec _ (List.getElem_mem hkB)).sl
                have vA := ((HTO.out wr hb5).vec _ (List.getElem_mem hkl)).sl
                have hfa := HFO.out _ (List.getElem_mem hkl)
                rw [hx] at p0 p1 p2 vP
                obtain ⟨q, hq⟩ : ∃ q, one[k]'hkl = q := ⟨_, rfl⟩
                obtain ⟨p, hp⟩ : ∃ p, lB[k]'hkB = p := ⟨_, rfl⟩
                rw [hq] at a0 a1 a2 vA p0 p1 p2 vP hfa
                rw [hp] at p1 vP
                obtain ⟨V2, hV2⟩ : ∃ V2, V2 = wr.alloc (.cells #[.int .i64 q.x.tag, .slice p.a q.x.vec.length p.c, .string q.x.str] 35) := ⟨_, rfl⟩
                have hbV : Below wr.heap.size wr V2 := by rw [hV2]; exact (Below.refl _ _).alloc (Nat.le_refl _) _
                have hkV : Blk V2 wr.heap.size 35 #[.int .i64 q.x.tag, .slice p.a q.x.vec.length p.c, .string q.x.str] := by rw [hV2]; exact Blk.new wr _ _
                have hzV : V2.heap.size = wr.heap.size + 1 := by rw [hV2]; simp
                have HSM : Hid (∀ W, Below V2.heap.size V2 W → Calls Tryz.prog 26 #[.agg #[.int .i64 q.x.tag, .slice p.a q.x.vec.length p.c, .string q.x.str], .agg #[.int .i64 q.x.tag, .slice q.a q.x.vec.length q.c, .string q.x.str]] W fun e w' => e = .returned (.bool true) ∧ Below V2.heap.size V2 w') := Lib.hid fun W hW => by
                  have hWr : Below wr.heap.size wr W := hbV.trans (hW.mono (by omega))
                  have h := rsame_any p.a q.a p.c q.c W.heap.size W.heap.size q.x q.x W hfa hfa (Nat.le_refl _) (Nat.le_refl _) (vP.on hWr) (vA.on hWr)
                  rw [sameO_rfl] at h
                  exact h.mono fun e w' ⟨he, hb2⟩ => ⟨he, hW.trans (hb2.mono hW.size)⟩
                have HS7 : Hid (∀ W, Below V2.heap.size V2 W → W.cell? ⟨wr.heap.size, 0, none⟩ = some (.int .i64 q.x.tag) ∧ W.cell? ⟨wr.heap.size, 1, none⟩ = some (.slice p.a q.x.vec.length p.c) ∧ W.cell? ⟨wr.heap.size, 2, none⟩ = some (.string q.x.str) ∧ W.cell? ⟨bO, oO + k * 3, none⟩ = some (.int .i64 q.x.tag) ∧ W.cell? ⟨bO, oO + k * 3 + 1, none⟩ = some (.slice q.a q.x.vec.length q.c) ∧ W.cell? ⟨bO, oO + k * 3 + 2, none⟩ = some (.string q.x.str)) := Lib.hid fun W hW => by
                  have hWr : Below wr.heap.size wr W := hbV.trans (hW.mono (by omega))
                  have b := hkV.below hW hkV.lt
                  exact ⟨b.cell 0, b.cell 1, b.cell 2, (hWr.cell (p := ⟨bO, _, none⟩) hbO).trans a0, (hWr.cell (p := ⟨bO, _, none⟩) hbO).trans a1, (hWr.cell (p := ⟨bO, _, none⟩) hbO).trans a2⟩
                have HV2 := Lib.hid hV2
                have HBB : Hid (∀ W, Below V2.heap.size V2 W → Below w7.heap.size w7 W) := Lib.hid fun W hW => hb.trans ((hbV.trans (hW.mono (by omega))).mono hb.size)
                obtain ⟨-, -, -, hfz⟩ := cells3 (Blk.new wr 35 #[.int .i64 0, .slice none 0 0, .string ⟨#[]⟩])
                clear hcB hcO hx hq hp vP vA hfa hb hb5 hbV hkV hzV hV2 hbB hbO hkB a0 a1 a2
                go_wp2_with (fail)
                rw [← HV2.out]
                clear HV2 p0 p1 p2 hfz
                obtain ⟨y, hy⟩ : ∃ y, y = wr.heap.size := ⟨_, rfl⟩
                rw [← hy] at HS7 ⊢
                clear hy
                obtain ⟨p0, p1, p2, a0, a1, a2⟩ := HS7.out V2 (Below.refl _ _)
                go_region_held3 (fun W => W.cell? ⟨y, 0, none⟩ = some (.int .i64 q.x.tag) ∧ W.cell? ⟨y, 1, none⟩ = some (.slice p.a q.x.vec.length p.c) ∧ W.cell? ⟨y, 2, none⟩ = some (.string q.x.str) ∧ W.cell? ⟨bO, oO + k * 3, none⟩ = some (.int .i64 q.x.tag) ∧ W.cell? ⟨bO, oO + k * 3 + 1, none⟩ = some (.slice q.a q.x.vec.length q.c) ∧ W.cell? ⟨bO, oO + k * 3 + 2, none⟩ = some (.string q.x.str))
                  ((refine HS7.out _ ?_; first | (with_reducible exact Below.refl _ _) | (with_reducible assumption) | (with_reducible exact Below.drew (by with_reducible assumption)) | (with_reducible exact Below.drew (Below.refl _ _)) | (with_reducible exact below_drewN' (by with_reducible assumption) _) | (with_reducible exact below_drewN' (Below.refl _ _) _)))
                  (first
                    | (go_at_call 26; (with_reducible refine (HSM.out _ (by first | (with_reducible exact Below.refl _ _) | (with_reducible assumption) | (with_reducible exact Below.drew (by with_reducible assumption)) | (with_reducible exact Below.drew (Below.refl _ _)) | (with_reducible exact below_drewN' (by with_reducible assumption) _) | (with_reducible exact below_drewN' (Below.refl _ _) _))).mono ?_); rintro e w8 ⟨rfl, hb8⟩))
                have HB8 := Lib.hid (HBB.out _ hb8)
                clear hb8 HBB HSM HS7 p0 p1 p2 a0 a1 a2
                go_wp2_with (fail)
                go_roundg (one.length - (k + 1))
                case measure => omega
                case rel => exact ⟨k + 1, rfl, by omega, by go_num, HB8.out⟩
              · obtain rfl : k = one.length := by omega
                have j1 : ¬ (one.length : Int) < (one.length : Int) := by omega
                have HLX := Lib.hid (HLI.out wr hb5)
                clear hb hb5
                go_wp2_with (fail)
                refine HLX.out.mono ?_
                rintro e w9 ⟨rfl, hb9⟩
                have HE := Lib.hid hb9
                clear hb9 HLX
                go_wp2_with (fail)
                go_ret
                exact ⟨rfl, HE.out⟩
theorem lifted (os : Os) (started : os.Started) (H : Type) (enc : TypeId × Value → H) :
    ReturnsInHanded {} Tryz.checked os 4 .any (Rows.laesaPivotsSpec.pre6 enc Tryz.prog Tryz.f4 Rows.laesaPivotsRow.domain false) (Rows.laesaPivotsSpec.post enc Tryz.prog Tryz.f4 false true false false) := by
  refine lift (C := Tryz.checked) (by kernel_rfl) started (by kernel_rfl) Tryz.func4 rfl (by kernel_rfl) (by kernel_rfl) rfl Tryz.underlying4
    (fun ds hd => by match ds, hd with | [_, _, _], _ => exact ⟨rfl, rfl, rfl⟩)
    (ChangeSpec.witness6 (enc := enc) (C := Tryz.checked) false ⟨#[], #[.agg #[.int .i64 0, .int .i64 0, .int .i64 0, .slice none 0 0], .slice none 0 0, .slice none 0 0], []⟩ 8 (by kernel_rfl) (by kernel_rfl) (by kernel_rfl) (by kernel_rfl)) ?_
  intro W base args ds before hval0 hA0 hfz hsz0
  have hval : ∀ (j : Nat) t v, Tryz.f4.params[j]? = some t → args[j]? = some v → Value.okWide Tryz.prog W .any base t v := hval0
  have hA : DataW.TrodAll enc Tryz.prog W 0 (fun _ => true) true Tryz.f4.params.toList args.toList ds before := hA0
  have hsz : (DataW.weightsEach Tryz.prog Tryz.f4.params.toList ds).all (· ≤ reachBytes) = true := hsz0
  rw [Tryz.params4] at hA hval hsz
  obtain ⟨v0, vs0, d0, ds0, p0, q0, hargs, rfl, rfl, h0, r0⟩ := trodAll_cons hA
  obtain ⟨v1, vs1, d1, ds1, p1, q1, rfl, rfl, rfl, h1, r1⟩ := trodAll_cons r0
  obtain ⟨v2, vs2, d2, ds2, p2, q2, rfl, rfl, rfl, h2, r2⟩ := trodAll_cons r1
  obtain ⟨rfl, rfl, rfl⟩ := trodAll_nil r2
  obtain rfl : args = #[v0, v1, v2] := by cases args; simp_all
  obtain ⟨n, s, m, Aa, an, ac, rfl⟩ := open_run (hval 0 24 v0 rfl rfl) h0
  obtain ⟨A, c, l, rfl, hr, hli, hwf, hbd, hlen⟩ := open_itemsB (hval 1 38 v1 rfl rfl) h1 hsz (j := 1) rfl rfl
  obtain ⟨D, dc, raw, rfl, hd, hdl, hdi⟩ := tab.open_i64s (hval 2 39 v2 rfl rfl) h2 hsz (j := 2) rfl rfl
  exact walk ⟨n, s, m, Aa, an, ac, A, c, l, D, dc, raw⟩ W ⟨flat.Came.sl hr (by decide) iE_len, fun q hq => (hli q hq).1, hbd, hwf, by show (l.length + 1) * 56 ≤ _; omega, hd, by show raw.length ≤ _; omega, hdi⟩

theorem proved : Rows.LaesaPivotsSaid :=
  OpenClaim.holds_of_wide 4 Tryz.f4 rfl rfl rfl rfl rfl rfl rfl ⟨rfl, rfl, rfl, rfl, rfl⟩ rfl rfl rfl rfl rfl (by kernel_rfl) Tryz.func4 (by kernel_rfl)
    (of_decide_eq_true (by kernel_rfl)) (by unfold Func.isWrapper; first | (rw [if_pos (by decide +kernel)]; kernel_rfl) | (rw [if_neg (by decide +kernel)]; exact ⟨rfl, rfl⟩))
    (fun os started H enc _ => lifted os started H enc)
#print axioms proved
end Go.Proofs.YtgbjpobgjmkjgaaGreat.laesaPivots
