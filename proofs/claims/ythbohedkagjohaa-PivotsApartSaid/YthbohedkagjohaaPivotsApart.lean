/-
  For all metrics, numbers, first places and things the law PivotsApart returns true, and changes nothing that there was. No condition.
-/
import Derived.Test.YthbohedkagjohaaPvO
import Derived.Deep.RegionHeld3
namespace Go.Proofs.Ythbohedkagjohaa.pivotsApart
open Go.RowKit law bytes only flat nums ord obj metric pv
open Go.ChangeShapes Go.WideShapes Go.Deep Go.ChangeAt
set_option linter.unusedVariables false
set_option maxRecDepth 100000

/-- the argument's box, a meter not asked yet -/
structure StM (w W : World) (d : Dat) (g : Nat) : Prop where
  pre : Pre w W d
  mt : Mt W g d.n 0
  gl : w.heap.size < g
section
variable {w W W' : World} {d : Dat} {g c1 : Nat} {A1 : Option Addr} {cs : List Int}
theorem StM.on (h : StM w W d g) (o : Below W.heap.size W W') : StM w W' d g := ⟨h.pre.on o, h.mt.below o h.mt.lt, h.gl⟩
theorem StM.drew (h : StM w W d g) : StM w W.drew d g := h.on ((Below.refl _ _).drew)
theorem StM.drewN (h : StM w W d g) (n : Nat) : StM w (W.drewN n) d g := h.on (below_drewN' (Below.refl _ _) n)
/-- the argument's box, the row of those that are chosen -/
structure St (w W : World) (d : Dat) (A1 : Option Addr) (c1 : Nat) (cs : List Int) : Prop where
  pre : Pre w W d
  own : W.ownsRow w.heap.size 3 1 (.slice A1 cs.length c1) cs.length (nv cs)
theorem St.on (h : St w W d A1 c1 cs) (o : Below W.heap.size W W') : St w W' d A1 c1 cs := ⟨h.pre.on o, own_below h.own o (Nat.le_refl _)⟩
theorem St.drew (h : St w W d A1 c1 cs) : St w W.drew d A1 c1 cs := h.on ((Below.refl _ _).drew)
theorem St.drewN (h : St w W d A1 c1 cs) (n : Nat) : St w (W.drewN n) d A1 c1 cs := h.on (below_drewN' (Below.refl _ _) n)
theorem St.cell {b : Nat} (h : St w W d (some ⟨b, 0, none⟩) c1 cs) {i : Nat} (hi : i < cs.length) : W.cell? ⟨b, i, none⟩ = some (.int .i64 cs[i]) := Rw.cell (base := w.heap.size) h.own hi
end
/-- what the law says of two that are chosen, and of each thing -/
structure Says (w : World) (d : Dat) (A1 : Option Addr) (c1 : Nat) (cs : List Int) (m q : Nat) (v : Int) : Prop where
  len : cs.length = m + 1
  pos : 0 < m
  le : cs.length ≤ 40
  lastq : cs[m]? = some (q : Int)
  ql : q < d.l.length
  near : ∀ W, St w W d A1 c1 cs → ∀ x, d.l[q]? = some x → Calls Try.prog 13 #[.int .i64 d.n, .slice d.A d.l.length d.c, .slice A1 m c1, oW x] W fun e w' => e = .returned (.int .i64 v) ∧ St w w' d A1 c1 cs
  two : ∀ (i k : Nat), k < i → i < cs.length → ∃ a b : Nat, ∃ x y : At, ∃ u : Int, cs[i]? = some (a : Int) ∧ cs[k]? = some (b : Int) ∧ a < d.l.length ∧ b < d.l.length ∧ d.l[a]? = some x ∧ d.l[b]? = some y ∧ ¬ u < v ∧
    ∀ W, St w W d A1 c1 cs → Calls Try.prog 15 #[.int .i64 d.n, oW x, oW y] W fun e w' => e = .returned (.int .i64 u) ∧ St w w' d A1 c1 cs
  all : ∀ (i : Nat) (x : At), d.l[i]? = some x → ∃ u : Int, ¬ u > v ∧ ∀ W, St w W d A1 c1 cs → Calls Try.prog 13 #[.int .i64 d.n, .slice d.A d.l.length d.c, .slice A1 cs.length c1, oW x] W fun e w' => e = .returned (.int .i64 u) ∧ St w w' d A1 c1 cs
theorem says_of {w : World} {d : Dat} (hy : Hyp w d) (hb : Brief d.l) (hl : d.l.length ≤ 40) {cs : List Int} (hc : chs (dt d.n d.l) U63 d.l d.p d.f = cs) (h2 : ¬ cs.length < 2) (A1 : Option Addr) (c1 : Nat) : ∃ m q v, Says w d A1 c1 cs m q v := by
  have hon : Once (dt d.n d.l) d.l cs := by rw [← hc]; exact chs_once (dt_self d.n d.l) d.p d.f
  have hap : Apt (dt d.n d.l) U63 d.l cs := by rw [← hc]; exact chs_apart d.p d.f
  have hlen := hon.len
  rcases hap with rfl | ⟨v, hap⟩
  · simp at h2
  have hin : ∀ {i : Nat} (hi : i < cs.length), ∃ a : Nat, cs[i] = (a : Int) ∧ a < d.l.length := fun {i} hi => by
    obtain ⟨h1, h2⟩ := hon.low _ (List.getElem_mem hi)
    exact ⟨cs[i].toNat, by omega, by omega⟩
  have h63 : ∀ c : Int, ∀ x ∈ d.l, dt d.n d.l c x ≤ U63 := fun c x hx => Int.le_trans (hb.dt_le d.n c hx) (by decide)
  have h50 : ∀ c : Int, ∀ x ∈ d.l, dt d.n d.l c x ≤ U50 := fun c x hx => Int.le_trans (hb.dt_le d.n c hx) (by decide)
  have hnear : ∀ (W : World) (ch : List Int) (A2 : Option Addr) (x : At), x ∈ d.l → ch ≠ [] → ch.length ≤ 40 → (∀ c ∈ ch, 0 ≤ c ∧ c < (d.l.length : Int)) → St w W d A1 c1 cs → Sl W W.heap.size A2 (nv ch) → Calls Try.prog 13 #[.int .i64 d.n, .slice d.A d.l.length d.c, .slice A2 ch.length c1, oW x] W fun e w' => e = .returned (.int .i64 (nr (dt d.n d.l) U63 ch x)) ∧ St w w' d A1 c1 cs := fun W ch A2 x hx hne hcl hlow h hs => by
    have hTW := hy.ts (T := fun i => w.heap.size ≤ i) h.pre.low fun i e => e
    have h3 := near_any W _ d.n d.A d.c d.l A2 c1 ch x hTW hs (hTW.vec _ hx).sl (fun y hy => hb.small hy) (hb.small hx) (by omega) (by omega)
    rw [ins_all hlow, nr_start hne (fun c _ => h50 c x hx) (fun c _ => h63 c x hx)] at h3
    exact h3.mono fun e w' ⟨he, hb⟩ => ⟨he, h.on hb⟩
  have hm : cs.length - 1 < cs.length := by omega
  obtain ⟨q, hq, hql⟩ := hin hm
  have hqx : d.l[q]? = some d.l[q] := List.getElem?_eq_getElem hql
  have hgd : cs.getD (cs.length - 1) 0 = (q : Int) := by simp [List.getD, hq, hm]
  have hv := hap.last (by omega) d.l[q] (by rw [hgd, Int.toNat_natCast]; exact hqx)
  have htl : (cs.take (cs.length - 1)).length = cs.length - 1 := by rw [List.length_take]; omega
  refine ⟨cs.length - 1, q, v, by omega, by omega, by omega, by rw [List.getElem?_eq_getElem hm, hq], hql, fun W h x hx => ?_, fun i k hk hi => ?_, fun i x hx => ?_⟩
  · rw [hqx] at hx
    injection hx with hx
    subst hx
    have hs : Sl W W.heap.size A1 (nv (cs.take (cs.length - 1))) := by
      have := (Sl.of_own h.own).take (cs.length - 1)
      unfold nv at this ⊢
      rwa [List.map_take]
    have h3 := hnear W (cs.take (cs.length - 1)) A1 d.l[q] (List.getElem_mem hql) (fun e => by rw [e] at htl; simp at htl; omega) (by omega) (fun c hc => hon.low c (List.mem_of_mem_take hc)) h hs
    rw [← hv, htl] at h3
    exact h3
  · obtain ⟨a, ha, hal⟩ := hin hi
    obtain ⟨b, hb', hbl⟩ := hin (show k < cs.length by omega)
    have hax : d.l[a]? = some d.l[a] := List.getElem?_eq_getElem hal
    have hbx : d.l[b]? = some d.l[b] := List.getElem?_eq_getElem hbl
    refine ⟨a, b, d.l[a], d.l[b], M d.n d.l[a].x d.l[b].x, by rw [List.getElem?_eq_getElem hi, ha], by rw [List.getElem?_eq_getElem (by omega), hb'], hal, hbl, hax, hbx, ?_, fun W h => ?_⟩
    · have h4 := hap.two i k hi hk d.l[a] (by rw [ha, Int.toNat_natCast]; exact hax)
      rw [hb', dt_at d.n hbl, M_symm] at h4
      omega
    · have hTW := hy.ts (T := fun i => w.heap.size ≤ i) h.pre.low fun i e => e
      exact (rdist_any d.n d.l[a].a d.l[b].a d.l[a].c d.l[b].c d.l[a].x d.l[b].x (hb.small (List.getElem_mem hal)) (hb.small (List.getElem_mem hbl)) W (hTW.vec _ (List.getElem_mem hal)).sl (hTW.vec _ (List.getElem_mem hbl)).sl).mono fun e w' ⟨he, hb⟩ => ⟨he, h.on hb⟩
  · have hxm := List.mem_of_getElem? hx
    exact ⟨nr (dt d.n d.l) U63 cs x, by have := hap.all x hxm; omega, fun W h => hnear W cs A1 x hxm (fun e => by rw [e] at h2; simp at h2) (by omega) hon.low h (Sl.of_own h.own)⟩
/-- where the things' cells stand, in every world that left what there was -/
theorem cells_of {w : World} {d : Dat} (h : Hyp w d) (h0 : 0 < d.l.length) : ∃ bb oo, d.A = some ⟨bb, oo, none⟩ ∧ ∀ W, Below w.heap.size w W → ∀ (k : Nat) (x : At), d.l[k]? = some x →
    W.cell? ⟨bb, oo + k * 3, none⟩ = some (.int .i64 x.x.tag) ∧ W.cell? ⟨bb, oo + k * 3 + 1, none⟩ = some (.slice x.a x.x.vec.length x.c) ∧ W.cell? ⟨bb, oo + k * 3 + 2, none⟩ = some (.string x.x.str) := by
  obtain ⟨bb, oo, hA, hbb, -, hc⟩ := (h.ts (T := fun i => w.heap.size ≤ i) (Below.refl _ w) fun i e => e).place h0
  refine ⟨bb, oo, hA, fun W hW k x hx => ?_⟩
  obtain ⟨hk, rfl⟩ := List.getElem?_eq_some_iff.1 hx
  obtain ⟨c0, c1, c2⟩ := hc k hk
  exact ⟨(hW.cell (p := ⟨bb, oo + k * 3, none⟩) hbb).trans c0, (hW.cell (p := ⟨bb, oo + k * 3 + 1, none⟩) hbb).trans c1, (hW.cell (p := ⟨bb, oo + k * 3 + 2, none⟩) hbb).trans c2⟩
theorem St.at_ {w W : World} {d : Dat} {b c1 i a : Nat} {cs : List Int} (h : St w W d (some ⟨b, 0, none⟩) c1 cs) (hi : cs[i]? = some (a : Int)) : W.cell? ⟨b, i, none⟩ = some (.int .i64 (a : Int)) := by
  obtain ⟨hk, e⟩ := List.getElem?_eq_some_iff.1 hi
  rw [← e]
  exact h.cell hk
set_option maxHeartbeats 6400000 in
theorem walk (d : Dat) (w : World) (hy : Hyp w d) : Calls Try.prog 5 #[.agg (aC d)] w (Gives (.bool true) w) := by
  have hp1 := Pre.start w d
  obtain ⟨W1, hW1⟩ : ∃ W1, W1 = w.alloc (.cells (aC d) 24) := ⟨_, rfl⟩
  rw [← hW1] at hp1
  have hsh := rshort_any (fun i => w.heap.size ≤ i) d.A d.l 40 d.c W1 (hy.ts hp1.low fun i e => e) (by have := hy.len; unfold maxLen at this; omega)
  have HL : Hid (∀ W, Pre w W d → Calls Try.prog 7 #[] W fun e w' => e = .returned (.bool true) ∧ Below w.heap.size w w') := Lib.hid fun W h => (lives_any W).mono fun e w' ⟨he, hb⟩ => ⟨he, h.low.trans (hb.mono h.low.size)⟩
  obtain ⟨s, hs⟩ : ∃ s, shortL 40 d.l = s := ⟨_, rfl⟩
  rw [hs] at hsh
  have hrd := hp1.rd
  unfold Rd at hrd
  obtain ⟨r0, r1, r2, r3⟩ := hrd
  have HSH := Lib.hid hsh
  have HY := Lib.hid hy
  have HS := Lib.hid hs
  have HP1 := Lib.hid hp1
  clear hsh hy hs hp1
  unfold aC at *
  go_enter Try.func5, Try.ntmps5
  rw [hW1] at r3
  have HW1 := Lib.hid hW1
  clear hW1
  by_cases h40 : (d.l.length : Int) > 40
  · have d0 : decide ((d.l.length : Int) > 40) = true := decide_eq_true h40
    clear HSH h40
    go_wp2_with (fail)
    rw [← HW1.out]
    refine (HL.out W1 HP1.out).mono ?_
    rintro e w2 ⟨rfl, hb⟩
    have HE := Lib.hid hb
    clear hb
    go_wp2_with (fail)
    go_ret
    exact ⟨rfl, HE.out⟩
  · have d0 : decide ((d.l.length : Int) > 40) = false := decide_eq_false h40
    go_wp2_with (fail)
    rw [← HW1.out]
    refine HSH.out.mono ?_
    rintro e w2 ⟨rfl, rfl⟩
    clear HSH HW1 r0 r1 r2 r3
    obtain ⟨r0, r1, r2, r3⟩ : Rd W1 w.heap.size d := HP1.out.rd
    cases s with
    | false =>
      go_wp2_with (fail)
      refine (HL.out W1 HP1.out).mono ?_
      rintro e w2 ⟨rfl, hb⟩
      have HE := Lib.hid hb
      clear hb
      go_wp2_with (fail)
      go_ret
      exact ⟨rfl, HE.out⟩
    | true =>
      have hbr := brief_40 HY.out HS.out
      have hl40 : d.l.length ≤ 40 := by omega
      obtain ⟨cs, hcs⟩ : ∃ cs, chs (dt d.n d.l) U63 d.l d.p d.f = cs := ⟨_, rfl⟩
      have HN : Hid (∀ W, Pre w W d → Calls Try.prog 8 #[.int .i64 d.n] W fun e w' => ∃ g, e = .returned (.pointer (some ⟨g, 0, none⟩)) ∧ StM w w' d g) := Lib.hid fun W h => (new_any d.n W).mono fun e w2 ⟨he, hm, hb⟩ => ⟨W.heap.size, he, h.on hb, hm, h.size⟩
      have HCH : Hid (∀ g W, StM w W d g → Calls Try.prog 9 #[.pointer (some ⟨g, 0, none⟩), .slice d.A d.l.length d.c, .int .i64 d.p, .int .i64 d.f] W fun e w' => ∃ A1 c1, e = .returned (.slice A1 cs.length c1) ∧ St w w' d A1 c1 cs) := Lib.hid fun g W h =>
        (choose_any W g d.n 0 d.A d.c d.l d.p d.f ⟨HY.out.ts h.pre.low fun i e => by have := h.gl; omega, h.mt, hbr⟩ (by decide) (by omega)).mono fun e w3 hq => by
          rw [hcs] at hq
          obtain ⟨A1, c1, he, ho, hon, hmt⟩ := hq
          exact ⟨A1, c1, he, h.pre.turn h.gl hon, pv.own_base ho h.pre.low.size⟩
      have HRD : Hid (∀ W, Pre w W d → Rd W w.heap.size d) := Lib.hid fun W h => h.rd
      have HSAY : Hid (¬ cs.length < 2 → ∀ A1 c1, ∃ m q v, Says w d A1 c1 cs m q v) := Lib.hid fun h2 A1 c1 => says_of HY.out hbr hl40 hcs h2 A1 c1
      have hpre := HP1.out
      clear hbr hcs h40 d0
      go_wp2_with (fail)
      go_region_held3 (fun W => W.cell? ⟨w.heap.size, 0, none⟩ = some (.int .i64 d.n) ∧ W.cell? ⟨w.heap.size, 1, none⟩ = some (.int .i64 d.p) ∧ W.cell? ⟨w.heap.size, 2, none⟩ = some (.int .i64 d.f) ∧ W.cell? ⟨w.heap.size, 3, none⟩ = some (.slice d.A d.l.length d.c))
        ((refine HRD.out _ ?_; (repeat' (first | (with_reducible assumption) | (with_reducible refine Pre.drew ?_) | (with_reducible refine Pre.drewN ?_ _))); done))
        (first
          | (go_at_call 8; (with_reducible refine (HN.out _ (by (repeat' (first | (with_reducible assumption) | (with_reducible refine Pre.drew ?_) | (with_reducible refine Pre.drewN ?_ _))))).mono ?_); rintro e wx ⟨g, rfl, hq1⟩; have hq1p := hq1.pre)
          | (go_at_call 9; (with_reducible refine (HCH.out g _ (by (repeat' (first | (with_reducible assumption) | (with_reducible refine StM.drew ?_) | (with_reducible refine StM.drewN ?_ _))))).mono ?_); rintro e wx ⟨A1, c1, rfl, hq2⟩; have hq2p := hq2.pre))
      have HST := Lib.hid hq2
      clear hq2 hq2p r0 r1 r2 r3 hpre HN HCH
      by_cases h2 : cs.length < 2
      · have i1 : (cs.length : Int) < 2 := by omega
        clear h2 HSAY
        go_wp2_with (fail)
        refine (HL.out _ HST.out.pre).mono ?_
        rintro e w2 ⟨rfl, hb⟩
        have HE := Lib.hid hb
        clear hb
        go_wp2_with (fail)
        go_ret
        exact ⟨rfl, HE.out⟩
      · obtain ⟨m, q, v, hsy⟩ := HSAY.out h2 A1 c1
        have hpos : 0 < cs.length := by omega
        obtain ⟨b, c', hfo, -, -, hcap⟩ := own_form HST.out.own hpos
        injection hfo with e1 e2 e3
        subst e1 e3
        have hcc : cs.length ≤ c1 := own_cap HST.out.own
        obtain ⟨bb, oo, hA, hcells⟩ := cells_of HY.out (Nat.lt_of_le_of_lt (Nat.zero_le _) hsy.ql)
        have HC := Lib.hid hcells
        have HSY := Lib.hid hsy
        have i1 : ¬ (cs.length : Int) < 2 := by omega
        have hml := hsy.len
        have hle := hsy.le
        obtain ⟨wy, hwy⟩ : ∃ wy, wy = wx := ⟨_, rfl⟩
        rw [← hwy] at HST ⊢
        clear hwy
        have i0 : IntKind.i64.wrap ((cs.length : Int) - 1) = (m : Int) := by rw [IntKind.wrap_i64]; omega
        have i2 : (m : Int) < (cs.length : Int) := by omega
        have i3 : (q : Int) < (d.l.length : Int) := by have := hsy.ql; omega
        have i4 : (m : Int) ≤ (c1 : Int) := by omega
        have i5 : m ≤ c1 := by omega
        have hqx : d.l[q]? = some (d.l[q]'hsy.ql) := List.getElem?_eq_getElem hsy.ql
        obtain ⟨x, hx⟩ : ∃ x, d.l[q]'hsy.ql = x := ⟨_, rfl⟩
        rw [hx] at hqx
        obtain ⟨q0, q1, q2⟩ := hcells _ HST.out.pre.low q x hqx
        have c0 := HST.out.at_ hsy.lastq
        obtain ⟨r0, r1, r2, r3⟩ := HST.out.pre.rd
        rw [hA] at r3
        have hnq := fun W (h : St w W d (some ⟨b, 0, none⟩) c1 cs) => hsy.near W h x hqx
        rw [hA] at hnq
        unfold oW at hnq
        have HNQ := Lib.hid hnq
        have HSS : Hid (∀ W, St w W d (some ⟨b, 0, none⟩) c1 cs → W.cell? ⟨w.heap.size, 0, none⟩ = some (.int .i64 d.n) ∧ W.cell? ⟨w.heap.size, 3, none⟩ = some (.slice (some ⟨bb, oo, none⟩) d.l.length d.c) ∧ W.cell? ⟨b, m, none⟩ = some (.int .i64 (q : Int)) ∧ W.cell? ⟨bb, oo + q * 3, none⟩ = some (.int .i64 x.x.tag) ∧ W.cell? ⟨bb, oo + q * 3 + 1, none⟩ = some (.slice x.a x.x.vec.length x.c) ∧ W.cell? ⟨bb, oo + q * 3 + 2, none⟩ = some (.string x.x.str)) := Lib.hid fun W h => by
          obtain ⟨r0, -, -, r3⟩ := h.pre.rd
          rw [hA] at r3
          exact ⟨r0, r3, h.at_ hsy.lastq, hcells _ h.pre.low q x hqx⟩
        have HA := Lib.hid hA
        have hst := HST.out
        clear hnq hA hqx hx hml h2 hsy hcells hcc HSAY hcap
        go_wp2_with (fail)
        go_region_held3 (fun W => W.cell? ⟨w.heap.size, 0, none⟩ = some (.int .i64 d.n) ∧ W.cell? ⟨w.heap.size, 3, none⟩ = some (.slice (some ⟨bb, oo, none⟩) d.l.length d.c) ∧ W.cell? ⟨b, m, none⟩ = some (.int .i64 (q : Int)) ∧ W.cell? ⟨bb, oo + q * 3, none⟩ = some (.int .i64 x.x.tag) ∧ W.cell? ⟨bb, oo + q * 3 + 1, none⟩ = some (.slice x.a x.x.vec.length x.c) ∧ W.cell? ⟨bb, oo + q * 3 + 2, none⟩ = some (.string x.x.str))
          ((refine HSS.out _ ?_; (repeat' (first | (with_reducible assumption) | (with_reducible refine St.drew ?_) | (with_reducible refine St.drewN ?_ _))); done))
          ((go_at_call 13; (with_reducible refine (HNQ.out _ (by (repeat' (first | (with_reducible assumption) | (with_reducible refine St.drew ?_) | (with_reducible refine St.drewN ?_ _))))).mono ?_); rintro e w2 ⟨rfl, xE⟩))
        have HS2 := Lib.hid xE
        clear xE HNQ HSS HST hst r0 r1 r2 r3 q0 q1 q2 c0 i0 i2 i3 i4 i5
        go_wp2_with (fail)
        go_loopg [5] cs.length (fun gk s5 wr => ∃ i : Nat, gk = cs.length - i ∧ i ≤ cs.length ∧ s5 = .int .i64 i ∧ St w wr d (some ⟨b, 0, none⟩) c1 cs)
        case atStart => exact ⟨0, rfl, Nat.zero_le _, rfl, HS2.out⟩
        case round =>
          clear HS2
          obtain ⟨i, rfl, hi, rfl, hst⟩ := hrel
          by_cases hlt : i < cs.length
          · have j1 : (i : Int) < (cs.length : Int) := by omega
            have HSI := Lib.hid hst
            clear hst
            go_wp2_with (fail)
            go_loopg [6] i (fun gk s6 wr => ∃ k : Nat, gk = i - k ∧ k ≤ i ∧ s6 = .int .i64 k ∧ St w wr d (some ⟨b, 0, none⟩) c1 cs)
            case atStart => exact ⟨0, rfl, Nat.zero_le _, rfl, HSI.out⟩
            case round =>
              clear HSI
              obtain ⟨k, rfl, hk, rfl, hst⟩ := hrel
              by_cases hkl : k < i
              · have j2 : (k : Int) < (i : Int) := by omega
                have j3 : (k : Int) < (cs.length : Int) := by omega
                obtain ⟨a, bq, x, y, u, ha, hb, hal, hbl, hax, hbx, huv, hcall⟩ := HSY.out.two i k hkl hlt
                have j4 : (a : Int) < (d.l.length : Int) := by omega
                have j5 : (bq : Int) < (d.l.length : Int) := by omega
                have d1 : decide (u < v) = false := decide_eq_false huv
                have c0 := hst.at_ ha
                have c2 := hst.at_ hb
                obtain ⟨q0, q1, q2⟩ := HC.out _ hst.pre.low a x hax
                obtain ⟨p0, p1, p2⟩ := HC.out _ hst.pre.low bq y hbx
                obtain ⟨r0, r1, r2, r3⟩ := hst.pre.rd
                rw [HA.out] at r3
                unfold oW at hcall
                have HNQ := Lib.hid hcall
                have HSS : Hid (∀ W, St w W d (some ⟨b, 0, none⟩) c1 cs → W.cell? ⟨w.heap.size, 0, none⟩ = some (.int .i64 d.n) ∧ W.cell? ⟨w.heap.size, 3, none⟩ = some (.slice (some ⟨bb, oo, none⟩) d.l.length d.c) ∧ W.cell? ⟨b, i, none⟩ = some (.int .i64 (a : Int)) ∧ W.cell? ⟨b, k, none⟩ = some (.int .i64 (bq : Int)) ∧ W.cell? ⟨bb, oo + a * 3, none⟩ = some (.int .i64 x.x.tag) ∧ W.cell? ⟨bb, oo + a * 3 + 1, none⟩ = some (.slice x.a x.x.vec.length x.c) ∧ W.cell? ⟨bb, oo + a * 3 + 2, none⟩ = some (.string x.x.str) ∧ W.cell? ⟨bb, oo + bq * 3, none⟩ = some (.int .i64 y.x.tag) ∧ W.cell? ⟨bb, oo + bq * 3 + 1, none⟩ = some (.slice y.a y.x.vec.length y.c) ∧ W.cell? ⟨bb, oo + bq * 3 + 2, none⟩ = some (.string y.x.str)) := Lib.hid fun W h => by
                  obtain ⟨r0, -, -, r3⟩ := h.pre.rd
                  rw [HA.out] at r3
                  obtain ⟨q0, q1, q2⟩ := HC.out _ h.pre.low a x hax
                  exact ⟨r0, r3, h.at_ ha, h.at_ hb, q0, q1, q2, HC.out _ h.pre.low bq y hbx⟩
                clear hcall ha hb hal hbl hax hbx huv
                go_wp2_with (fail)
                go_region_held3 (fun W => W.cell? ⟨w.heap.size, 0, none⟩ = some (.int .i64 d.n) ∧ W.cell? ⟨w.heap.size, 3, none⟩ = some (.slice (some ⟨bb, oo, none⟩) d.l.length d.c) ∧ W.cell? ⟨b, i, none⟩ = some (.int .i64 (a : Int)) ∧ W.cell? ⟨b, k, none⟩ = some (.int .i64 (bq : Int)) ∧ W.cell? ⟨bb, oo + a * 3, none⟩ = some (.int .i64 x.x.tag) ∧ W.cell? ⟨bb, oo + a * 3 + 1, none⟩ = some (.slice x.a x.x.vec.length x.c) ∧ W.cell? ⟨bb, oo + a * 3 + 2, none⟩ = some (.string x.x.str) ∧ W.cell? ⟨bb, oo + bq * 3, none⟩ = some (.int .i64 y.x.tag) ∧ W.cell? ⟨bb, oo + bq * 3 + 1, none⟩ = some (.slice y.a y.x.vec.length y.c) ∧ W.cell? ⟨bb, oo + bq * 3 + 2, none⟩ = some (.string y.x.str))
                  ((refine HSS.out _ ?_; (repeat' (first | (with_reducible assumption) | (with_reducible refine St.drew ?_) | (with_reducible refine St.drewN ?_ _))); done))
                  ((go_at_call 15; (with_reducible refine (HNQ.out _ (by (repeat' (first | (with_reducible assumption) | (with_reducible refine St.drew ?_) | (with_reducible refine St.drewN ?_ _))))).mono ?_); rintro e w5 ⟨rfl, xE⟩))
                have XE := Lib.hid xE
                clear xE HNQ HSS hst r0 r1 r2 r3 q0 q1 q2 p0 p1 p2 c0 c2
                go_wp2_with (fail)
                go_roundg (i - (k + 1))
                case measure => omega
                case rel => exact ⟨k + 1, rfl, by omega, by go_num, XE.out⟩
              · obtain rfl : k = i := by omega
                have j2 : ¬ (k : Int) < (k : Int) := by omega
                have XE := Lib.hid hst
                clear hst
                go_wp2_with (fail)
                go_roundg (cs.length - (k + 1))
                case measure => omega
                case rel => exact ⟨k + 1, rfl, by omega, by go_num, XE.out⟩
          · obtain rfl : i = cs.length := by omega
            have j1 : ¬ (cs.length : Int) < (cs.length : Int) := by omega
            have HSI := Lib.hid hst
            obtain ⟨r0, r1, r2, r3⟩ := hst.pre.rd
            rw [HA.out] at r3
            clear hst
            go_wp2_with (fail)
            go_loopg [7] d.l.length (fun gk s7 wr => ∃ i : Nat, gk = d.l.length - i ∧ i ≤ d.l.length ∧ s7 = .int .i64 i ∧ St w wr d (some ⟨b, 0, none⟩) c1 cs)
            case atStart => exact ⟨0, rfl, Nat.zero_le _, rfl, HSI.out⟩
            case round =>
              clear HSI r0 r1 r2 r3
              obtain ⟨i, rfl, hi, rfl, hst⟩ := hrel
              obtain ⟨r0, r1, r2, r3⟩ := hst.pre.rd
              rw [HA.out] at r3
              by_cases hlt : i < d.l.length
              · have j2 : (i : Int) < (d.l.length : Int) := by omega
                have hax : d.l[i]? = some d.l[i] := List.getElem?_eq_getElem hlt
                obtain ⟨x, hx⟩ : ∃ x, d.l[i] = x := ⟨_, rfl⟩
                rw [hx] at hax
                obtain ⟨u, huv, hcall⟩ := HSY.out.all i x hax
                have d1 : decide (u > v) = false := decide_eq_false huv
                obtain ⟨q0, q1, q2⟩ := HC.out _ hst.pre.low i x hax
                rw [HA.out] at hcall
                unfold oW at hcall
                have HNQ := Lib.hid hcall
                have HSS : Hid (∀ W, St w W d (some ⟨b, 0, none⟩) c1 cs → W.cell? ⟨w.heap.size, 0, none⟩ = some (.int .i64 d.n) ∧ W.cell? ⟨w.heap.size, 3, none⟩ = some (.slice (some ⟨bb, oo, none⟩) d.l.length d.c) ∧ W.cell? ⟨bb, oo + i * 3, none⟩ = some (.int .i64 x.x.tag) ∧ W.cell? ⟨bb, oo + i * 3 + 1, none⟩ = some (.slice x.a x.x.vec.length x.c) ∧ W.cell? ⟨bb, oo + i * 3 + 2, none⟩ = some (.string x.x.str)) := Lib.hid fun W h => by
                  obtain ⟨r0, -, -, r3⟩ := h.pre.rd
                  rw [HA.out] at r3
                  exact ⟨r0, r3, HC.out _ h.pre.low i x hax⟩
                clear hcall hax hx huv
                go_wp2_with (fail)
                go_region_held3 (fun W => W.cell? ⟨w.heap.size, 0, none⟩ = some (.int .i64 d.n) ∧ W.cell? ⟨w.heap.size, 3, none⟩ = some (.slice (some ⟨bb, oo, none⟩) d.l.length d.c) ∧ W.cell? ⟨bb, oo + i * 3, none⟩ = some (.int .i64 x.x.tag) ∧ W.cell? ⟨bb, oo + i * 3 + 1, none⟩ = some (.slice x.a x.x.vec.length x.c) ∧ W.cell? ⟨bb, oo + i * 3 + 2, none⟩ = some (.string x.x.str))
                  ((refine HSS.out _ ?_; (repeat' (first | (with_reducible assumption) | (with_reducible refine St.drew ?_) | (with_reducible refine St.drewN ?_ _))); done))
                  ((go_at_call 13; (with_reducible refine (HNQ.out _ (by (repeat' (first | (with_reducible assumption) | (with_reducible refine St.drew ?_) | (with_reducible refine St.drewN ?_ _))))).mono ?_); rintro e w5 ⟨rfl, xE⟩))
                have XE := Lib.hid xE
                clear xE HNQ HSS hst r0 r1 r2 r3 q0 q1 q2
                go_wp2_with (fail)
                go_roundg (d.l.length - (i + 1))
                case measure => omega
                case rel => exact ⟨i + 1, rfl, by omega, by go_num, XE.out⟩
              · obtain rfl : i = d.l.length := by omega
                have j2 : ¬ (d.l.length : Int) < (d.l.length : Int) := by omega
                have HLL := Lib.hid (HL.out _ hst.pre)
                clear hst
                go_wp2_with (fail)
                refine HLL.out.mono ?_
                rintro e w7 ⟨rfl, hb⟩
                have HE := Lib.hid hb
                clear hb HLL
                go_wp2_with (fail)
                go_ret
                exact ⟨rfl, HE.out⟩

theorem lifted (os : Os) (started : os.Started) (H : Type) (enc : TypeId × Value → H) :
    ReturnsInHanded {} Try.checked os 5 .any (Rows.pivotsApartSpec.pre6 enc Try.prog Try.f5 Rows.pivotsApartRow.domain false) (Rows.pivotsApartSpec.post enc Try.prog Try.f5 false true false false) := by
  refine lift (C := Try.checked) (by kernel_rfl) started (by kernel_rfl) Try.func5 rfl (by kernel_rfl) (by kernel_rfl) rfl Try.underlying4
    (fun ds hd => by match ds, hd with | [_], _ => exact ⟨rfl, rfl, rfl⟩)
    (ChangeSpec.witness6 (enc := enc) (C := Try.checked) false ⟨#[], #[.agg #[.int .i64 0, .int .i64 0, .int .i64 0, .slice none 0 0]], []⟩ 8 (by kernel_rfl) (by kernel_rfl) (by kernel_rfl) (by kernel_rfl)) ?_
  intro W base args ds before hval0 hA0 hfz hsz0
  have hval : ∀ (j : Nat) t v, Try.f5.params[j]? = some t → args[j]? = some v → Value.okWide Try.prog W .any base t v := hval0
  have hA : DataW.TrodAll enc Try.prog W 0 (fun _ => true) true Try.f5.params.toList args.toList ds before := hA0
  have hsz : (DataW.weightsEach Try.prog Try.f5.params.toList ds).all (· ≤ reachBytes) = true := hsz0
  rw [Try.params5] at hA hval hsz
  obtain ⟨v0, vs0, d0, ds0, p0, q0, hargs, rfl, rfl, h0, r0⟩ := trodAll_cons hA
  obtain ⟨rfl, rfl, rfl⟩ := trodAll_nil r0
  obtain rfl : args = #[v0] := by cases args; simp_all
  obtain ⟨a, rfl, hy⟩ := open_ask (hval 0 24 v0 rfl rfl) h0
  exact walk a W hy

theorem proved : Rows.PivotsApartSaid :=
  OpenClaim.holds_of_wide 5 Try.f5 rfl rfl rfl rfl rfl rfl rfl ⟨rfl, rfl, rfl, rfl, rfl⟩ rfl rfl rfl rfl rfl (by kernel_rfl) Try.func5 (by kernel_rfl)
    (of_decide_eq_true (by kernel_rfl)) (by unfold Func.isWrapper; first | (rw [if_pos (by decide +kernel)]; kernel_rfl) | (rw [if_neg (by decide +kernel)]; exact ⟨rfl, rfl⟩))
    (fun os started H enc _ => lifted os started H enc)
#print axioms proved
end Go.Proofs.Ythbohedkagjohaa.pivotsApart
