/-
  For all metrics, sizes and three things the law MetricHolds returns true, and changes nothing that there was.
-/
import Derived.Test.YtdfakjpchgomdaaAskO
import Derived.Deep.CutRange
import Derived.Deep.DeepCutAuto
import Derived.Deep.RegionHeld3
namespace Go.Proofs.Ytdfakjpchgomdaa.metricHolds
open Go.RowKit law bytes nums ord obj metric
open Go.ChangeShapes Go.WideShapes Go.ChangeAt
set_option linter.unusedVariables false
theorem three_boxes (w : World) (N : Obj) (t : TypeId) (P Q R : Array Value) :
    Below w.heap.size w ((((w.alloc N).alloc (.cells P t)).alloc (.cells Q t)).alloc (.cells R t)).drew ∧ Blk ((((w.alloc N).alloc (.cells P t)).alloc (.cells Q t)).alloc (.cells R t)).drew (w.heap.size + 1) t P ∧
      Blk ((((w.alloc N).alloc (.cells P t)).alloc (.cells Q t)).alloc (.cells R t)).drew (w.heap.size + 1 + 1) t Q ∧ Blk ((((w.alloc N).alloc (.cells P t)).alloc (.cells Q t)).alloc (.cells R t)).drew (w.heap.size + 1 + 1 + 1) t R := by
  have e1 : (w.alloc N).heap.size = w.heap.size + 1 := by simp
  have e2 : ((w.alloc N).alloc (.cells P t)).heap.size = w.heap.size + 1 + 1 := by simp
  have e3 : (((w.alloc N).alloc (.cells P t)).alloc (.cells Q t)).heap.size = w.heap.size + 1 + 1 + 1 := by simp
  refine ⟨((((Below.refl _ w).alloc (Nat.le_refl _) N).alloc (by omega) _).alloc (by omega) _ |>.alloc (by omega) _).drew, ?_, ?_, ?_⟩
  · exact (((e1 ▸ Blk.new (w.alloc N) t P).alloc _).alloc _).drewN 1
  · exact ((e2 ▸ Blk.new ((w.alloc N).alloc (.cells P t)) t Q).alloc _).drewN 1
  · exact (e3 ▸ Blk.new (((w.alloc N).alloc (.cells P t)).alloc (.cells Q t)) t R).drewN 1
/-- what the law asks, of right things that are short enough: each call tells it in every world that left what there was -/
def Law (wc : World) (A1 A2 A3 : Option Addr) (c1 c2 c3 : Nat) (x y z : Thing) (n : Int) : Prop :=
  ∃ (d d2 d3 lo : Int) (sb : Bool),
    (∀ W, Below wc.heap.size wc W → Calls Try.prog 10 #[.int .i64 n, .agg #[.int .i64 x.tag, .slice A1 x.vec.length c1, .string x.str], .agg #[.int .i64 y.tag, .slice A2 y.vec.length c2, .string y.str]] W (Gives (.int .i64 d) W)) ∧
    (∀ W, Below wc.heap.size wc W → Calls Try.prog 10 #[.int .i64 n, .agg #[.int .i64 y.tag, .slice A2 y.vec.length c2, .string y.str], .agg #[.int .i64 x.tag, .slice A1 x.vec.length c1, .string x.str]] W (Gives (.int .i64 d) W)) ∧
    (∀ W, Below wc.heap.size wc W → Calls Try.prog 10 #[.int .i64 n, .agg #[.int .i64 x.tag, .slice A1 x.vec.length c1, .string x.str], .agg #[.int .i64 z.tag, .slice A3 z.vec.length c3, .string z.str]] W (Gives (.int .i64 d2) W)) ∧
    (∀ W, Below wc.heap.size wc W → Calls Try.prog 10 #[.int .i64 n, .agg #[.int .i64 z.tag, .slice A3 z.vec.length c3, .string z.str], .agg #[.int .i64 y.tag, .slice A2 y.vec.length c2, .string y.str]] W (Gives (.int .i64 d3) W)) ∧
    (∀ W, Below wc.heap.size wc W → Calls Try.prog 11 #[.int .i64 n, .agg #[.int .i64 x.tag, .slice A1 x.vec.length c1, .string x.str], .agg #[.int .i64 y.tag, .slice A2 y.vec.length c2, .string y.str]] W (Gives (.int .i64 lo) W)) ∧
    (∀ W, Below wc.heap.size wc W → Calls Try.prog 14 #[.agg #[.int .i64 x.tag, .slice A1 x.vec.length c1, .string x.str], .agg #[.int .i64 y.tag, .slice A2 y.vec.length c2, .string y.str]] W (Gives (.bool sb) W)) ∧
    (d == 0) = sb ∧ decide (d ≥ 0) = true ∧ decide (d ≤ 1125899906842624) = true ∧ decide (d ≤ d2 + d3) = true ∧ decide (lo ≤ d) = true ∧ IntKind.i64.wrap (d2 + d3) = d2 + d3 ∧ wrap64 (d2 + d3) = d2 + d3
def Yes (b : Bool) : Prop := b = true
theorem yes : Yes true := rfl
theorem sameO_iff (x y : Thing) : sameO x y = true ↔ x = y := by
  unfold sameO
  rw [decide_eq_true_eq]
  exact cmpO_tot.zero x y
theorem small_of {x : Thing} (h : shortP 120 x = true) (hO : Okay x) : Small x := by
  obtain ⟨h1, h2⟩ := (shortP_iff 120 x).1 h
  exact ⟨hO.2, by omega, by omega⟩
theorem law_of {w wc : World} {A1 A2 A3 : Option Addr} {c1 c2 c3 : Nat} {x y z : Thing} {n size : Int} (hsl : ∀ W, Below wc.heap.size wc W → Sl W W.heap.size A1 (iv x.vec) ∧ Sl W W.heap.size A2 (iv y.vec) ∧ Sl W W.heap.size A3 (iv z.vec))
    (o1 : Lies w ⟨A1, c1, x⟩) (o2 : Lies w ⟨A2, c2, y⟩) (o3 : Lies w ⟨A3, c3, z⟩) (r1 : rightO x n size = true) (r2 : rightO y n size = true) (r3 : rightO z n size = true) (hs : shortL 120 [⟨A1, c1, x⟩, ⟨A2, c2, y⟩, ⟨A3, c3, z⟩] = true) : Law wc A1 A2 A3 c1 c2 c3 x y z n := by
  simp only [shortL, List.all_cons, List.all_nil, Bool.and_true, Bool.and_eq_true] at hs
  obtain ⟨p1, p2, p3⟩ := hs
  have hx := small_of p1 o1.2
  have hy := small_of p2 o2.2
  have hz := small_of p3 o3.2
  have hn := M_nonneg n x y
  have hn2 := M_nonneg n x z
  have hn3 := M_nonneg n z y
  have ht := M_tri n x y z
  have hl := Lo_le n x y
  have hb2 := M_small (n := n) hx hz
  have hb3 := M_small (n := n) hz hy
  have hz0 := M_zero r1 r2
  have q1 := (shortP_iff 120 x).1 p1
  have q2 := (shortP_iff 120 y).1 p2
  have hle : M n x y ≤ 281474976710656 := M_le hx.1 hy.1 (by omega) (by omega) (by omega) (by omega)
  refine ⟨M n x y, M n x z, M n z y, Lo n x y, sameO x y, fun W hW => mdist_any n A1 A2 c1 c2 x y hx hy W (hsl W hW).1 (hsl W hW).2.1, fun W hW => ?_, fun W hW => mdist_any n A1 A3 c1 c3 x z hx hz W (hsl W hW).1 (hsl W hW).2.2,
    fun W hW => mdist_any n A3 A2 c3 c2 z y hz hy W (hsl W hW).2.2 (hsl W hW).2.1, fun W hW => mleast_any n A1 A2 c1 c2 x y hx hy W (hsl W hW).1 (hsl W hW).2.1, fun W hW => rsame_any A1 A2 c1 c2 _ _ x y W (by have := hx.2.1; omega) (by have := hy.2.1; omega) (Nat.le_refl _) (Nat.le_refl _) (hsl W hW).1 (hsl W hW).2.1,
    ?_, decide_eq_true hn, decide_eq_true (by omega), decide_eq_true ht, decide_eq_true hl, wr64 (by omega) (by omega), lone.w64 _ (by omega)⟩
  · rw [M_symm n x y]
    exact mdist_any n A2 A1 c2 c1 y x hy hx W (hsl W hW).2.1 (hsl W hW).1
  · rw [Bool.eq_iff_iff, beq_iff_eq, hz0, sameO_iff]
def Got (w : World) (x y z : Thing) (A1 A2 A3 : Option Addr) (c1 c2 c3 : Nat) (p1 p2 p3 : Value) (wx : World) : Prop :=
  ∃ b1 b2 b3 : Nat, p1 = .pointer (some ⟨b1, 0, none⟩) ∧ p2 = .pointer (some ⟨b2, 0, none⟩) ∧ p3 = .pointer (some ⟨b3, 0, none⟩) ∧ Below w.heap.size w wx ∧
    Blk wx b1 24 #[.int .i64 x.tag, .slice A1 x.vec.length c1, .string x.str] ∧ Blk wx b2 24 #[.int .i64 y.tag, .slice A2 y.vec.length c2, .string y.str] ∧ Blk wx b3 24 #[.int .i64 z.tag, .slice A3 z.vec.length c3, .string z.str]
set_option maxRecDepth 100000 in
set_option maxHeartbeats 3200000 in
theorem walk0 (A1 A2 A3 : Option Addr) (c1 c2 c3 : Nat) (x y z : Thing) (n size : Int) (w : World) (o1 : Lies w ⟨A1, c1, x⟩) (o2 : Lies w ⟨A2, c2, y⟩) (o3 : Lies w ⟨A3, c3, z⟩) :
    Calls Try.prog 4 #[.int .i64 n, .int .i64 size, .agg #[.int .i64 x.tag, .slice A1 x.vec.length c1, .string x.str, .int .i64 y.tag, .slice A2 y.vec.length c2, .string y.str, .int .i64 z.tag, .slice A3 z.vec.length c3, .string z.str]] w (Gives (.bool true) w) := by
  have hk0 := Blk.new w 34 #[.int .i64 x.tag, .slice A1 x.vec.length c1, .string x.str, .int .i64 y.tag, .slice A2 y.vec.length c2, .string y.str, .int .i64 z.tag, .slice A3 z.vec.length c3, .string z.str]
  have hz0 : (w.alloc (.cells #[.int .i64 x.tag, .slice A1 x.vec.length c1, .string x.str, .int .i64 y.tag, .slice A2 y.vec.length c2, .string y.str, .int .i64 z.tag, .slice A3 z.vec.length c3, .string z.str] 34)).heap.size = w.heap.size + 1 := by simp
  have hb0 : Below w.heap.size w (w.alloc (.cells #[.int .i64 x.tag, .slice A1 x.vec.length c1, .string x.str, .int .i64 y.tag, .slice A2 y.vec.length c2, .string y.str, .int .i64 z.tag, .slice A3 z.vec.length c3, .string z.str] 34)) := box_blk w _ _
  have k0 := hk0.cell 0
  have k1 := hk0.cell 1
  have k2 := hk0.cell 2
  have k3 := hk0.cell 3
  have k4 := hk0.cell 4
  have k5 := hk0.cell 5
  have k6 := hk0.cell 6
  have k7 := hk0.cell 7
  have k8 := hk0.cell 8
  have kf := hk0.frozen
  simp only [List.getElem?_toArray] at k0 k1 k2 k3 k4 k5 k6 k7 k8
  go_enter Try.func4, Try.ntmps4
  go_upto_region 1 with (fail)
  go_cut [7, 8, 9] from 11 (fun p1 p2 p3 wx => Got w x y z A1 A2 A3 c1 c2 c3 p1 p2 p3 wx)
  case first =>
    go_region
    all_goals
      go_wp2_with fail
      go_meet
      refine ⟨_, _, _, rfl, rfl, rfl, (three_boxes w _ _ _ _ _).1, ?_, ?_, ?_⟩
      all_goals first
        | exact (three_boxes w _ _ _ _ _).2.1
        | exact (three_boxes w _ _ _ _ _).2.2.1
        | exact (three_boxes w _ _ _ _ _).2.2.2
  case rest =>
    obtain ⟨b1, b2, b3, rfl, rfl, rfl, hbc, m1, m2, m3⟩ := hcut
    clear k0 k1 k2 k3 k4 k5 k6 k7 k8 kf hk0 hz0 hb0
    have HB := Lib.hid hbc
    have hHeld : ∀ W : World, Below wc.heap.size wc W → (W.cell? ⟨b1, 0, none⟩ = some (.int .i64 x.tag) ∧ W.cell? ⟨b1, 1, none⟩ = some (.slice A1 x.vec.length c1) ∧ W.cell? ⟨b1, 2, none⟩ = some (.string x.str) ∧ W.cell? ⟨b2, 0, none⟩ = some (.int .i64 y.tag) ∧ W.cell? ⟨b2, 1, none⟩ = some (.slice A2 y.vec.length c2) ∧ W.cell? ⟨b2, 2, none⟩ = some (.string y.str) ∧ W.cell? ⟨b3, 0, none⟩ = some (.int .i64 z.tag) ∧ W.cell? ⟨b3, 1, none⟩ = some (.slice A3 z.vec.length c3) ∧ W.cell? ⟨b3, 2, none⟩ = some (.string z.str)) := fun W hW => by
      have h1 := m1.below hW m1.lt
      have h2 := m2.below hW m2.lt
      have h3 := m3.below hW m3.lt
      exact ⟨h1.cell 0, h1.cell 1, h1.cell 2, h2.cell 0, h2.cell 1, h2.cell 2, h3.cell 0, h3.cell 1, h3.cell 2⟩
    have HH := Lib.hid hHeld
    have HX := Lib.hid (fun (W : World) => rright_any A1 c1 x n size W)
    have HY := Lib.hid (fun (W : World) => rright_any A2 c2 y n size W)
    have HZ := Lib.hid (fun (W : World) => rright_any A3 c3 z n size W)
    have HSH : Hid (∀ W : World, Calls Try.prog 6 #[.slice (some ⟨W.heap.size, 0, none⟩) 3 3, .int .i64 120] (W.alloc (.cells #[.int .i64 x.tag, .slice A1 x.vec.length c1, .string x.str, .int .i64 y.tag, .slice A2 y.vec.length c2, .string y.str, .int .i64 z.tag, .slice A3 z.vec.length c3, .string z.str] 24)) fun e w' => e = .returned (.bool (shortL 120 [⟨A1, c1, x⟩, ⟨A2, c2, y⟩, ⟨A3, c3, z⟩])) ∧ (W.alloc (.cells #[.int .i64 x.tag, .slice A1 x.vec.length c1, .string x.str, .int .i64 y.tag, .slice A2 y.vec.length c2, .string y.str, .int .i64 z.tag, .slice A3 z.vec.length c3, .string z.str] 24)) = w') :=
      Lib.hid fun (W : World) => short_any [⟨A1, c1, x⟩, ⟨A2, c2, y⟩, ⟨A3, c3, z⟩] 120 W.heap.size 24 3 _ (Blk.new _ _ _) (by simp)
    have hsl : ∀ W, Below wc.heap.size wc W → Sl W W.heap.size A1 (iv x.vec) ∧ Sl W W.heap.size A2 (iv y.vec) ∧ Sl W W.heap.size A3 (iv z.vec) := fun W hW => by
      have h := hbc.trans (hW.mono hbc.size)
      exact ⟨(o1.1.below h).more h.size, (o2.1.below h).more h.size, (o3.1.below h).more h.size⟩
    have hB0 : Below wc.heap.size wc wc := Below.refl _ _
    obtain ⟨q0, q1, q2, q3, q4, q5, q6, q7, q8⟩ := HH.out wc hB0
    have rx : ∃ r, r = rightO x n size := ⟨_, rfl⟩
    have ry : ∃ r, r = rightO y n size := ⟨_, rfl⟩
    have rz : ∃ r, r = rightO z n size := ⟨_, rfl⟩
    have rs : ∃ r, r = shortL 120 [⟨A1, c1, x⟩, ⟨A2, c2, y⟩, ⟨A3, c3, z⟩] := ⟨_, rfl⟩
    obtain ⟨rx, hrx⟩ := rx
    obtain ⟨ry, hry⟩ := ry
    obtain ⟨rz, hrz⟩ := rz
    obtain ⟨rs, hrs⟩ := rs
    rw [← hrx] at HX
    rw [← hry] at HY
    rw [← hrz] at HZ
    rw [← hrs] at HSH
    have HP : Hid (Yes rx → Yes ry → Yes rz → Yes rs → Law wc A1 A2 A3 c1 c2 c3 x y z n) := Lib.hid fun e1 e2 e3 e4 => law_of hsl o1 o2 o3 (hrx ▸ e1) (hry ▸ e2) (hrz ▸ e3) (hrs ▸ e4)
    clear hrx hry hrz hrs hHeld hbc hsl o1 o2 o3 m1 m2 m3
    go_wp2_with (fail)
    refine (obj.on hB0 (HX.out _)).mono ?_
    rintro e w1 ⟨rfl, hb1⟩
    obtain ⟨q0, q1, q2, q3, q4, q5, q6, q7, q8⟩ := HH.out w1 hb1
    clear hB0
    cases rx
    · go_wp2_with (fail)
      refine (obj.on hb1 (lives_any _)).mono ?_
      rintro e w2 ⟨rfl, hb2⟩
      go_wp2_with (fail)
      go_ret
      exact ⟨rfl, HB.out.trans (hb2.mono HB.out.size)⟩
    go_wp2_with (fail)
    refine (obj.on hb1 (HY.out _)).mono ?_
    rintro e w2 ⟨rfl, hb2⟩
    obtain ⟨q0, q1, q2, q3, q4, q5, q6, q7, q8⟩ := HH.out w2 hb2
    clear hb1
    cases ry
    · go_wp2_with (fail)
      refine (obj.on hb2 (lives_any _)).mono ?_
      rintro e w3 ⟨rfl, hb3⟩
      go_wp2_with (fail)
      go_ret
      exact ⟨rfl, HB.out.trans (hb3.mono HB.out.size)⟩
    go_wp2_with (fail)
    refine (obj.on hb2 (HZ.out _)).mono ?_
    rintro e w3 ⟨rfl, hb3⟩
    obtain ⟨q0, q1, q2, q3, q4, q5, q6, q7, q8⟩ := HH.out w3 hb3
    clear hb2
    cases rz
    · go_wp2_with (fail)
      refine (obj.on hb3 (lives_any _)).mono ?_
      rintro e w4 ⟨rfl, hb4⟩
      go_wp2_with (fail)
      go_ret
      exact ⟨rfl, HB.out.trans (hb4.mono HB.out.size)⟩
    go_wp2_with (fail)
    have hb4 : Below wc.heap.size wc (w3.alloc (.cells #[.int .i64 x.tag, .slice A1 x.vec.length c1, .string x.str, .int .i64 y.tag, .slice A2 y.vec.length c2, .string y.str, .int .i64 z.tag, .slice A3 z.vec.length c3, .string z.str] 24)) := hb3.alloc hb3.size _
    refine (HSH.out w3).mono ?_
    rintro e w4 ⟨rfl, rfl⟩
    obtain ⟨w4, hw4⟩ : ∃ w4, w4 = w3.alloc (.cells #[.int .i64 x.tag, .slice A1 x.vec.length c1, .string x.str, .int .i64 y.tag, .slice A2 y.vec.length c2, .string y.str, .int .i64 z.tag, .slice A3 z.vec.length c3, .string z.str] 24) := ⟨_, rfl⟩
    rw [← hw4] at hb4 ⊢
    obtain ⟨q0, q1, q2, q3, q4, q5, q6, q7, q8⟩ := HH.out w4 hb4
    clear hb3 hw4
    cases rs
    · go_wp2_with (fail)
      refine (obj.on hb4 (lives_any _)).mono ?_
      rintro e w5 ⟨rfl, hb5⟩
      go_wp2_with (fail)
      go_ret
      exact ⟨rfl, HB.out.trans (hb5.mono HB.out.size)⟩
    obtain ⟨d, d2, d3, lo, sb, h1, h2, h3, h4, h5, h6, f1, f2, f3, f4, f5, f6, f6'⟩ := HP.out yes yes yes yes
    have H1 := Lib.hid h1
    have H2 := Lib.hid h2
    have H3 := Lib.hid h3
    have H4 := Lib.hid h4
    have H5 := Lib.hid h5
    have H6 := Lib.hid h6
    clear h1 h2 h3 h4 h5 h6 HX HY HZ HSH HP
    go_wp2_with (fail)
    refine (obj.on hb4 (H1.out w4 hb4)).mono ?_
    rintro e w5 ⟨rfl, hb5⟩
    obtain ⟨q0, q1, q2, q3, q4, q5, q6, q7, q8⟩ := HH.out w5 hb5
    clear hb4
    cases sb
    all_goals
      go_wp2_with (fail)
      go_region_held3 (fun W => W.cell? ⟨b1, 0, none⟩ = some (.int .i64 x.tag) ∧ W.cell? ⟨b1, 1, none⟩ = some (.slice A1 x.vec.length c1) ∧ W.cell? ⟨b1, 2, none⟩ = some (.string x.str) ∧ W.cell? ⟨b2, 0, none⟩ = some (.int .i64 y.tag) ∧ W.cell? ⟨b2, 1, none⟩ = some (.slice A2 y.vec.length c2) ∧ W.cell? ⟨b2, 2, none⟩ = some (.string y.str) ∧ W.cell? ⟨b3, 0, none⟩ = some (.int .i64 z.tag) ∧ W.cell? ⟨b3, 1, none⟩ = some (.slice A3 z.vec.length c3) ∧ W.cell? ⟨b3, 2, none⟩ = some (.string z.str)) ((refine HH.out _ ?_; (first | (with_reducible exact Below.refl _ _) | (with_reducible assumption) | (with_reducible exact Below.drew (by with_reducible assumption)))))
        (first
          | (go_at_call 14; (with_reducible refine (obj.on (by first | with_reducible assumption | with_reducible exact Below.drew (by with_reducible assumption)) (H6.out _ (by first | with_reducible assumption | with_reducible exact Below.drew (by with_reducible assumption)))).mono ?_); rintro e w6 ⟨rfl, hb6⟩)
          | (go_at_call 10; (with_reducible refine (obj.on (by first | with_reducible assumption | with_reducible exact Below.drew (by with_reducible assumption)) (H2.out _ (by first | with_reducible assumption | with_reducible exact Below.drew (by with_reducible assumption)))).mono ?_); rintro e w7 ⟨rfl, hb7⟩)
          | (go_at_call 10; (with_reducible refine (obj.on (by first | with_reducible assumption | with_reducible exact Below.drew (by with_reducible assumption)) (H3.out _ (by first | with_reducible assumption | with_reducible exact Below.drew (by with_reducible assumption)))).mono ?_); rintro e w8 ⟨rfl, hb8⟩)
          | (go_at_call 10; (with_reducible refine (obj.on (by first | with_reducible assumption | with_reducible exact Below.drew (by with_reducible assumption)) (H4.out _ (by first | with_reducible assumption | with_reducible exact Below.drew (by with_reducible assumption)))).mono ?_); rintro e w9 ⟨rfl, hb9⟩)
          | (go_at_call 11; (with_reducible refine (obj.on (by first | with_reducible assumption | with_reducible exact Below.drew (by with_reducible assumption)) (H5.out _ (by first | with_reducible assumption | with_reducible exact Below.drew (by with_reducible assumption)))).mono ?_); rintro e w10 ⟨rfl, hb10⟩)
          | (go_at_call 7; (with_reducible refine (obj.on (by first | with_reducible assumption | with_reducible exact Below.drew (by with_reducible assumption)) (lives_any _)).mono ?_); rintro e w11 ⟨rfl, hb11⟩))
    all_goals
      go_wp2_with (fail)
      go_ret
      exact ⟨rfl, HB.out.trans (hb11.mono HB.out.size)⟩
end Go.Proofs.Ytdfakjpchgomdaa.metricHolds
