/-
  For all asks the law MetricTells returns true, and changes nothing that there was.
-/
import Derived.Test.YtdfakjpchgomdaaAskO
namespace Go.Proofs.Ytdfakjpchgomdaa.metricTells
open Go.RowKit law bytes nums ord obj metric
open Go.ChangeShapes Go.WideShapes Go.ChangeAt
set_option linter.unusedVariables false

theorem small_of {x : Thing} (h : shortP 120 x = true) (hO : Okay x) : Small x := by
  obtain ⟨h1, h2⟩ := (shortP_iff 120 x).1 h
  exact ⟨hO.2, by omega, by omega⟩
set_option maxRecDepth 100000 in
set_option maxHeartbeats 3200000 in
theorem walkNo (A A' : Option Addr) (c c' : Nat) (x y : Thing) (n most : Int) (up : Bool) (w : World) (hs : shortL 120 [⟨A, c, x⟩, ⟨A', c', y⟩] = false) :
    Calls Try.prog 3 #[.agg #[.int .i64 n, .int .i64 x.tag, .slice A x.vec.length c, .string x.str, .int .i64 y.tag, .slice A' y.vec.length c', .string y.str, .int .i64 most, .bool up]] w (Gives (.bool true) w) := by
  have hb0 : Below w.heap.size w (w.alloc (.cells #[.int .i64 n, .int .i64 x.tag, .slice A x.vec.length c, .string x.str, .int .i64 y.tag, .slice A' y.vec.length c', .string y.str, .int .i64 most, .bool up] 26)) := box_blk w _ _
  have hk0 := Blk.new w 26 #[.int .i64 n, .int .i64 x.tag, .slice A x.vec.length c, .string x.str, .int .i64 y.tag, .slice A' y.vec.length c', .string y.str, .int .i64 most, .bool up]
  have hz0 : (w.alloc (.cells #[.int .i64 n, .int .i64 x.tag, .slice A x.vec.length c, .string x.str, .int .i64 y.tag, .slice A' y.vec.length c', .string y.str, .int .i64 most, .bool up] 26)).heap.size = w.heap.size + 1 := by simp
  have hS := short_any [⟨A, c, x⟩, ⟨A', c', y⟩] 120 (w.heap.size + 1) 24 2 ((w.alloc (.cells #[.int .i64 n, .int .i64 x.tag, .slice A x.vec.length c, .string x.str, .int .i64 y.tag, .slice A' y.vec.length c', .string y.str, .int .i64 most, .bool up] 26)).alloc (.cells #[.int .i64 x.tag, .slice A x.vec.length c, .string x.str, .int .i64 y.tag, .slice A' y.vec.length c', .string y.str] 24)) (hz0 ▸ Blk.new _ _ _) (by simp)
  rw [hs] at hS
  have HS : Hid (Calls Try.prog 6 #[.slice (some ⟨w.heap.size + 1, 0, none⟩) 2 2, .int .i64 120] ((w.alloc (.cells #[.int .i64 n, .int .i64 x.tag, .slice A x.vec.length c, .string x.str, .int .i64 y.tag, .slice A' y.vec.length c', .string y.str, .int .i64 most, .bool up] 26)).alloc (.cells #[.int .i64 x.tag, .slice A x.vec.length c, .string x.str, .int .i64 y.tag, .slice A' y.vec.length c', .string y.str] 24)) fun e w' => e = .returned (.bool false) ∧ ((w.alloc (.cells #[.int .i64 n, .int .i64 x.tag, .slice A x.vec.length c, .string x.str, .int .i64 y.tag, .slice A' y.vec.length c', .string y.str, .int .i64 most, .bool up] 26)).alloc (.cells #[.int .i64 x.tag, .slice A x.vec.length c, .string x.str, .int .i64 y.tag, .slice A' y.vec.length c', .string y.str] 24)) = w') := Lib.hid hS
  have hb1 : Below w.heap.size w ((w.alloc (.cells #[.int .i64 n, .int .i64 x.tag, .slice A x.vec.length c, .string x.str, .int .i64 y.tag, .slice A' y.vec.length c', .string y.str, .int .i64 most, .bool up] 26)).alloc (.cells #[.int .i64 x.tag, .slice A x.vec.length c, .string x.str, .int .i64 y.tag, .slice A' y.vec.length c', .string y.str] 24)) := hb0.alloc (by simp) _
  have HB := Lib.hid hb1
  have cf := hk0.frozen
  clear hS hs hb0 hk0 hz0 hb1
  go_enter Try.func3, Try.ntmps3
  go_wp2_with (fail)
  refine HS.out.mono ?_
  rintro e w1 ⟨rfl, rfl⟩
  go_wp2_with (fail)
  refine (lives_any _).mono ?_
  rintro e w2 ⟨rfl, hb2⟩
  go_wp2_with (fail)
  go_ret
  exact ⟨rfl, HB.out.trans (hb2.mono HB.out.size)⟩
set_option maxRecDepth 100000 in
set_option maxHeartbeats 3200000 in
theorem walkYes (A A' : Option Addr) (c c' : Nat) (x y : Thing) (n most : Int) (up : Bool) (w : World) (hx : Small x) (hy : Small y) (s1 : Sl w w.heap.size A (iv x.vec)) (s2 : Sl w w.heap.size A' (iv y.vec)) (hs : shortL 120 [⟨A, c, x⟩, ⟨A', c', y⟩] = true) :
    Calls Try.prog 3 #[.agg #[.int .i64 n, .int .i64 x.tag, .slice A x.vec.length c, .string x.str, .int .i64 y.tag, .slice A' y.vec.length c', .string y.str, .int .i64 most, .bool up]] w (Gives (.bool true) w) := by
  have hb0 : Below w.heap.size w (w.alloc (.cells #[.int .i64 n, .int .i64 x.tag, .slice A x.vec.length c, .string x.str, .int .i64 y.tag, .slice A' y.vec.length c', .string y.str, .int .i64 most, .bool up] 26)) := box_blk w _ _
  have hk0 := Blk.new w 26 #[.int .i64 n, .int .i64 x.tag, .slice A x.vec.length c, .string x.str, .int .i64 y.tag, .slice A' y.vec.length c', .string y.str, .int .i64 most, .bool up]
  have hz0 : (w.alloc (.cells #[.int .i64 n, .int .i64 x.tag, .slice A x.vec.length c, .string x.str, .int .i64 y.tag, .slice A' y.vec.length c', .string y.str, .int .i64 most, .bool up] 26)).heap.size = w.heap.size + 1 := by simp
  obtain ⟨V, hV⟩ : ∃ V, V = ((w.alloc (.cells #[.int .i64 n, .int .i64 x.tag, .slice A x.vec.length c, .string x.str, .int .i64 y.tag, .slice A' y.vec.length c', .string y.str, .int .i64 most, .bool up] 26)).alloc (.cells #[.int .i64 x.tag, .slice A x.vec.length c, .string x.str, .int .i64 y.tag, .slice A' y.vec.length c', .string y.str] 24)) := ⟨_, rfl⟩
  have hS := short_any [⟨A, c, x⟩, ⟨A', c', y⟩] 120 (w.heap.size + 1) 24 2 V (hV ▸ hz0 ▸ Blk.new _ _ _) (by simp)
  rw [hs] at hS
  have HSH : Hid (Calls Try.prog 6 #[.slice (some ⟨w.heap.size + 1, 0, none⟩) 2 2, .int .i64 120] V fun e w' => e = .returned (.bool true) ∧ V = w') := Lib.hid hS
  have hb : Below w.heap.size w V := by rw [hV]; exact hb0.alloc (by simp) _
  have hk : Blk V w.heap.size 26 #[.int .i64 n, .int .i64 x.tag, .slice A x.vec.length c, .string x.str, .int .i64 y.tag, .slice A' y.vec.length c', .string y.str, .int .i64 most, .bool up] := by rw [hV]; exact hk0.alloc _
  have k0 := hk0.cell 0
  have k1 := hk0.cell 1
  have k2 := hk0.cell 2
  have k3 := hk0.cell 3
  have k4 := hk0.cell 4
  have k5 := hk0.cell 5
  have k6 := hk0.cell 6
  have kf := hk0.frozen
  simp only [List.getElem?_toArray] at k0 k1 k2 k3 k4 k5 k6
  have hsl : ∀ W, Below V.heap.size V W → Sl W W.heap.size A (iv x.vec) ∧ Sl W W.heap.size A' (iv y.vec) := fun W hW => by
    have h := hb.trans (hW.mono hb.size)
    exact ⟨(s1.below h).more h.size, (s2.below h).more h.size⟩
  have hD : ∀ W, Below V.heap.size V W → Calls Try.prog 10 #[.int .i64 n, .agg #[.int .i64 x.tag, .slice A x.vec.length c, .string x.str], .agg #[.int .i64 y.tag, .slice A' y.vec.length c', .string y.str]] W (Gives (.int .i64 (M n x y)) W) := fun W hW => mdist_any n A A' c c' x y hx hy W (hsl W hW).1 (hsl W hW).2
  have hR : ∀ W, Below V.heap.size V W → Calls Try.prog 8 #[.int .i64 n, .agg #[.int .i64 x.tag, .slice A x.vec.length c, .string x.str], .agg #[.int .i64 y.tag, .slice A' y.vec.length c', .string y.str]] W (Gives (.int .i64 (M n x y)) W) := fun W hW => rdist_any n A A' c c' x y hx hy W (hsl W hW).1 (hsl W hW).2
  have hU : ∀ W, Below V.heap.size V W → Calls Try.prog 9 #[.int .i64 n, .agg #[.int .i64 x.tag, .slice A x.vec.length c, .string x.str], .agg #[.int .i64 y.tag, .slice A' y.vec.length c', .string y.str], .int .i64 most] W (Gives (.tuple #[.int .i64 (ups (M n x y) most), .bool (decide (M n x y ≤ most))]) W) := fun W hW => mupto_any n A A' c c' x y hx hy W (hsl W hW).1 (hsl W hW).2 most
  have hL : ∀ W, Below V.heap.size V W → Calls Try.prog 11 #[.int .i64 n, .agg #[.int .i64 x.tag, .slice A x.vec.length c, .string x.str], .agg #[.int .i64 y.tag, .slice A' y.vec.length c', .string y.str]] W (Gives (.int .i64 (Lo n x y)) W) := fun W hW => mleast_any n A A' c c' x y hx hy W (hsl W hW).1 (hsl W hW).2
  have hQ : ∀ W, Below V.heap.size V W → Calls Try.prog 12 #[.int .i64 n, .agg #[.int .i64 x.tag, .slice A x.vec.length c, .string x.str], .agg #[.int .i64 y.tag, .slice A' y.vec.length c', .string y.str]] W (Gives (.int .i64 (Lo n x y)) W) := fun W hW => rleast_any n A A' c c' x y hx hy W (hsl W hW).1 (hsl W hW).2
  generalize Lo n x y = l at hL hQ
  have hup : ups (M n x y) most = if M n x y ≤ most then M n x y else 0 := rfl
  generalize M n x y = d at hD hR hU hup
  generalize hu : ups d most = u at hU hup
  have hHeld : ∀ W : World, Below V.heap.size V W → (W.cell? ⟨w.heap.size, 0, none⟩ = some (.int .i64 n) ∧ W.cell? ⟨w.heap.size, 1, none⟩ = some (.int .i64 x.tag) ∧ W.cell? ⟨w.heap.size, 2, none⟩ = some (.slice A x.vec.length c) ∧ W.cell? ⟨w.heap.size, 3, none⟩ = some (.string x.str) ∧ W.cell? ⟨w.heap.size, 4, none⟩ = some (.int .i64 y.tag) ∧ W.cell? ⟨w.heap.size, 5, none⟩ = some (.slice A' y.vec.length c') ∧ W.cell? ⟨w.heap.size, 6, none⟩ = some (.string y.str) ∧ W.cell? ⟨w.heap.size, 7, none⟩ = some (.int .i64 most)) := fun W hW => by
    have h := hk.below hW hk.lt
    exact ⟨h.cell 0, h.cell 1, h.cell 2, h.cell 3, h.cell 4, h.cell 5, h.cell 6, h.cell 7⟩
  have HH := Lib.hid hHeld
  have HB := Lib.hid hb
  have HD := Lib.hid hD
  have HR := Lib.hid hR
  have HU := Lib.hid hU
  have HL := Lib.hid hL
  have HQ := Lib.hid hQ
  have HUP := Lib.hid hup
  clear hHeld hD hR hU hL hQ hup hu hb hb0 hk0 hz0 hk hS hs hsl hx hy s1 s2
  go_enter Try.func3, Try.ntmps3
  go_wp2_with (fail)
  rw [← hV]
  clear hV k0 k1 k2 k3 k4 k5 k6 kf
  refine HSH.out.mono ?_
  rintro e w1 ⟨rfl, rfl⟩
  have hB0 : Below V.heap.size V V := Below.refl _ _
  obtain ⟨q0, q1, q2, q3, q4, q5, q6, q7⟩ := HH.out V hB0
  generalize w.heap.size = g at HH q0 q1 q2 q3 q4 q5 q6 q7 ⊢
  go_wp2_with (fail)
  refine (obj.on hB0 (HR.out V hB0)).mono ?_
  rintro e w1 ⟨rfl, hb1⟩
  obtain ⟨q0, q1, q2, q3, q4, q5, q6, q7⟩ := HH.out w1 hb1
  go_wp2_with (fail)
  refine (obj.on hb1 (HU.out w1 hb1)).mono ?_
  rintro e w2 ⟨rfl, hb2⟩
  obtain ⟨q0, q1, q2, q3, q4, q5, q6, q7⟩ := HH.out w2 hb2
  clear hB0
  by_cases hm : d ≤ most
  · have HU2 : Hid (u = d) := Lib.hid (by rw [HUP.out, if_pos hm])
    rw [HU2.out]
    have dm : decide (d ≤ most) = true := decide_eq_true hm
    clear hm
    go_wp2_with (fail)
    go_region_held3 (fun W => W.cell? ⟨g, 0, none⟩ = some (.int .i64 n) ∧ W.cell? ⟨g, 1, none⟩ = some (.int .i64 x.tag) ∧ W.cell? ⟨g, 2, none⟩ = some (.slice A x.vec.length c) ∧ W.cell? ⟨g, 3, none⟩ = some (.string x.str) ∧ W.cell? ⟨g, 4, none⟩ = some (.int .i64 y.tag) ∧ W.cell? ⟨g, 5, none⟩ = some (.slice A' y.vec.length c') ∧ W.cell? ⟨g, 6, none⟩ = some (.string y.str) ∧ W.cell? ⟨g, 7, none⟩ = some (.int .i64 most)) ((refine HH.out _ ?_; (first | (with_reducible exact Below.refl _ _) | (with_reducible assumption) | (with_reducible exact Below.drew (by with_reducible assumption)))))
      (first
        | (go_at_call 10; (with_reducible refine (obj.on (by first | with_reducible assumption | with_reducible exact Below.drew (by with_reducible assumption)) (HD.out _ (by first | with_reducible assumption | with_reducible exact Below.drew (by with_reducible assumption)))).mono ?_); rintro e w3 ⟨rfl, hb3⟩)
        | (go_at_call 11; (with_reducible refine (obj.on (by first | with_reducible assumption | with_reducible exact Below.drew (by with_reducible assumption)) (HL.out _ (by first | with_reducible assumption | with_reducible exact Below.drew (by with_reducible assumption)))).mono ?_); rintro e w4 ⟨rfl, hb4⟩)
        | (go_at_call 12; (with_reducible refine (obj.on (by first | with_reducible assumption | with_reducible exact Below.drew (by with_reducible assumption)) (HQ.out _ (by first | with_reducible assumption | with_reducible exact Below.drew (by with_reducible assumption)))).mono ?_); rintro e w5 ⟨rfl, hb5⟩)
        | (go_at_call 7; (with_reducible refine (obj.on (by first | with_reducible assumption | with_reducible exact Below.drew (by with_reducible assumption)) (lives_any _)).mono ?_); rintro e w6 ⟨rfl, hb6⟩))
    all_goals
      go_wp2_with (fail)
      go_ret
      exact ⟨rfl, HB.out.trans (hb6.mono HB.out.size)⟩
  · have HU2 : Hid (u = 0) := Lib.hid (by rw [HUP.out, if_neg hm])
    rw [HU2.out]
    have dm : decide (d ≤ most) = false := decide_eq_false hm
    clear hm
    go_wp2_with (fail)
    go_region_held3 (fun W => W.cell? ⟨g, 0, none⟩ = some (.int .i64 n) ∧ W.cell? ⟨g, 1, none⟩ = some (.int .i64 x.tag) ∧ W.cell? ⟨g, 2, none⟩ = some (.slice A x.vec.length c) ∧ W.cell? ⟨g, 3, none⟩ = some (.string x.str) ∧ W.cell? ⟨g, 4, none⟩ = some (.int .i64 y.tag) ∧ W.cell? ⟨g, 5, none⟩ = some (.slice A' y.vec.length c') ∧ W.cell? ⟨g, 6, none⟩ = some (.string y.str) ∧ W.cell? ⟨g, 7, none⟩ = some (.int .i64 most)) ((refine HH.out _ ?_; (first | (with_reducible exact Below.refl _ _) | (with_reducible assumption) | (with_reducible exact Below.drew (by with_reducible assumption)))))
      (first
        | (go_at_call 10; (with_reducible refine (obj.on (by first | with_reducible assumption | with_reducible exact Below.drew (by with_reducible assumption)) (HD.out _ (by first | with_reducible assumption | with_reducible exact Below.drew (by with_reducible assumption)))).mono ?_); rintro e w3 ⟨rfl, hb3⟩)
        | (go_at_call 11; (with_reducible refine (obj.on (by first | with_reducible assumption | with_reducible exact Below.drew (by with_reducible assumption)) (HL.out _ (by first | with_reducible assumption | with_reducible exact Below.drew (by with_reducible assumption)))).mono ?_); rintro e w4 ⟨rfl, hb4⟩)
        | (go_at_call 12; (with_reducible refine (obj.on (by first | with_reducible assumption | with_reducible exact Below.drew (by with_reducible assumption)) (HQ.out _ (by first | with_reducible assumption | with_reducible exact Below.drew (by with_reducible assumption)))).mono ?_); rintro e w5 ⟨rfl, hb5⟩)
        | (go_at_call 7; (with_reducible refine (obj.on (by first | with_reducible assumption | with_reducible exact Below.drew (by with_reducible assumption)) (lives_any _)).mono ?_); rintro e w6 ⟨rfl, hb6⟩))
    all_goals
      go_wp2_with (fail)
      go_ret
      exact ⟨rfl, HB.out.trans (hb6.mono HB.out.size)⟩
theorem walk (q : metric.Ask) (w : World) (h1 : Lies w q.x) (h2 : Lies w q.y) : Calls Try.prog 3 #[.agg (ac q).toArray] w (Gives (.bool true) w) := by
  obtain ⟨n, ⟨A, c, x⟩, ⟨A', c', y⟩, most, up⟩ := q
  by_cases hs : shortL 120 [⟨A, c, x⟩, ⟨A', c', y⟩] = true
  · have h := hs
    simp only [shortL, List.all_cons, List.all_nil, Bool.and_true, Bool.and_eq_true] at h
    exact walkYes A A' c c' x y n most up w (small_of h.1 h1.2) (small_of h.2 h2.2) h1.1 h2.1 hs
  · exact walkNo A A' c c' x y n most up w (by simpa using hs)

theorem lifted (os : Os) (started : os.Started) (H : Type) (enc : TypeId × Value → H) :
    ReturnsInHanded {} Try.checked os 3 .any (Rows.metricTellsSpec.pre6 enc Try.prog Try.f3 Rows.metricTellsRow.domain false) (Rows.metricTellsSpec.post enc Try.prog Try.f3 false true false false) := by
  refine lift (C := Try.checked) (by kernel_rfl) started (by kernel_rfl) Try.func3 rfl (by kernel_rfl) (by kernel_rfl) rfl Try.underlying4
    (fun ds hd => by match ds, hd with | [_], _ => exact ⟨rfl, rfl, rfl⟩)
    (ChangeSpec.witness6 (enc := enc) (C := Try.checked) false ⟨#[], #[.agg #[.int .i64 0, .int .i64 0, .slice none 0 0, .string ⟨#[]⟩, .int .i64 0, .slice none 0 0, .string ⟨#[]⟩, .int .i64 0, .bool false]], []⟩ 8 (by kernel_rfl) (by kernel_rfl) (by kernel_rfl) (by kernel_rfl)) ?_
  intro W base args ds before hval0 hA0 hfz hsz
  have hval : ∀ (j : Nat) t v, Try.f3.params[j]? = some t → args[j]? = some v → Value.okWide Try.prog W .any base t v := hval0
  have hA : DataW.TrodAll enc Try.prog W 0 (fun _ => true) true Try.f3.params.toList args.toList ds before := hA0
  rw [Try.params3] at hA hval
  obtain ⟨v0, vs0, d0, ds0, p0, q0, hargs, rfl, rfl, h0, r0⟩ := trodAll_cons hA
  obtain ⟨rfl, rfl, rfl⟩ := trodAll_nil r0
  obtain rfl : args = #[v0] := by cases args; simp_all
  obtain ⟨cs, rfl, hcs⟩ := okWide_struct Try.underlying26 (hval 0 26 v0 rfl rfl)
  obtain ⟨fuel, hf⟩ := h0
  have k : ∀ (fuel : Nat) (cs : List Value) (y : DataW H × List MemPlace), DataW.trod enc Try.prog W 0 (fun _ => true) true fuel 24 cs = some y → ∃ p : At, cs = oc p ∧ Lies W p := fun fuel cs y h =>
    cells_obj Try.underlying24 (by kernel_rfl) (by kernel_rfl) Try.underlying3 Try.underlying22 Try.underlying21 (by kernel_rfl) Try.underlying9 h
  obtain ⟨q, hq, l1, l2⟩ := cells_ask Try.underlying26 (by kernel_rfl) (by kernel_rfl) (by kernel_rfl) Try.underlying3 Try.underlying3 Try.underlying4 k k hf
  have e : cs = (ac q).toArray := by
    rw [← hq]
    simp [Value.cells]
  rw [e]
  exact walk q W l1 l2

theorem proved : Rows.MetricTellsSaid :=
  OpenClaim.holds_of_wide 3 Try.f3 rfl rfl rfl rfl rfl rfl rfl ⟨rfl, rfl, rfl, rfl, rfl⟩ rfl rfl rfl rfl rfl (by kernel_rfl) Try.func3 (by kernel_rfl)
    (of_decide_eq_true (by kernel_rfl)) (by unfold Func.isWrapper; first | (rw [if_pos (by decide +kernel)]; kernel_rfl) | (rw [if_neg (by decide +kernel)]; exact ⟨rfl, rfl⟩))
    (fun os started H enc _ => lifted os started H enc)
#print axioms proved
end Go.Proofs.Ytdfakjpchgomdaa.metricTells
