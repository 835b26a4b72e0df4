/-
  The contracts of Low, of the document's Low.
-/
import Derived.Test.YtgbjpobgjmkjgaaGreatGPiv
import Derived.Test.YtgbjpobgjmkjgaaGreatLaM
import Derived.Test.YtgbjpobgjmkjgaaGreatBound
namespace Go.Proofs.YtgbjpobgjmkjgaaGreat.lae
open Go.RowKit law bytes only flat nums ord obj metric pv
set_option linter.unusedVariables false

theorem apart_ap (a b : Int) : bound.apart (bound.inn a) (bound.inn b) = ap a b := by
  unfold bound.apart bound.inn ap clip
  omega
theorem lw_le_max : ∀ l m : List Int, lw l m ≤ 1125899906842624
  | [], m => by rw [lw_nil_left]; omega
  | a :: l, [] => by rw [lw_nil_right]; omega
  | a :: l, b :: m => by
    have := lw_le_max l m
    simp only [lw]
    unfold ap clip
    omega
theorem inn_lw (l m : List Int) : bound.inn (lw l m) = lw l m := by
  have h1 := lw_le_max l m
  have h2 := lw_nonneg l m
  unfold bound.inn
  omega
set_option maxRecDepth 100000 in
set_option maxHeartbeats 1600000 in
theorem low_any (A A' : Option Addr) (c c' B B' : Nat) (l m : List Int) (w : World) (hs : Sl w B A (nv l)) (hs' : Sl w B' A' (nv m)) (hl : l.length ≤ 17592186044416) (hm : m.length ≤ 17592186044416) :
    Calls Tryz.prog 33 #[.slice A l.length c, .slice A' m.length c'] w fun e w' => e = .returned (.int .i64 (lw l m)) ∧ Below w.heap.size w w' := by
  have HS := Lib.hid hs
  have HS' := Lib.hid hs'
  have hmin := lw_min l m
  rw [hmin]
  clear hs hs' hmin
  have e0 : min (l.length : Int) (m.length : Int) = ((min l.length m.length : Nat) : Int) := by omega
  obtain ⟨q, hq⟩ : ∃ q, min l.length m.length = q := ⟨_, rfl⟩
  have hql : q ≤ l.length := by omega
  have hqm : q ≤ m.length := by omega
  rw [hq] at e0 ⊢
  clear hq
  go_enter Tryz.func33, Tryz.ntmps33
  go_wp2_with (fail)
  go_loopg [5, 12] q (fun gk s5 s12 wr => ∃ k : Nat, gk = q - k ∧ k ≤ q ∧ s5 = .int .i64 (lw (l.take k) (m.take k)) ∧ s12 = .int .i64 k ∧ Below w.heap.size w wr ∧ Sl wr B A (nv l) ∧ Sl wr B' A' (nv m))
  case atStart => exact ⟨0, rfl, Nat.zero_le _, rfl, rfl, Below.refl _ _, HS.out, HS'.out⟩
  case round =>
    clear HS HS'
    obtain ⟨k, rfl, hk, rfl, rfl, hb, h1, h2⟩ := hrel
    by_cases hlt : k < q
    · obtain ⟨ad, rfl, -, c1⟩ := Sl.num h1 (show k < l.length by omega)
      obtain ⟨ad', rfl, -, c2⟩ := Sl.num h2 (show k < m.length by omega)
      have hst := lw_snoc (l := l) (m := m) (k := k) (List.getElem?_eq_getElem (by omega)) (List.getElem?_eq_getElem (by omega))
      rw [← apart_ap] at hst
      have HST := Lib.hid hst
      clear hst
      generalize l[k] = x at c1 HST
      generalize m[k] = y at c2 HST
      generalize lw (l.take k) (m.take k) = a at HST
      have i1 : (k : Int) < (q : Int) := by omega
      have i2 : (k : Int) < (l.length : Int) := by omega
      have i3 : (k : Int) < (m.length : Int) := by omega
      have HC : Hid (∀ W : World, Calls Tryz.prog 71 #[.int .i64 x, .int .i64 y] W fun e w' => e = .returned (.int .i64 (bound.apart (bound.inn x) (bound.inn y))) ∧ W = w') := Lib.hid fun W => bound.apart_any x y W
      generalize bound.apart (bound.inn x) (bound.inn y) = d at HST HC
      have HB : Hid (∀ n, Below w.heap.size w (wr.drewN n) ∧ Sl (wr.drewN n) B (some ad) (nv l) ∧ Sl (wr.drewN n) B' (some ad') (nv m)) := Lib.hid fun n => ⟨below_drewN' hb n, h1.drewN n, h2.drewN n⟩
      clear h1 h2 hb
      go_wp2_with (fail)
      go_region_held3 (fun W => W.cell? (ad.add k) = some (.int .i64 x) ∧ W.cell? (ad'.add k) = some (.int .i64 y))
        (exact ⟨c1, c2⟩)
        (first | (go_at_call 71; refine (HC.out _).mono ?_; rintro e w2 ⟨rfl, rfl⟩))
      all_goals
        go_wp2_with (fail)
        go_roundg (q - (k + 1))
        case measure => omega
        case rel => exact ⟨k + 1, rfl, by omega, by rw [HST.out], by go_num, (HB.out _).1, (HB.out _).2.1, (HB.out _).2.2⟩
    · obtain rfl : k = q := by omega
      have i1 : ¬ (k : Int) < (k : Int) := by omega
      have HB := Lib.hid hb
      clear h1 h2 hb
      go_wp2_with (fail)
      go_ret
      exact ⟨rfl, HB.out⟩
set_option maxRecDepth 100000 in
set_option maxHeartbeats 1600000 in
theorem rlow_any (A A' : Option Addr) (c c' B B' : Nat) (l m : List Int) (w : World) (hs : Sl w B A (nv l)) (hs' : Sl w B' A' (nv m)) (hl : l.length ≤ 17592186044416) (hm : m.length ≤ 17592186044416) :
    Calls Tryz.prog 34 #[.slice A l.length c, .slice A' m.length c'] w fun e w' => e = .returned (.int .i64 (lw l m)) ∧ Below w.heap.size w w' := by
  have HS := Lib.hid hs
  have HS' := Lib.hid hs'
  have hmin := lw_min l m
  have HMIN := Lib.hid hmin
  clear hs hs' hmin
  go_enter Tryz.func34, Tryz.ntmps34
  go_wp2_with (fail)
  go_loopg [5, 6] (min l.length m.length) (fun gk s5 s6 wr => ∃ k : Nat, gk = min l.length m.length - k ∧ k ≤ min l.length m.length ∧ s5 = .int .i64 (lw (l.take k) (m.take k)) ∧ s6 = .int .i64 k ∧ Below w.heap.size w wr ∧ Sl wr B A (nv l) ∧ Sl wr B' A' (nv m))
  case atStart => exact ⟨0, rfl, Nat.zero_le _, rfl, rfl, Below.refl _ _, HS.out, HS'.out⟩
  case round =>
    clear HS HS'
    obtain ⟨k, rfl, hk, rfl, rfl, hb, h1, h2⟩ := hrel
    by_cases hlt : k < l.length
    · have i1 : (k : Int) < (l.length : Int) := by omega
      by_cases hlt2 : k < m.length
      · obtain ⟨ad, rfl, -, c1⟩ := Sl.num h1 hlt
        obtain ⟨ad', rfl, -, c2⟩ := Sl.num h2 hlt2
        have hst := lw_snoc (l := l) (m := m) (k := k) (List.getElem?_eq_getElem hlt) (List.getElem?_eq_getElem hlt2)
        generalize l[k] = x at c1 hst
        generalize m[k] = y at c2 hst
        obtain ⟨a, ha⟩ : ∃ a, lw (l.take k) (m.take k) = a := ⟨_, rfl⟩
        rw [ha] at hst ⊢
        have i2 : (k : Int) < (m.length : Int) := by omega
        have e1 : IntKind.i64.wrap (clip x - clip y) = clip x - clip y := by rw [IntKind.wrap_i64] <;> unfold clip <;> omega
        have e2 : IntKind.i64.wrap (-(clip x - clip y)) = -(clip x - clip y) := by rw [IntKind.wrap_i64] <;> unfold clip <;> omega
        have e3 : max (max a (clip x - clip y)) (-(clip x - clip y)) = max a (ap x y) := by unfold ap; omega
        rw [← e3] at hst
        have HST := Lib.hid hst
        have HB : Hid (∀ n, Below w.heap.size w (wr.drewN n) ∧ Sl (wr.drewN n) B (some ad) (nv l) ∧ Sl (wr.drewN n) B' (some ad') (nv m)) := Lib.hid fun n => ⟨below_drewN' hb n, h1.drewN n, h2.drewN n⟩
        clear h1 h2 hb hst ha e3
        unfold clip at e1 e2 HST
        go_wp2_with (fail)
        go_region_held3 (fun W => W.cell? (ad.add k) = some (.int .i64 x) ∧ W.cell? (ad'.add k) = some (.int .i64 y))
          (exact ⟨c1, c2⟩)
          (fail)
        all_goals
          go_wp2_with (fail)
        all_goals
          go_roundg (min l.length m.length - (k + 1))
          case measure => omega
          case rel => exact ⟨k + 1, rfl, by omega, by rw [HST.out]; congr 1; omega, by go_num, (HB.out _).1, (HB.out _).2.1, (HB.out _).2.2⟩
      · have hk2 : k = min l.length m.length := by omega
        have HE : Hid (lw (l.take k) (m.take k) = lw l m) := Lib.hid (by rw [HMIN.out, ← hk2])
        have i2 : ¬ (k : Int) < (m.length : Int) := by omega
        have d2 : decide ((k : Int) < (m.length : Int)) = false := decide_eq_false i2
        have HB := Lib.hid hb
        clear h1 h2 hb HMIN hk2
        go_wp2_with (fail)
        go_ret
        rw [HE.out]
        exact ⟨rfl, HB.out⟩
    · have hk2 : k = min l.length m.length := by omega
      have HE : Hid (lw (l.take k) (m.take k) = lw l m) := Lib.hid (by rw [HMIN.out, ← hk2])
      have i1 : ¬ (k : Int) < (l.length : Int) := by omega
      have d2 : decide ((k : Int) < (l.length : Int)) = false := decide_eq_false i1
      have HB := Lib.hid hb
      clear h1 h2 hb HMIN hk2
      go_wp2_with (fail)
      go_ret
      rw [HE.out]
      exact ⟨rfl, HB.out⟩
end Go.Proofs.YtgbjpobgjmkjgaaGreat.lae
