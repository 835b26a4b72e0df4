/-
  The contracts of the law's fars (the document's fars as the program's) and same (rows that read alike).
-/
import Derived.Test.YtikdnpfnijhkkaaFarA
namespace Go.Proofs.Ytikdnpfnijhkkaa.far
open Go.RowKit law bytes only flat hit spl Go.Sort Go.Shelf
set_option linter.unusedVariables false

theorem fv_take (l : List Hit) {k : Nat} (hk : k < l.length) : fv (l.take (k + 1)) = fv (l.take k) ++ [.int .i64 l[k].1, .int .i64 l[k].2] := by
  rw [List.take_succ_eq_append_getElem hk, fv_snoc1]
set_option maxRecDepth 100000 in
set_option maxHeartbeats 3200000 in
theorem fars_any (A : Option Addr) (l : List Hit) (c B : Nat) (w : World) (hm : l.length * 16 ≤ 70368744177664) (hB : B ≤ w.heap.size) (hs : Sl w B A (fv l)) :
    Calls Try.prog 8 #[.slice A l.length c] w (Own 26 l w) := by
  have HN : Hid (∀ W, Below w.heap.size w W → Sl W w.heap.size A (fv l)) := Lib.hid fun W hW => (hs.more hB).below hW
  clear hs
  go_enter Try.func8, Try.ntmps8
  go_wp2_with (fail)
  go_loopg [3, 4] l.length (fun gk s3 s4 wr => ∃ (k c1 : Nat) (A1 : Option Addr), gk = l.length - k ∧ k ≤ l.length ∧ s3 = .slice A1 k c1 ∧ s4 = .int .i64 k ∧ wr.ownsRow w.heap.size 26 2 (.slice A1 k c1) k (fv (l.take k)) ∧ Below w.heap.size w wr)
  case atStart => exact ⟨0, 0, none, rfl, Nat.zero_le _, rfl, rfl, by rw [List.take_zero]; exact World.ownsRow_nil _ _ _ _, Below.refl _ _⟩
  case round =>
    obtain ⟨k, c1, A1, rfl, hk, rfl, rfl, hown, hb⟩ := hrel
    by_cases hlt : k < l.length
    · obtain ⟨b, o, rfl, hb1, hc0, hc1⟩ := Sl.farAt (HN.out wr hb) hlt
      have HT : Hid (fv (l.take (k + 1)) = fv (l.take k) ++ [.int .i64 l[k].1, .int .i64 l[k].2]) := Lib.hid (fv_take l hlt)
      obtain ⟨⟨y1, y2⟩, hy⟩ : ∃ y, l[k] = y := ⟨_, rfl⟩
      have HY : Hid (∀ W, Below w.heap.size w W → W.cell? ⟨b, o + k * 2, none⟩ = some (.int .i64 y1) ∧ W.cell? ⟨b, o + k * 2 + 1, none⟩ = some (.int .i64 y2)) := Lib.hid fun W hW => by
        obtain ⟨b', o', e, _, h0, h1⟩ := Sl.farAt (HN.out W hW) hlt
        injection e with e
        injection e with e1 e2
        subst e1 e2
        rw [hy] at h0 h1
        exact ⟨h0, h1⟩
      rw [hy] at hc0 hc1 HT
      dsimp only at hc0 hc1 HT
      have i1 : (k : Int) < (l.length : Int) := by omega
      have i2 : decide ((l.length : Int) ≤ (k : Int)) = false := decide_eq_false (by omega)
      have i3 : decide (l.length ≤ k) = false := decide_eq_false (by omega)
      have hsz := hb.size
      have HSZ : Hid (w.heap.size ≤ wr.drew.heap.size) := Lib.hid hsz
      have HSZ0 := Lib.hid hsz
      have HB := Lib.hid hb
      clear hy
      go_wp2_with (fail)
      go_region_held3 (fun W => W.cell? ⟨b, o + k * 2, none⟩ = some (.int .i64 y1) ∧ W.cell? ⟨b, o + k * 2 + 1, none⟩ = some (.int .i64 y2))
        ((refine HY.out _ ?_; repeat' (first | (with_reducible assumption) | (with_reducible exact HB.out) | (with_reducible refine Below.drew ?_) | (with_reducible refine below_drewN' ?_ _) | (with_reducible refine Below.alloc ?_ HSZ.out _) | (with_reducible refine Below.alloc ?_ HSZ0.out _))))
        ((refine step_append_slk _ (by rfl) _ _ _ (by rfl) w.heap.size 26 2 16 Try.underlying29 farE (by omega) (.slice A1 k c1) k (fv (l.take k)) (by rfl) (World.ownsRow.alloc (w := wr.drew) hown _) _ _ 1 1 [.int .i64 y1, .int .i64 y2] (by rfl) (Sl.lit wr.drew _ _) rfl (fc_oneOf _ _) (by omega) (by unfold maxLen; omega) (by simp; omega) ?_; intro v4 w4 hown4 hg4 hat4; have hB4 := below_appendK1 (below_drewN' hb 1) hsz _ (wr := wr.drewN 1) hown (Nat.le_refl _) hg4))
      obtain ⟨A4, c4, rfl, hc4⟩ := own_slice hown4
      go_wp2_with (fail)
      go_roundg (l.length - (k + 1))
      case measure => omega
      case rel => exact ⟨k + 1, c4, A4, rfl, by omega, rfl, by go_num, by rw [HT.out]; exact hown4, hB4⟩
    · obtain rfl : k = l.length := by omega
      have i1 : ¬ (l.length : Int) < (l.length : Int) := by omega
      have HF : Hid (Own 26 l w (.returned (.slice A1 l.length c1)) wr) := Lib.hid (Own.mk hown (by rw [List.take_length]) hb)
      clear hown hb
      go_wp2_with (fail)
      go_ret
      exact HF.out

set_option maxRecDepth 100000 in
set_option maxHeartbeats 3200000 in
/-- two rows that read alike are alike -/
theorem same_any (A A' : Option Addr) (l : List Hit) (c c' B B' : Nat) (w : World) (hm : l.length * 16 ≤ 70368744177664) (hB : B ≤ w.heap.size) (hB' : B' ≤ w.heap.size) (hs : Sl w B A (fv l)) (hs' : Sl w B' A' (fv l)) :
    Calls Try.prog 12 #[.slice A l.length c, .slice A' l.length c'] w fun e w' => e = .returned (.bool true) ∧ Below w.heap.size w w' := by
  have HN : Hid (∀ W, Below w.heap.size w W → Sl W w.heap.size A (fv l) ∧ Sl W w.heap.size A' (fv l)) := Lib.hid fun W hW => ⟨(hs.more hB).below hW, (hs'.more hB').below hW⟩
  clear hs hs'
  have d0 : ((l.length : Int) != (l.length : Int)) = false := by simp
  go_enter Try.func12, Try.ntmps12
  go_wp2_with (fail)
  go_loopg [5] l.length (fun gk s5 wr => ∃ k : Nat, gk = l.length - k ∧ k ≤ l.length ∧ s5 = .int .i64 k ∧ Below w.heap.size w wr)
  case atStart => exact ⟨0, rfl, Nat.zero_le _, rfl, Below.refl _ _⟩
  case round =>
    obtain ⟨k, rfl, hk, rfl, hb⟩ := hrel
    by_cases hlt : k < l.length
    · obtain ⟨s1, s2⟩ := HN.out wr hb
      obtain ⟨b, o, rfl, hb1, hc0, hc1⟩ := Sl.farAt s1 hlt
      obtain ⟨b', o', rfl, hb2, hd0, hd1⟩ := Sl.farAt s2 hlt
      obtain ⟨⟨x, y⟩, hx⟩ : ∃ x, l[k] = x := ⟨_, rfl⟩
      rw [hx] at hc0 hc1 hd0 hd1
      dsimp only at hc0 hc1 hd0 hd1
      have i1 : (k : Int) < (l.length : Int) := by omega
      have i2 : decide ((l.length : Int) ≤ (k : Int)) = false := decide_eq_false (by omega)
      have i3 : decide (l.length ≤ k) = false := decide_eq_false (by omega)
      have d1 : (x != x) = false := by simp
      have d2 : (y != y) = false := by simp
      have d3 : (x == x) = true := by simp
      have d4 : (y == y) = true := by simp
      have HB := Lib.hid hb
      clear s1 s2 hx hb
      go_wp2_with (fail)
      go_quiet (fail)
      go_wp2_with (fail)
      go_roundg (l.length - (k + 1))
      case measure => omega
      case rel => exact ⟨k + 1, rfl, by omega, by go_num, below_drewN' HB.out _⟩
    · obtain rfl : k = l.length := by omega
      have i1 : ¬ (l.length : Int) < (l.length : Int) := by omega
      have HB := Lib.hid hb
      clear hb
      go_wp2_with (fail)
      go_ret
      exact ⟨rfl, HB.out⟩
end Go.Proofs.Ytikdnpfnijhkkaa.far
