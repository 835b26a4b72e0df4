/-
  The contract of split.Bounds.
-/
import Derived.Test.YtikdnpfnijhkkaaFarA
import Derived.Lib.MinMax
namespace Go.Proofs.Ytikdnpfnijhkkaa.far
open Go.RowKit law bytes only flat hit spl Go.Sort Go.Shelf
set_option linter.unusedVariables false

theorem bnd_is {l : List Hit} (h : 0 < l.length) : bnd l = (lo l[0].2 l, hi l[0].2 l) := by
  match l, h with
  | y :: t, _ => rfl
/-- two ints that come back -/
def Ints (p : Int × Int) (w : World) (e : Ending) (w' : World) : Prop := e = .returned (.tuple #[.int .i64 p.1, .int .i64 p.2]) ∧ Below w.heap.size w w'
set_option maxRecDepth 100000 in
set_option maxHeartbeats 3200000 in
theorem bounds_any (A : Option Addr) (l : List Hit) (c B : Nat) (w : World) (hm : l.length * 16 ≤ 70368744177664) (hB : B ≤ w.heap.size) (hs : Sl w B A (fv l)) :
    Calls Try.prog 13 #[.slice A l.length c] w (Ints (bnd l) w) := by
  have HN : Hid (∀ W, Below w.heap.size w W → Sl W w.heap.size A (fv l)) := Lib.hid fun W hW => (hs.more hB).below hW
  by_cases h0 : l.length = 0
  · obtain rfl := List.eq_nil_of_length_eq_zero h0
    clear hs HN h0 hm
    go_enter Try.func13, Try.ntmps13
    go_wp2_with (fail)
    refine bodyPost_ret (v := .tuple #[.int .i64 1, .int .i64 0]) (by simp [results, Try.results13, go_sem]) rfl ?_
    exact ⟨rfl, Below.refl _ _⟩
  · have hpos : 0 < l.length := by omega
    have d0 : ((l.length : Int) == 0) = false := by rw [beq_eq_false_iff_ne]; omega
    obtain ⟨b, o, rfl, hb1, hcells⟩ := Sl.far hs hpos
    obtain ⟨hc0, hc1⟩ := hcells 0 hpos
    obtain ⟨d, hd⟩ : ∃ d, l[0].2 = d := ⟨_, rfl⟩
    have HP : Hid (bnd l = (lo d l, hi d l)) := Lib.hid (by rw [← hd]; exact bnd_is hpos)
    rw [hd] at hc1
    have c1 : w.cell? ⟨b, o + 1, none⟩ = some (.int .i64 d) := by simpa using hc1
    have i0 : (0 : Int) < (l.length : Int) := by omega
    have i2 : decide ((l.length : Int) ≤ 0) = false := decide_eq_false (by omega)
    have i3 : decide (l.length ≤ 0) = false := decide_eq_false (by omega)
    clear hs hcells hc0 hd h0
    go_enter Try.func13, Try.ntmps13
    go_wp2_with (fail)
    go_quiet (fail)
    obtain ⟨V, hV⟩ : ∃ V, V = w.drewN nq := ⟨_, rfl⟩
    have HB0 : Hid (Below w.heap.size w V) := Lib.hid (by rw [hV]; exact below_drewN' (Below.refl _ _) _)
    rw [← hV]
    clear hV c1 hc1
    go_wp2_with (fail)
    go_loopg [4, 5, 21] l.length (fun gk s4 s5 s21 wr => ∃ (k : Nat) (p q : Int), gk = l.length - k ∧ k ≤ l.length ∧ s4 = .int .i64 p ∧ s5 = .int .i64 q ∧ s21 = .int .i64 k ∧ p = lo d (l.take k) ∧ q = hi d (l.take k) ∧ Below w.heap.size w wr)
    case atStart => exact ⟨0, d, d, rfl, Nat.zero_le _, rfl, rfl, rfl, rfl, rfl, HB0.out⟩
    case round =>
      obtain ⟨k, p, q, rfl, hk, rfl, rfl, rfl, hp, hq, hb⟩ := hrel
      by_cases hlt : k < l.length
      · obtain ⟨b2, o2, hA2, hb2, hc0, hc1⟩ := Sl.farAt (HN.out wr hb) hlt
        injection hA2 with hA2
        injection hA2 with e1 e2
        subst e1 e2
        have HT : Hid (lo d (l.take (k + 1)) = min p l[k].2 ∧ hi d (l.take (k + 1)) = max q l[k].2) := Lib.hid ⟨by rw [lo_step hlt, hp], by rw [hi_step hlt, hq]⟩
        obtain ⟨⟨y1, y2⟩, hy⟩ : ∃ y, l[k] = y := ⟨_, rfl⟩
        rw [hy] at hc0 hc1 HT
        dsimp only at hc0 hc1 HT
        have i1 : (k : Int) < (l.length : Int) := by omega
        have HB : Hid (Below w.heap.size w (wr.alloc (.cells #[.int .i64 y1, .int .i64 y2] 26))) := Lib.hid (hb.alloc hb.size _)
        clear hy hp hq hb
        go_wp2_with (fail)
        go_region
        all_goals
          go_wp2_with (fail)
          go_roundg (l.length - (k + 1))
          case measure => omega
          case rel => exact ⟨k + 1, min p y2, max q y2, rfl, by omega, rfl, rfl, by go_num, HT.out.1.symm, HT.out.2.symm, by first | exact HB.out | exact below_drewN' HB.out 1⟩
      · obtain rfl : k = l.length := by omega
        have i1 : ¬ (l.length : Int) < (l.length : Int) := by omega
        have HF : Hid (Ints (bnd l) w (.returned (.tuple #[.int .i64 p, .int .i64 q])) wr) := Lib.hid (by
          rw [List.take_length] at hp hq
          rw [HP.out, ← hp, ← hq]
          exact ⟨rfl, hb⟩)
        clear hp hq hb
        go_wp2_with (fail)
        refine bodyPost_ret (v := .tuple #[.int .i64 p, .int .i64 q]) (by simp [results, Try.results13, go_sem]) rfl ?_
        exact HF.out
end Go.Proofs.Ytikdnpfnijhkkaa.far
