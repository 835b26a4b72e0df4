/-
  The contract of the document's Unlike.
-/
import Derived.Test.YtikdnpfnijhkkaaFarR
namespace Go.Proofs.Ytikdnpfnijhkkaa.far
open Go.RowKit law bytes only flat hit spl Go.Sort Go.Shelf
set_option linter.unusedVariables false

set_option maxRecDepth 100000 in
set_option maxHeartbeats 3200000 in
theorem unlike_any (A : Option Addr) (l : List Hit) (c B : Nat) (w : World) (hm : l.length * 16 ≤ 70368744177664) (hB : B ≤ w.heap.size) (hs : Sl w B A (fv l)) :
    Calls Try.prog 5 #[.slice A l.length c] w fun e w' => e = .returned (.bool (unlike l)) ∧ Below w.heap.size w w' := by
  have HN : Hid (∀ W, Below w.heap.size w W → Sl W w.heap.size A (fv l)) := Lib.hid fun W hW => (hs.more hB).below hW
  obtain ⟨u, hu⟩ : ∃ u, unlike l = u := ⟨_, rfl⟩
  rw [hu]
  have HU := Lib.hid hu
  clear hs hu
  go_enter Try.func5, Try.ntmps5
  go_wp2_with (fail)
  go_loopg [3] l.length (fun gk s3 wr => ∃ (i : Nat), gk = l.length - i ∧ i ≤ l.length ∧ s3 = .int .i64 i ∧ Un l i 0 ∧ Below w.heap.size w wr)
  case atStart => exact ⟨0, rfl, Nat.zero_le _, rfl, Un.start l, Below.refl _ _⟩
  case round =>
    obtain ⟨i, rfl, hi, rfl, hun, hb⟩ := hrel
    by_cases hlt : i < l.length
    · obtain ⟨b, o, rfl, hb1, hcells⟩ := Sl.far (HN.out wr hb) (by omega)
      obtain ⟨⟨x1, x2⟩, hx⟩ : ∃ x, l[i] = x := ⟨_, rfl⟩
      have HX := Lib.hid hx
      have i1 : (i : Int) < (l.length : Int) := by omega
      have i3 : decide (l.length ≤ i) = false := decide_eq_false (by omega)
      have i4 : decide ((l.length : Int) ≤ (i : Int)) = false := decide_eq_false (by omega)
      have HI := Lib.hid (And.intro hun hb)
      clear hun hb hcells hx
      obtain ⟨w0, hw0⟩ : ∃ w0, w0 = wr := ⟨_, rfl⟩
      subst hw0
      go_wp2_with (fail)
      go_loopg [4] i (fun gk s4 wv => ∃ (k : Nat), gk = i - k ∧ k ≤ i ∧ s4 = .int .i64 k ∧ Un l i k ∧ Below w.heap.size w wv)
      case atStart => exact ⟨0, rfl, Nat.zero_le _, rfl, HI.out.1, HI.out.2⟩
      case round =>
        clear HI
        obtain ⟨k, rfl, hk, rfl, hun, hb⟩ := hrel
        by_cases hlk : k < i
        · obtain ⟨b2, o2, hA2, hb2, hcells⟩ := Sl.far (HN.out wr hb) (by omega)
          injection hA2 with hA2
          injection hA2 with e1 e2
          subst e1 e2
          obtain ⟨hc0, -⟩ := hcells i hlt
          obtain ⟨hd0, -⟩ := hcells k (by omega)
          obtain ⟨⟨y1, y2⟩, hy⟩ : ∃ y, (l[k]'(by omega)) = y := ⟨_, rfl⟩
          rw [HX.out] at hc0
          rw [hy] at hd0
          dsimp only at hc0 hd0
          have j1 : (k : Int) < (i : Int) := by omega
          have j2 : (k : Int) < (l.length : Int) := by omega
          have j3 : decide (l.length ≤ k) = false := decide_eq_false (by omega)
          have j4 : decide ((l.length : Int) ≤ (k : Int)) = false := decide_eq_false (by omega)
          have HUN := Lib.hid hun
          have HB := Lib.hid hb
          have HY := Lib.hid hy
          clear hun hb hy hcells
          by_cases he : x1 = y1
          · have d1 : (x1 == y1) = true := by simpa using he
            have HF : Hid (u = false) := Lib.hid (HU.out.symm.trans (like hlt hlk (by rw [HX.out, HY.out]; exact he)))
            clear he
            go_wp2_with (fail)
            go_quiet (fail)
            go_wp2_with (fail)
            go_ret
            exact ⟨by rw [HF.out]; rfl, below_drewN' HB.out _⟩
          · have d1 : (x1 == y1) = false := by simpa using he
            have HF : Hid (Un l i (k + 1)) := Lib.hid (HUN.out.on hlt hlk (by rw [HX.out, HY.out]; exact he))
            clear he
            go_wp2_with (fail)
            go_quiet (fail)
            go_wp2_with (fail)
            go_roundg (i - (k + 1))
            case measure => omega
            case rel => exact ⟨k + 1, rfl, by omega, by go_num, HF.out, below_drewN' HB.out _⟩
        · obtain rfl : k = i := by omega
          have j1 : ¬ (k : Int) < (k : Int) := by omega
          have HF := Lib.hid (And.intro hun.next hb)
          clear hun hb
          go_wp2_with (fail)
          go_roundg (l.length - (k + 1))
          case measure => omega
          case rel => exact ⟨k + 1, rfl, by omega, by go_num, HF.out.1, HF.out.2⟩
    · obtain rfl : i = l.length := by omega
      have i1 : ¬ (l.length : Int) < (l.length : Int) := by omega
      have HF : Hid (u = true ∧ Below w.heap.size w wr) := Lib.hid ⟨HU.out.symm.trans hun.all, hb⟩
      clear hun hb
      go_wp2_with (fail)
      go_ret
      exact ⟨by rw [HF.out.1]; rfl, HF.out.2⟩
end Go.Proofs.Ytikdnpfnijhkkaa.far
