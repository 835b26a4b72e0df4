/-
  The document's own rows of items: the contract of Same at rows of the same things.
-/
import Derived.Test.YtaickhhbdbbmjaaStT
import Derived.Test.YtaickhhbdbbmjaaStI
import Derived.Deep.RegionHeld3
namespace Go.Proofs.Ytaickhhbdbbmjaa.store
open Go.RowKit law bytes only flat ord obj
open aro (Kept zK)
set_option linter.unusedVariables false

/-- each thing's numbers lie below B -/
def Lie (w : World) (B : Nat) (q : List (Int × Kept)) : Prop := ∀ p ∈ q, Sl w B p.2.A (iv p.2.x.vec) ∧ Fit p.2.x
theorem Lie.below {w w' : World} {B : Nat} {q : List (Int × Kept)} (h : Lie w B q) (hb : Below B w w') : Lie w' B q := fun p hp => ⟨(h p hp).1.below hb, (h p hp).2⟩
theorem Lie.of_owns {w : World} {n₀ : Nat} {q : List (Int × Kept)} (h : Owns n₀ w q) (hf : ∀ p ∈ q, Fit p.2.x) : Lie w w.heap.size q := fun p hp => ⟨Sl.of_own (h p hp), hf p hp⟩
set_option maxRecDepth 100000 in
set_option maxHeartbeats 3200000 in
theorem rsameI_any (A A' : Option Addr) (c c' : Nat) (q q' : List (Int × Kept)) (w : World) (hM : rM q = rM q') (hs : Sl w w.heap.size A (q.flatMap iE)) (hs' : Sl w w.heap.size A' (q'.flatMap iE)) (hl : Lie w w.heap.size q) (hl' : Lie w w.heap.size q') (hq : q.length ≤ 2513169434915) :
    Calls Try.prog 17 #[.slice A q.length c, .slice A' q'.length c'] w fun e w' => e = .returned (.bool true) ∧ Below w.heap.size w w' := by
  have hlen : q'.length = q.length := by rw [← rM_length q', ← hM, rM_length]
  rw [hlen]
  have HS := Lib.hid hs
  have HS' := Lib.hid hs'
  have HL := Lib.hid hl
  have HL' := Lib.hid hl'
  have HM := Lib.hid hM
  have HN := Lib.hid hlen
  clear hs hs' hl hl' hM hlen
  go_enter Try.func17, Try.ntmps17
  go_wp2_with (fail)
  go_loopg [5] q.length (fun gk s5 wr => ∃ (k : Nat), gk = q.length - k ∧ k ≤ q.length ∧ s5 = .int .i64 k ∧ Below w.heap.size w wr)
  case atStart => exact ⟨0, rfl, Nat.zero_le _, rfl, Below.refl _ _⟩
  case round =>
    obtain ⟨k, rfl, hk, rfl, hb⟩ := hrel
    have sz := hb.size
    by_cases hlt : k < q.length
    · have hlt' : k < q'.length := by rw [HN.out]; exact hlt
      have i1 : (k : Int) < (q.length : Int) := by omega
      have i0 : (0 : Int) ≤ (k : Int) := by omega
      obtain ⟨b, o, rfl, hb1, d0, d1, d2, d3⟩ := itemAt (HS.out.below hb) hlt
      obtain ⟨b', o', rfl, hb1', d0', d1', d2', d3'⟩ := itemAt (HS'.out.below hb) hlt'
      have hx : q[k].1 = q'[k].1 ∧ q[k].2.x = q'[k].2.x := by
        have h1 : (rM q)[k]? = (rM q')[k]? := by rw [HM.out]
        simpa [rM, hlt, hlt'] using h1
      obtain ⟨hx1, hx2⟩ := hx
      obtain ⟨h1, hf1⟩ := HL.out q[k] (List.getElem_mem hlt)
      obtain ⟨h2, hf2⟩ := HL'.out q'[k] (List.getElem_mem hlt')
      rw [← hx1] at d0'
      rw [← hx2] at d1' d2' d3' h2
      generalize q[k].1 = i at d0 d0'
      obtain ⟨x, hxx⟩ : ∃ x, q[k].2.x = x := ⟨_, rfl⟩
      rw [hxx] at d1 d2 d3 d1' d2' d3' h1 h2 hf1
      generalize q[k].2.A = A1 at d2 h1
      generalize q[k].2.c = c1 at d2
      generalize q'[k].2.A = A2 at d2' h2
      generalize q'[k].2.c = c2 at d2'
      have hxl : x.vec.length ≤ 281474976710656 := by have := hf1.1; omega
      have HC : Hid (∀ W, Below wr.heap.size wr W → Calls Try.prog 15 #[.agg #[.int .i64 x.tag, .slice A1 x.vec.length c1, .string x.str], .agg #[.int .i64 x.tag, .slice A2 x.vec.length c2, .string x.str]] W fun e w' => e = .returned (.bool true) ∧ Below wr.heap.size wr w') := Lib.hid fun W hW => by
        have hbw := hb.trans (hW.mono sz)
        have h := rsame_any A1 A2 c1 c2 w.heap.size w.heap.size x x W hxl hxl hbw.size hbw.size (h1.below hbw) (h2.below hbw)
        rw [sameO_rfl] at h
        exact h.mono fun e w' ⟨he, hb2⟩ => ⟨he, hW.trans (hb2.mono hW.size)⟩
      have HST : Hid (∀ W, Below wr.heap.size wr W → W.cell? ⟨b, o + k * 4, none⟩ = some (.int .u64 i) ∧ W.cell? ⟨b, o + k * 4 + 1, none⟩ = some (.int .i64 x.tag) ∧ W.cell? ⟨b, o + k * 4 + 2, none⟩ = some (.slice A1 x.vec.length c1) ∧ W.cell? ⟨b, o + k * 4 + 3, none⟩ = some (.string x.str) ∧
          W.cell? ⟨b', o' + k * 4, none⟩ = some (.int .u64 i) ∧ W.cell? ⟨b', o' + k * 4 + 1, none⟩ = some (.int .i64 x.tag) ∧ W.cell? ⟨b', o' + k * 4 + 2, none⟩ = some (.slice A2 x.vec.length c2) ∧ W.cell? ⟨b', o' + k * 4 + 3, none⟩ = some (.string x.str)) := Lib.hid fun W hW =>
        ⟨(hW.cell (p := ⟨b, _, none⟩) (by show b < _; omega)).trans d0, (hW.cell (p := ⟨b, _, none⟩) (by show b < _; omega)).trans d1, (hW.cell (p := ⟨b, _, none⟩) (by show b < _; omega)).trans d2, (hW.cell (p := ⟨b, _, none⟩) (by show b < _; omega)).trans d3,
          (hW.cell (p := ⟨b', _, none⟩) (by show b' < _; omega)).trans d0', (hW.cell (p := ⟨b', _, none⟩) (by show b' < _; omega)).trans d1', (hW.cell (p := ⟨b', _, none⟩) (by show b' < _; omega)).trans d2', (hW.cell (p := ⟨b', _, none⟩) (by show b' < _; omega)).trans d3'⟩
      have i2 : (i == i) = true := by simp
      have i3 : (i != i) = false := by simp
      have HBR := Lib.hid hb
      clear d0 d1 d2 d3 d0' d1' d2' d3' h1 h2 hf1 hf2 hx1 hx2 hxx hb hxl
      go_wp2_with (fail)
      go_region_held3 (fun W => W.cell? ⟨b, o + k * 4, none⟩ = some (.int .u64 i) ∧ W.cell? ⟨b, o + k * 4 + 1, none⟩ = some (.int .i64 x.tag) ∧ W.cell? ⟨b, o + k * 4 + 2, none⟩ = some (.slice A1 x.vec.length c1) ∧ W.cell? ⟨b, o + k * 4 + 3, none⟩ = some (.string x.str) ∧
          W.cell? ⟨b', o' + k * 4, none⟩ = some (.int .u64 i) ∧ W.cell? ⟨b', o' + k * 4 + 1, none⟩ = some (.int .i64 x.tag) ∧ W.cell? ⟨b', o' + k * 4 + 2, none⟩ = some (.slice A2 x.vec.length c2) ∧ W.cell? ⟨b', o' + k * 4 + 3, none⟩ = some (.string x.str))
        ((refine HST.out _ ?_; (first | (with_reducible assumption) | exact Below.drew (Below.refl _ _) | exact below_drewN (Below.refl _ _) _)))
        (first
          | (go_at_call 15; (with_reducible refine (HC.out _ (by first | (with_reducible assumption) | exact Below.drew (Below.refl _ _) | exact below_drewN (Below.refl _ _) _)).mono ?_); rintro e w5 ⟨rfl, hb5⟩))
      have HB5 := Lib.hid (HBR.out.trans (hb5.mono sz))
      clear hb5 HC HST
      go_wp2_with (fail)
      go_roundg (q.length - (k + 1))
      case measure => omega
      case rel => exact ⟨k + 1, rfl, by omega, by go_num, HB5.out⟩
    · obtain rfl : k = q.length := by omega
      have i1 : ¬ (q.length : Int) < (q.length : Int) := by omega
      have HB5 := Lib.hid hb
      clear hb
      go_wp2_with (fail)
      go_ret
      exact ⟨rfl, HB5.out⟩
end Go.Proofs.Ytaickhhbdbbmjaa.store
