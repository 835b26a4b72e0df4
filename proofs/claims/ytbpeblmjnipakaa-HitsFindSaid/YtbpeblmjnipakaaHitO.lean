/-
  The contracts of slices.IsSortedFunc at hits, of hits.Sorted, and of the law's lives.
-/
import Derived.Test.YtbpeblmjnipakaaHitS
namespace Go.Proofs.Ytbpeblmjnipakaa.hit
open Go.RowKit law bytes only flat Go.Sort Go.Shelf
set_option linter.unusedVariables false

/-- whether a row rises, and what there was is as it was -/
def Rise (l : List Hit) (w : World) (e : Ending) (w' : World) : Prop := ∃ r, e = .returned (.bool r) ∧ (r = true ↔ Rises l) ∧ Below w.heap.size w w'
set_option maxRecDepth 100000 in
set_option maxHeartbeats 3200000 in
theorem isSorted_any (A : Option Addr) (l : List Hit) (c B : Nat) (w : World) (hm : l.length * 16 ≤ 140737488355328) (hB : B ≤ w.heap.size) (hs : Sl w B A (hv l)) :
    Calls Try.prog 19 #[.slice A l.length c, .func (.func 20) #[] #[]] w (Rise l w) := by
  have HS := Lib.hid hs
  clear hs
  go_enter Try.func19, Try.ntmps19
  go_wp2_with (fail)
  go_loopg [5] l.length (fun gk s5 wr => ∃ z : Int, gk = (z + 1).toNat ∧ -1 ≤ z ∧ z < l.length ∧ s5 = .int .i64 z ∧ From l (z + 1).toNat ∧ Below w.heap.size w wr)
  case atStart => exact ⟨(l.length : Int) - 1, by omega, by omega, by omega, by go_num, by rw [show ((l.length : Int) - 1 + 1).toNat = l.length by omega]; exact From.end_ l, Below.refl _ _⟩
  case round =>
    obtain ⟨z, rfl, hz1, hz2, rfl, hf, hb⟩ := hrel
    by_cases h0 : 0 < z
    · obtain ⟨m, hmz⟩ : ∃ m : Nat, z = (m : Int) + 1 := ⟨(z - 1).toNat, by omega⟩
      obtain ⟨p, hp⟩ : ∃ p : Nat, p = m + 1 := ⟨_, rfl⟩
      obtain rfl : z = (p : Int) := by omega
      have hpl : p < l.length := by omega
      obtain ⟨b, o, rfl, hb1, hat⟩ := Sl.hit ((HS.out.more hB).below hb) (by omega)
      obtain ⟨hc0, hc1⟩ := hat p hpl
      obtain ⟨hd0, hd1⟩ := hat m (by omega)
      obtain ⟨⟨x1, x2⟩, hx⟩ : ∃ x, l[p] = x := ⟨_, rfl⟩
      obtain ⟨⟨y1, y2⟩, hy⟩ : ∃ x, l[m] = x := ⟨_, rfl⟩
      rw [hx] at hc0 hc1
      rw [hy] at hd0 hd1
      dsimp only at hc0 hc1 hd0 hd1
      have hs2 := (HS.out.more hB).below hb
      have HSC : Hid (∀ W, Below wr.heap.size wr W → W.cell? ⟨b, o + p * 2, none⟩ = some (.int .u64 x1) ∧ W.cell? ⟨b, o + p * 2 + 1, none⟩ = some (.int .i64 x2) ∧ W.cell? ⟨b, o + m * 2, none⟩ = some (.int .u64 y1) ∧ W.cell? ⟨b, o + m * 2 + 1, none⟩ = some (.int .i64 y2)) := Lib.hid fun W hW =>
        have hlt : b < wr.heap.size := Nat.lt_of_lt_of_le hb1 hb.size
        ⟨(hW.cell (p := ⟨b, _, none⟩) hlt).trans hc0, (hW.cell (p := ⟨b, _, none⟩) hlt).trans hc1, (hW.cell (p := ⟨b, _, none⟩) hlt).trans hd0, (hW.cell (p := ⟨b, _, none⟩) hlt).trans hd1⟩
      obtain ⟨r, hr⟩ : ∃ r, cf (x1, x2) (y1, y2) = r := ⟨_, rfl⟩
      have HL : Hid (∀ W, Below wr.heap.size wr W → Calls Try.prog 20 #[.agg #[.int .u64 x1, .int .i64 x2], .agg #[.int .u64 y1, .int .i64 y2]] W fun e w' => e = .returned (.int .i64 r) ∧ Below wr.heap.size wr w') := Lib.hid fun W hW => by
        refine (cmp_any (x1, x2) (y1, y2) W).mono ?_
        intro e w' ⟨he, hb⟩
        exact ⟨by rw [he, hr], hW.trans (hb.mono hW.size)⟩
      have hcl := cf_lt (x1, x2) (y1, y2)
      rw [hr] at hcl
      have HB : Hid (∀ W, Below wr.heap.size wr W → Below w.heap.size w W) := Lib.hid fun W hW => hb.trans (hW.mono hb.size)
      have i2 : IntKind.i64.wrap ((p : Int) - 1) = (m : Int) := by rw [IntKind.wrap_i64]; omega
      have i3 : (0 : Int) ≤ (m : Int) := by omega
      have i4 : (m : Int) < (l.length : Int) := by omega
      have i5 : (p : Int) < (l.length : Int) := by omega
      have z1 : decide (0 < p) = true := decide_eq_true (by omega)
      have z2 : decide ((0 : Int) < (p : Int)) = true := decide_eq_true (by omega)
      have HMZ := Lib.hid hmz
      have HF := Lib.hid hf
      have HP := Lib.hid hp
      clear hs2 hb1 hat hr hmz hf hb
      cases hlx : lt (x1, x2) (y1, y2) with
      | true =>
        rw [hlx] at hcl
        have HN : Hid (¬ Rises l) := Lib.hid (by
          have hp := HP.out
          subst hp
          exact not_rises (k := m) (by omega) (by rw [hx, hy]; exact hlx))
        clear hx hy hlx hp
        go_wp2_with (fail)
        go_region_held3 (fun W => W.cell? ⟨b, o + p * 2, none⟩ = some (.int .u64 x1) ∧ W.cell? ⟨b, o + p * 2 + 1, none⟩ = some (.int .i64 x2) ∧ W.cell? ⟨b, o + m * 2, none⟩ = some (.int .u64 y1) ∧ W.cell? ⟨b, o + m * 2 + 1, none⟩ = some (.int .i64 y2))
          ((refine HSC.out _ ?_; repeat' (first | (with_reducible assumption) | (with_reducible exact Below.refl _ _) | (with_reducible refine Below.drew ?_))))
          ((go_at_call 20; (refine (HL.out _ (by first | (with_reducible assumption) | (with_reducible exact Below.refl _ _) | (with_reducible exact Below.drew (Below.refl _ _)))).mono ?_); rintro e w2 ⟨rfl, hb2⟩))
        have HB2 := Lib.hid (HB.out w2 hb2)
        clear hb2
        go_wp2_with (fail)
        go_ret
        exact ⟨false, rfl, ⟨fun h => (by cases h), fun h => absurd h HN.out⟩, HB2.out⟩
      | false =>
        rw [hlx] at hcl
        have HFF : Hid (From l (m + 1)) := Lib.hid (by
          have hp := HP.out
          subst hp
          have := HF.out
          rw [show (((m + 1 : Nat) : Int) + 1).toNat = m + 1 + 1 by omega] at this
          exact this.step hpl (by omega) (by simp only [Nat.add_sub_cancel]; rw [hx, hy]; exact hlx))
        clear hx hy hlx hp
        go_wp2_with (fail)
        go_region_held3 (fun W => W.cell? ⟨b, o + p * 2, none⟩ = some (.int .u64 x1) ∧ W.cell? ⟨b, o + p * 2 + 1, none⟩ = some (.int .i64 x2) ∧ W.cell? ⟨b, o + m * 2, none⟩ = some (.int .u64 y1) ∧ W.cell? ⟨b, o + m * 2 + 1, none⟩ = some (.int .i64 y2))
          ((refine HSC.out _ ?_; repeat' (first | (with_reducible assumption) | (with_reducible exact Below.refl _ _) | (with_reducible refine Below.drew ?_))))
          ((go_at_call 20; (refine (HL.out _ (by first | (with_reducible assumption) | (with_reducible exact Below.refl _ _) | (with_reducible exact Below.drew (Below.refl _ _)))).mono ?_); rintro e w2 ⟨rfl, hb2⟩))
        have HB2 := Lib.hid (HB.out w2 hb2)
        clear hb2
        go_wp2_with (fail)
        go_roundg (m + 1)
        case measure => have := HP.out; omega
        case rel => exact ⟨m, by omega, by omega, by omega, by first | rfl | (rw [i2]) | go_num, by rw [show ((m : Int) + 1).toNat = m + 1 by omega]; exact HFF.out, HB2.out⟩
    · have d1 : decide (0 < z) = false := decide_eq_false h0
      have HE : Hid (Rises l ∧ Below w.heap.size w wr) := Lib.hid ⟨hf.rises (by omega), hb⟩
      clear hf hb
      go_wp2_with (fail)
      go_ret
      exact ⟨true, rfl, ⟨fun _ => HE.out.1, fun _ => rfl⟩, HE.out.2⟩
theorem sorted_any (A : Option Addr) (l : List Hit) (c B : Nat) (w : World) (hm : l.length * 16 ≤ 140737488355328) (hB : B ≤ w.heap.size) (hs : Sl w B A (hv l)) :
    Calls Try.prog 12 #[.slice A l.length c] w (Rise l w) := by
  have HI := Lib.hid (isSorted_any A l c B w hm hB hs)
  clear hs
  go_enter Try.func12, Try.ntmps12
  go_wp2_with (fail)
  refine HI.out.mono ?_
  rintro e w1 ⟨r, rfl, hr, hb⟩
  have HR := Lib.hid (And.intro hr hb)
  clear hr hb HI
  go_wp2_with (fail)
  go_ret
  exact ⟨r, rfl, HR.out⟩
theorem live_sort : sortH [(7, 3), (2, 3), (9, 1)] = [(9, 1), (2, 3), (7, 3)] := by decide
set_option maxRecDepth 100000 in
set_option maxHeartbeats 3200000 in
theorem lives_any (w : World) : Calls Try.prog 8 #[] w fun e w' => e = .returned (.bool true) ∧ Below w.heap.size w w' := by
  obtain ⟨V, hV⟩ : ∃ V, V = w.alloc (.cells #[.int .u64 7, .int .i64 3, .int .u64 2, .int .i64 3, .int .u64 9, .int .i64 1] 31) := ⟨_, rfl⟩
  have hs : Sl V V.heap.size (some ⟨w.heap.size, 0, none⟩) (hv [(7, 3), (2, 3), (9, 1)]) := by rw [hV]; exact Sl.lit w [.int .u64 7, .int .i64 3, .int .u64 2, .int .i64 3, .int .u64 9, .int .i64 1] _
  have h := sort_any (some ⟨w.heap.size, 0, none⟩) [(7, 3), (2, 3), (9, 1)] 3 _ V (by simp) (Nat.le_refl _) hs
  rw [live_sort] at h
  have HB : Hid (Below w.heap.size w V) := Lib.hid (by rw [hV]; exact (Below.refl _ w).alloc (Nat.le_refl _) _)
  have HC : Hid (∀ (A : Option Addr) (W : World), Sl W W.heap.size A (hv [(9, 1), (2, 3), (7, 3)]) → ∃ b o, A = some ⟨b, o, none⟩ ∧ W.cell? ⟨b, o, none⟩ = some (.int .u64 9) ∧ W.cell? ⟨b, o + 2, none⟩ = some (.int .u64 2) ∧ W.cell? ⟨b, o + 4, none⟩ = some (.int .u64 7)) := Lib.hid fun A W hW => by
    obtain ⟨b, o, rfl, _, hc⟩ := Sl.hit hW (by simp)
    exact ⟨b, o, rfl, (hc 0 (by simp)).1, (hc 1 (by simp)).1, (hc 2 (by simp)).1⟩
  have H := Lib.hid h
  clear h hs
  go_enter Try.func8, Try.ntmps8
  go_wp2_with (fail)
  rw [← hV]
  refine H.out.mono ?_
  rintro e w1 ⟨A1, c1, rfl, hcl, hs1, hb1⟩
  obtain ⟨b, o, rfl, c9, c2, c7⟩ := HC.out A1 w1 hs1
  have HB1 : Hid (Below w.heap.size w w1) := Lib.hid (HB.out.trans (hb1.mono HB.out.size))
  clear hs1 hb1 H HC HB hV
  go_wp2_with (fail)
  go_ret
  exact ⟨rfl, HB1.out⟩
end Go.Proofs.Ytbpeblmjnipakaa.hit
