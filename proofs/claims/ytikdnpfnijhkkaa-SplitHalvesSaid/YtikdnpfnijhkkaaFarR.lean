/-
  The contracts of the document's Rank, Nth, Halve, Unlike.
-/
import Derived.Test.YtikdnpfnijhkkaaFarA
namespace Go.Proofs.Ytikdnpfnijhkkaa.far
open Go.RowKit law bytes only flat hit spl Go.Sort Go.Shelf
set_option linter.unusedVariables false

/-- a far and whether it is one -/
def Got (o : Option Hit) (w : World) (e : Ending) (w' : World) : Prop :=
  ∃ x ok, e = .returned (.tuple #[.agg #[.int .i64 x.1, .int .i64 x.2], .bool ok]) ∧ opt o = (x, ok) ∧ Below w.heap.size w w'
/-- a result's cells behind a store of both -/
theorem put_two {W : World} {g : Nat} {t : TypeId} {u v : Value} (h : Blk W g t #[u, v]) (x y : Value) :
    ((W.setCell ⟨g, 0, none⟩ x).setCell ⟨g, 1, none⟩ y).cell? ⟨g, 0, none⟩ = some x ∧ ((W.setCell ⟨g, 0, none⟩ x).setCell ⟨g, 1, none⟩ y).cell? ⟨g, 1, none⟩ = some y := by
  have hk := (h.set_ 0 x).set_ 1 y
  exact ⟨hk.cell 0, hk.cell 1⟩
set_option maxRecDepth 100000 in
set_option maxHeartbeats 3200000 in
theorem rank_any (A : Option Addr) (l : List Hit) (c B : Nat) (x : Hit) (w : World) (hm : l.length * 16 ≤ 70368744177664) (hB : B ≤ w.heap.size) (hs : Sl w B A (fv l)) :
    Calls Try.prog 16 #[.slice A l.length c, .agg #[.int .i64 x.1, .int .i64 x.2]] w fun e w' => e = .returned (.int .i64 (rank l x)) ∧ Below w.heap.size w w' := by
  obtain ⟨W0, hW0⟩ : ∃ W, W = w.alloc (.cells #[.int .i64 x.1, .int .i64 x.2] 31) := ⟨_, rfl⟩
  have hz0 : W0.heap.size = w.heap.size + 1 := by rw [hW0]; simp
  have hb0 : Below w.heap.size w W0 := by rw [hW0]; exact (Below.refl _ w).alloc (Nat.le_refl _) _
  have hbx : Blk W0 w.heap.size 31 #[.int .i64 x.1, .int .i64 x.2] := by rw [hW0]; exact Blk.new w _ _
  have HN : Hid (∀ W, Below (w.heap.size + 1) W0 W → W.cell? ⟨w.heap.size, 0, none⟩ = some (.int .i64 x.1) ∧ W.cell? ⟨w.heap.size, 1, none⟩ = some (.int .i64 x.2)) := Lib.hid fun W hW =>
    ⟨(hbx.below hW (by omega)).cell 0, (hbx.below hW (by omega)).cell 1⟩
  have HS : Hid (∀ W, Below (w.heap.size + 1) W0 W → Sl W (w.heap.size + 1) A (fv l)) := Lib.hid fun W hW => ((hs.below (hb0.mono hB)).more (Nat.le_succ_of_le hB)).below hW
  have HB0 := Lib.hid hb0
  have HST : Hid (∀ k (hk : k < l.length), rank (l.take (k + 1)) x = rank (l.take k) x + (if lt l[k] x = true then 1 else 0)) := Lib.hid fun k hk => rank_step hk
  have HLE : Hid (∀ k, rank (l.take k) x ≤ k) := Lib.hid fun k => by have := rank_le (l.take k) x; rw [List.length_take] at this; omega
  obtain ⟨⟨x1, x2⟩, hx⟩ : ∃ x', x' = x := ⟨_, rfl⟩
  rw [← hx] at hW0 HN HST
  have HX := Lib.hid hx
  rw [← hx]
  clear hs hb0 hbx hz0 hx
  dsimp only at hW0 HN HST ⊢
  go_enter Try.func16, Try.ntmps16
  go_wp2_with (fail)
  rw [← hW0]
  clear hW0
  go_loopg [5, 6] l.length (fun gk s5 s6 wr => ∃ (k n : Nat), gk = l.length - k ∧ k ≤ l.length ∧ s5 = .int .i64 n ∧ s6 = .int .i64 k ∧ n = rank (l.take k) x ∧ Below (w.heap.size + 1) W0 wr)
  case atStart => exact ⟨0, 0, rfl, Nat.zero_le _, rfl, rfl, rfl, Below.refl _ _⟩
  case round =>
    obtain ⟨k, n, rfl, hk, rfl, rfl, hn, hb⟩ := hrel
    have hnk : n ≤ k := by rw [hn]; exact HLE.out k
    by_cases hlt : k < l.length
    · obtain ⟨b, o, rfl, hb1, hc0, hc1⟩ := Sl.farAt (HS.out wr hb) hlt
      obtain ⟨f0, f1⟩ := HN.out wr hb
      have hst := HST.out k hlt
      obtain ⟨⟨y1, y2⟩, hy⟩ : ∃ y, l[k] = y := ⟨_, rfl⟩
      rw [hy] at hc0 hc1 hst
      dsimp only at hc0 hc1
      have i1 : (k : Int) < (l.length : Int) := by omega
      have i2 : decide ((l.length : Int) ≤ (k : Int)) = false := decide_eq_false (by omega)
      have i3 : decide (l.length ≤ k) = false := decide_eq_false (by omega)
      obtain ⟨o1, d1⟩ : ∃ o1, decide (y2 < x2) = o1 := ⟨_, rfl⟩
      obtain ⟨o2, d2⟩ : ∃ o2, (y2 == x2) = o2 := ⟨_, rfl⟩
      obtain ⟨o3, d3⟩ : ∃ o3, decide (y1 < x1) = o3 := ⟨_, rfl⟩
      have hl : lt (y1, y2) (x1, x2) = (o1 || (o2 && o3)) := by rw [← d1, ← d2, ← d3]; rfl
      rw [hl, HX.out, ← hn] at hst
      have HT := Lib.hid hst
      have HB := Lib.hid hb
      clear hy hst hl hb hn
      cases o1 <;> cases o2 <;> cases o3
      all_goals
        go_wp2_with (fail)
        go_quiet (fail)
        go_wp2_with (fail)
        go_roundg (l.length - (k + 1))
        case measure => omega
        case rel => first
          | exact ⟨k + 1, n + 1, rfl, by omega, by go_num, by go_num, by simpa using HT.out.symm, below_drewN' HB.out _⟩
          | exact ⟨k + 1, n, rfl, by omega, by go_num, by go_num, by simpa using HT.out.symm, below_drewN' HB.out _⟩
    · obtain rfl : k = l.length := by omega
      have i1 : ¬ (l.length : Int) < (l.length : Int) := by omega
      have HF : Hid (n = rank l x ∧ Below w.heap.size w wr) := Lib.hid ⟨by rw [List.take_length] at hn; exact hn, HB0.out.trans (hb.mono (Nat.le_succ _))⟩
      clear hn hb
      go_wp2_with (fail)
      go_ret
      exact ⟨by rw [HX.out, ← HF.out.1]; rfl, HF.out.2⟩
end Go.Proofs.Ytikdnpfnijhkkaa.far
