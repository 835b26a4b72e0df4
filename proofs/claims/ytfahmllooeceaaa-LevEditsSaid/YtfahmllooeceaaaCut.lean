/-
  The contracts of lev.cut and lev.rowsBelow for texts of one part, or of none.
-/
import Derived.Test.YtfahmllooeceaaaLook
import Derived.Test.YtfahmllooeceaaaDst
namespace Go.Proofs.Ytfahmllooeceaaa.lev
open Go.RowKit law bytes
set_option linter.unusedVariables false

theorem rw8E : Elem Try.prog 36 (.slice none 0 0) 24 := elem_mk (by kernel_rfl) (by decide)
theorem makeR (n : Nat) (hn : n ≤ 1048576) (u : World) : (Instr.makeSlice 46 (.int .i64 (n : Int)) (.int .i64 (n : Int))).run Try.prog u =
    .ok (.slice (some ⟨u.heap.size, 0, none⟩) n n) (u.alloc (.cells (List.replicate n (Value.slice none 0 0)).toArray 36)) := by
  obtain ⟨i, hi, hz, hsz, hby, hzs⟩ := rw8E
  have h := run_make (P := Try.prog) u 46 36 i (.slice none 0 0) Try.underlying46 hi hz .i64 .i64 n n (by omega) (by omega) (by rw [hby]; omega) (by omega)
  rw [h, hsz]
  simp only [Int.toNat_natCast, Nat.mul_one]
  congr 3
  unfold madeCells
  apply Array.ext
  · simp
  · intro k h1 h2
    simp [Value.cells, Nat.mod_one]
/-- no row -/
def NoRow (w : World) (e : Ending) (w' : World) : Prop := ∃ g, e = .returned (.slice (some ⟨g, 0, none⟩) 0 0) ∧ Below w.heap.size w w'
/-- one row of m numbers, whose block holds just these -/
def OneRow (m : Nat) (f : List Value) (w : World) (e : Ending) (w' : World) : Prop := ∃ g ga, e = .returned (.slice (some ⟨g, 0, none⟩) 1 1) ∧ w.heap.size ≤ g ∧ w.heap.size ≤ ga ∧ ga ≠ g ∧
  w'.cell? ⟨g, 0, none⟩ = some (.slice (some ⟨ga, 0, none⟩) m m) ∧ Blk w' ga 41 f.toArray ∧ g < w'.heap.size ∧ Below w.heap.size w w'

set_option maxRecDepth 100000 in
theorem cut_none (m : Nat) (hm : m ≤ 1048576) (w : World) : Calls Try.prog 41 #[.int .i64 0, .int .i64 m] w (NoRow w) := by
  have h0 : ∀ u : World, (Instr.makeSlice 36 (.int .i64 0) (.int .i64 0)).run Try.prog u = .ok (.slice (some ⟨u.heap.size, 0, none⟩) 0 0) (u.alloc (.cells #[] 41)) := make8 0 (by omega)
  have h1 : ∀ u : World, (Instr.makeSlice 46 (.int .i64 0) (.int .i64 0)).run Try.prog u = .ok (.slice (some ⟨u.heap.size, 0, none⟩) 0 0) (u.alloc (.cells #[] 36)) := makeR 0 (by omega)
  go_enter Try.func41, Try.ntmps41
  go_wp2_with (fail)
  go_loop [16] (fun i => i = .int .i64 0) (fun _ => 0)
  case atStart => rfl
  case round =>
    subst hrel
    go_wp2_with (fail)
    go_ret
    exact ⟨_, rfl, ((Below.refl _ _).alloc (Nat.le_refl _) _).alloc (by simp) _⟩
set_option maxRecDepth 100000 in
theorem cut_one (m : Nat) (hm : m ≤ 1048576) (w : World) : Calls Try.prog 41 #[.int .i64 1, .int .i64 m] w (OneRow m (List.replicate m (Value.int .i8 0)) w) := by
  have h0 := make8 m (by omega)
  obtain ⟨Z, hZ⟩ : ∃ Z, Z = (List.replicate m (Value.int .i8 0)) := ⟨_, rfl⟩
  rw [← hZ] at h0 ⊢
  have hzl : Z.length = m := by rw [hZ]; simp
  have HZ := Lib.hid hzl
  clear hZ hzl
  have h1 : ∀ u : World, (Instr.makeSlice 46 (.int .i64 1) (.int .i64 1)).run Try.prog u = .ok (.slice (some ⟨u.heap.size, 0, none⟩) 1 1) (u.alloc (.cells #[.slice none 0 0] 36)) := makeR 1 (by omega)
  go_enter Try.func41, Try.ntmps41
  go_wp2_with (fail)
  go_loopw [16] (fun i wr => ∃ (k : Nat) (v : Value), k ≤ 1 ∧ i = .int .i64 k ∧ Blk wr w.heap.size 41 Z.toArray ∧ Blk wr (w.heap.size + 1) 36 #[v] ∧ Hid (k = 1 → v = .slice (some ⟨w.heap.size, 0, none⟩) m m) ∧ Below w.heap.size w wr) (fun i _ => 1 - (intOf i).toNat)
  case atStart =>
    have b1 := (Blk.new w 41 Z.toArray).alloc (.cells #[.slice none 0 0] 36)
    have b2 := Blk.new (w.alloc (.cells Z.toArray 41)) 36 #[.slice none 0 0]
    rw [show (w.alloc (.cells Z.toArray 41)).heap.size = w.heap.size + 1 from by simp] at b2
    exact ⟨0, _, by omega, rfl, b1, b2, Lib.hid (fun h => by omega), ((Below.refl _ _).alloc (Nat.le_refl _) _).alloc (by simp) _⟩
  case round =>
    obtain ⟨k, v, hk, rfl, b1, b2, HV, hB⟩ := hrel
    rcases Nat.eq_zero_or_pos k with hk0 | hk0
    · subst hk0
      rw [show ((0 : Nat) : Int) = 0 from rfl]
      have c2 : wr.cell? ⟨w.heap.size + 1, 0, none⟩ = some v := (b2.cell 0)
      have f2 := b2.frozen 0
      have B1 := Lib.hid b1
      have B2 := Lib.hid b2
      have HB := Lib.hid hB
      clear b1 b2 hB
      go_wp2_with (fail)
      go_roundw
      case rel =>
        refine ⟨1, _, Nat.le_refl _, rfl, B1.out.far (by simp) _, (B2.out.set_ 0 _), Lib.hid (fun _ => ?_), HB.out.setCell (by simp) _⟩
        first | rfl | simp
      case measure => simp [intOf]
    · obtain rfl : k = 1 := by omega
      rw [show ((1 : Nat) : Int) = 1 from rfl]
      have hv := HV.out rfl
      subst hv
      have B1 := Lib.hid b1
      have B2 := Lib.hid b2
      have HB := Lib.hid hB
      clear b1 b2 hB
      go_wp2_with (fail)
      go_ret
      exact ⟨_, _, rfl, by omega, Nat.le_refl _, by omega, B2.out.cell 0, B1.out, B2.out.lt, HB.out⟩
end Go.Proofs.Ytfahmllooeceaaa.lev
