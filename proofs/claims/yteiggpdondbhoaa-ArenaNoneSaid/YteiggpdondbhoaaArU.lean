/-
  The contract of Used: a row of the call's own of the slots in which there is something.
-/
import Derived.Test.YteiggpdondbhoaaAr
namespace Go.Proofs.Yteiggpdondbhoaa.arena
open Go.RowKit law bytes only flat
set_option linter.unusedVariables false

theorem make_ints (n : Nat) (hn : n ≤ 8796093022208) (u : World) : ∃ Z : Array Value, Z.size = n * 1 ∧ (Instr.makeSlice 26 (.int .i64 0) (.int .i64 (n : Int))).run Try.prog u =
    .ok (.slice (some ⟨u.heap.size, 0, none⟩) 0 n) (u.alloc (.cells Z 3)) := by
  obtain ⟨i, hi, hz, hsz, hby, hzs⟩ := intE
  have h := run_make (P := Try.prog) u 26 3 i (.int .i64 0) Try.underlying26 hi hz .i64 .i64 0 (n : Int) (by omega) (by omega) (by rw [hby]; omega) (by omega)
  simp only [Int.toNat_zero, Int.toNat_natCast] at h
  exact ⟨_, by rw [size_madeCells, hsz], h⟩
/-- a row of slots' numbers of the call's own, and what there was is as it was -/
def URow (l : List Nat) (w : World) (e : Ending) (w' : World) : Prop := ∃ A c, e = .returned (.slice A l.length c) ∧ Sl w' w'.heap.size A (fv l) ∧ Below w.heap.size w w'
theorem URow.mk {l : List Nat} {w w' : World} {A : Option Addr} {m c : Nat} (ho : w'.ownsRow w.heap.size 3 1 (.slice A m c) m (fv l)) (hb : Below w.heap.size w w') : URow l w (.returned (.slice A m c)) w' := by
  have : m = l.length := by have := ho.1; rw [fv_length] at this; omega
  subst this
  exact ⟨A, c, rfl, Sl.of_own ho, hb⟩
set_option maxRecDepth 100000 in
set_option maxHeartbeats 3200000 in
theorem used_any {w : World} {base ab : Nat} {A : Option Addr} {F : Value} {d : List (Option Int)} {e : Nat} {f : List Nat} (h : Ax w base ab A F d e f) (hi : Inv d f) (hm : d.length ≤ 8796093022208) :
    Calls Try.prog 18 #[.pointer (some ⟨ab, 0, none⟩)] w (URow (used d) w) := by
  have hl := used_count hi
  have HL : Hid (Calls Try.prog 15 #[.pointer (some ⟨ab, 0, none⟩)] w fun e w' => e = .returned (.int .i64 (used d).length) ∧ Below w.heap.size w w') :=
    Lib.hid ((len_any h hi.len (by omega) (used d).length hl).mono fun e w' ⟨he, hw⟩ => ⟨he, hw ▸ (Below.refl _ w).drew⟩)
  have HX := Lib.hid h
  have HM := Lib.hid (fun u => make_ints (used d).length (by omega) u)
  have HUL := Lib.hid (show (used d).length ≤ 8796093022208 by omega)
  clear h hl
  go_enter Try.func18, Try.ntmps18
  go_wp2_with (fail)
  refine HL.out.mono ?_
  rintro e w2 ⟨rfl, hb2⟩
  obtain ⟨Z, hZ, hmk⟩ := HM.out w2
  have hown0 : (w2.alloc (.cells Z 3)).ownsRow w.heap.size 3 1 (.slice (some ⟨w2.heap.size, 0, none⟩) 0 (used d).length) 0 (fv (usedTo d 0)) := World.ownsRow_made w2 Z _ hb2.size (by have := HUL.out; unfold maxLen; omega) hZ
  have HO := Lib.hid hown0
  have hb0 : Below w.heap.size w (w2.alloc (.cells Z 3)) := hb2.alloc hb2.size _
  have c0 : (w2.alloc (.cells Z 3)).cell? ⟨ab, 0, none⟩ = some (.slice A d.length d.length) := (HX.out.below hb0 (Nat.le_refl _)).blk.cell 0
  have HB0 := Lib.hid hb0
  clear hown0 hZ HL HM hb2 hb0
  go_wp2_with (fail)
  go_loopg [3, 4, 15] d.length (fun gk s3 s4 s15 wr => ∃ (k m c' : Nat) (A' : Option Addr), gk = d.length - k ∧ k ≤ d.length ∧ m ≤ k ∧ s3 = .slice A' m c' ∧ s15 = .int .i64 k ∧ wr.ownsRow w.heap.size 3 1 (.slice A' m c') m (fv (usedTo d k)) ∧ Below w.heap.size w wr)
  case atStart => exact ⟨0, 0, (used d).length, some ⟨w2.heap.size, 0, none⟩, rfl, Nat.zero_le _, Nat.zero_le _, rfl, rfl, HO.out, HB0.out⟩
  case round =>
    clear HO HB0 hmk c0
    obtain ⟨k, m, c', A', rfl, hk, hmk, rfl, rfl, hown, hb⟩ := hrel
    have hX := HX.out.below hb (Nat.le_refl _)
    by_cases hlt : k < d.length
    · obtain ⟨g, rfl⟩ := HX.out.formA (by omega)
      have c0 : wr.cell? ⟨ab, 0, none⟩ = some (.slice (some ⟨g, 0, none⟩) d.length d.length) := hX.blk.cell 0
      have q1 := (hX.slotAt k hlt).2
      have i1 : (k : Int) < (d.length : Int) := by omega
      have hsz := hb.size
      by_cases hs : d[k].isSome = true
      · have HT : Hid (fv (usedTo d (k + 1)) = fv (usedTo d k) ++ [.int .i64 (k : Int)]) := Lib.hid (by rw [usedTo_yes hlt hs, fv_append]; rfl)
        rw [hs] at q1
        clear hX hs
        go_wp2_with (at_builtin
                     refine wpList_append_sl _ rfl (.tmp 26) (.tmp 28) _ rfl w.heap.size 3 _ 8 Try.underlying26 intE (.slice A' m c') m (fv (usedTo d k)) rfl (World.ownsRow.alloc (w := wr) hown _) _ _ 1 1 [.int .i64 k] rfl (Sl.one wr _ _) rfl (by simp [Value.oneCell']) (by omega) (by unfold maxLen; omega) (by simp; omega) ?_
                     intro v4 w4 hown4 hg4 hat4
                     obtain ⟨A4, c4, rfl, hc4⟩ := own_slice hown4)
        go_roundg (d.length - (k + 1))
        case measure => omega
        case rel => exact ⟨k + 1, m + 1, c4, A4, rfl, by omega, by omega, rfl, by go_num, by rw [HT.out]; exact hown4, below_append hb hsz _ hown (Nat.le_refl _) hg4⟩
      · have hs2 : d[k].isSome = false := by simpa using hs
        have HT : Hid (usedTo d (k + 1) = usedTo d k) := Lib.hid (usedTo_no hlt hs2)
        rw [hs2] at q1
        clear hX hs hs2
        go_wp2_with (fail)
        go_roundg (d.length - (k + 1))
        case measure => omega
        case rel => exact ⟨k + 1, m, c', A', rfl, by omega, by omega, rfl, by go_num, by rw [HT.out]; exact hown, hb⟩
    · obtain rfl : k = d.length := by omega
      have c0 : wr.cell? ⟨ab, 0, none⟩ = some (.slice A d.length d.length) := hX.blk.cell 0
      have i1 : ¬ (d.length : Int) < (d.length : Int) := by omega
      have HE : Hid (URow (used d) w (.returned (.slice A' m c')) wr) := Lib.hid (URow.mk hown hb)
      clear hown hb hX
      go_wp2_with (fail)
      go_ret
      exact HE.out
end Go.Proofs.Yteiggpdondbhoaa.arena
