/-
  The contracts of slices.Repeat at one number and of lastRow.
-/
import Derived.Test.YtdfakjpchgomdaaClimb
import Derived.Test.YtdfakjpchgomdaaShelf
import Derived.Laws.MakeOwn
import Derived.Laws.CopyOwn
namespace Go.Proofs.Ytdfakjpchgomdaa.lev
open Go.RowKit law bytes
set_option linter.unusedVariables false

theorem i8E : Elem Try.prog 65 (.int .i8 0) 1 := elem_mk (by kernel_rfl) rfl
theorem make8 (n : Nat) (hn : n ≤ 140737488355328) (u : World) : (Instr.makeSlice 60 (.int .i64 (n : Int)) (.int .i64 (n : Int))).run Try.prog u =
    .ok (.slice (some ⟨u.heap.size, 0, none⟩) n n) (u.alloc (.cells (List.replicate n (Value.int .i8 0)).toArray 65)) := by
  obtain ⟨i, hi, hz, hsz, hby, hzs⟩ := i8E
  have h := run_make (P := Try.prog) u 60 65 i (.int .i8 0) Try.underlying60 hi hz .i64 .i64 n n (by omega) (by omega) (by rw [hby]; omega) (by omega)
  rw [h, hsz]
  simp only [Int.toNat_natCast, Nat.mul_one]
  congr 3
  unfold madeCells
  apply Array.ext
  · simp
  · intro k h1 h2
    simp [Value.cells, Nat.mod_one]
/-- the first k of m are 1 -/
def fillL (k m : Nat) : List Value := List.replicate k (Value.int .i8 1) ++ List.replicate (m - k) (Value.int .i8 0)
theorem fillL_len (k m : Nat) (h : k ≤ m) : (fillL k m).length = m := by simp [fillL]; omega
theorem fillL_splice (k c m : Nat) (h : k + c ≤ m) : splice (fillL k m) k (List.replicate c (Value.int .i8 1)) = fillL (k + c) m := by
  unfold splice fillL
  rw [List.take_left' (by simp), List.length_replicate, List.drop_append, List.drop_eq_nil_of_le (by simp), List.nil_append, List.length_replicate, List.drop_replicate, ← List.append_assoc, List.replicate_append_replicate]
  rw [show m - k - (k + c - k) = m - (k + c) from by omega]
theorem fillL_at (k m i : Nat) (h : i < k) : (fillL k m)[i]? = some (Value.int .i8 1) := by
  unfold fillL
  rw [List.getElem?_append_left (by simpa using h), List.getElem?_replicate, if_pos h]
/-- new memory of m numbers 1 -/
def Ones (m : Nat) (w : World) (e : Ending) (w' : World) : Prop :=
  ∃ g, e = .returned (.slice (some ⟨g, 0, none⟩) m m) ∧ w.heap.size ≤ g ∧ Row w' g m (fun _ => 1) ∧ Below w.heap.size w w'

theorem src_one {w : World} {gx q : Nat} (hx : w.cell? ⟨gx, 0, none⟩ = some (.int .i8 1)) (o : Obj) (hq : q ≤ 1) (j : Nat) (v : Value) (hj : (List.replicate q (Value.int .i8 1))[j]? = some v) :
    (w.alloc o).cell? ((⟨gx, 0, none⟩ : Addr).add j) = some v := by
  rw [List.getElem?_replicate] at hj
  split at hj
  · rename_i hlt
    obtain rfl : j = 0 := by omega
    injection hj with hj
    rw [← hj]
    exact (World.cell?_alloc_lt w o _ (World.block_lt_of_cell? _ _ hx)).trans hx
  · cases hj

theorem src_fill {w : World} {g k m x : Nat} {t : TypeId} (hg : w.heap[g]? = some (.cells (fillL k m).toArray t (0, 0))) (hx : x ≤ k) (j : Nat) (v : Value) (hj : (List.replicate x (Value.int .i8 1))[j]? = some v) :
    w.drew.cell? ((⟨g, 0, none⟩ : Addr).add j) = some v := by
  rw [List.getElem?_replicate] at hj
  split at hj
  · rename_i hlt
    injection hj with hj
    have hadd : (⟨g, 0, none⟩ : Addr).add j = ⟨g, j, none⟩ := by unfold Addr.add; split <;> simp_all
    rw [hadd, ← hj]
    exact (cell_of_row w g j _ t (0, 0) hg).trans (by simpa using fillL_at k m j (by omega))
  · cases hj

set_option maxHeartbeats 1600000 in
theorem repeat_any (m : Nat) (hm : m ≤ 1048576) (gx : Nat) (w : World) (hx : w.cell? ⟨gx, 0, none⟩ = some (.int .i8 1)) :
    Calls Try.prog 48 #[.slice (some ⟨gx, 0, none⟩) 1 1, .int .i64 m] w (Ones m w) := by
  have hmul := Try.bits_Mul 1 m (by omega) (by omega)
  rw [Nat.one_mul, Nat.div_eq_of_lt (by omega), Nat.mod_eq_of_lt (by omega)] at hmul
  have hmk0 := make8 m (by omega)
  have hfl0 : (List.replicate m (Value.int .i8 0)) = fillL 0 m := by simp [fillL]
  rw [hfl0] at hmk0
  have hlen := fillL_len 0 m (by omega)
  obtain ⟨Z, hZ⟩ : ∃ Z, Z = (fillL 0 m).toArray := ⟨_, rfl⟩
  obtain ⟨q, hq⟩ : ∃ q, q = min 1 m := ⟨_, rfl⟩
  rw [← hZ] at hmk0
  have hmk := hmk0 w
  have HMUL := Lib.hid hmul
  have HZ := Lib.hid hZ
  have HQ := Lib.hid hq
  have HX := Lib.hid hx
  have HLEN := Lib.hid hlen
  clear hmul hZ hmk0 hfl0 hq hx hlen
  have hd1 : decide ((m : Int) < 0) = false := decide_eq_false (by omega)
  have hd2 : decide ((9223372036854775807 : Int) < (m : Int)) = false := decide_eq_false (by omega)
  go_enter Try.func48, Try.ntmps48
  go_wp2_with (fail)
  refine (HMUL.out _).mono ?_
  rintro e w1 ⟨rfl, rfl⟩
  go_wp2_with (refine wpList_copy_splice rfl (.tmp 31) (.tmp 32) 60 60 rfl 65 Try.underlying60 (by kernel_rfl) (some ⟨w1.heap.size, 0, none⟩) (some ⟨gx, 0, none⟩) m m 1 1 rfl rfl w1.heap.size 0 (fillL 0 m) 65 (by rw [← HZ.out]; exact heap_alloc_new w1 _) (List.replicate q (.int .i8 1)) ((List.length_replicate).trans HQ.out) (fun h => ⟨rfl, _, rfl, src_one HX.out _ (by rw [HQ.out]; omega)⟩) (by rw [HLEN.out, List.length_replicate, HQ.out]; omega) (fun v hv => by rw [List.eq_of_mem_replicate hv]; rfl) w1.heap.size w1 (Below.alloc (Below.refl _ _) (Nat.le_refl _) _) (Nat.le_refl _) ?_)
  intro w4 HG4 hB4
  have hsp : splice (fillL 0 m) 0 (List.replicate q (.int .i8 1)) = fillL q m := by have := fillL_splice 0 q m (by rw [HQ.out]; omega); rwa [Nat.zero_add] at this
  rw [hsp] at HG4
  have hqm : q ≤ m := by rw [HQ.out]; omega
  have hqp : 0 < m → 0 < q := by rw [HQ.out]; omega
  have HQP := Lib.hid hqp
  clear hsp hqp HZ HMUL HX hmk
  go_wp2_with (fail)
  go_loopw [8] (fun x wr => ∃ k : Nat, k ≤ m ∧ q ≤ k ∧ x = .int .i64 k ∧ Hid (wr.heap[w1.heap.size]? = some (.cells (fillL k m).toArray 65 (0, 0))) ∧ Below w1.heap.size w1 wr) (fun x _ => m - (intOf x).toNat)
  case atStart => exact ⟨q, hqm, Nat.le_refl _, rfl, HG4, hB4⟩
  case round =>
    obtain ⟨k, hk, hqk, rfl, HG, hB⟩ := hrel
    by_cases hlt : k < m
    · have hk0 : 0 < k := by have := HQP.out (by omega); omega
      have hkk : ∃ x, x = min k (m - k) := ⟨_, rfl⟩
      obtain ⟨x, hx⟩ := hkk
      have HXX := Lib.hid hx
      clear hx
      have hne : ¬ m = k := by omega
      have hsrc := src_fill HG.out (show x ≤ k by rw [HXX.out]; omega)
      have HSRC := Lib.hid hsrc
      clear hsrc
      have hxm : k + x ≤ m := by rw [HXX.out]; omega
      have hxp : 0 < x := by rw [HXX.out]; omega
      have hsp := fillL_splice k x m hxm
      have HSP := Lib.hid hsp
      clear hsp
      have hwr : IntKind.i64.wrap ((k : Int) + (x : Int)) = (k : Int) + (x : Int) := by rw [IntKind.wrap_i64]; omega
      have hl2 : (List.replicate x (Value.int .i8 1)).length = x := List.length_replicate
      go_wp2_with (fail)
      go_region_law (refine step_copy_splice rfl (.tmp 41) (.tmp 44) 60 60 rfl 65 Try.underlying60 (by kernel_rfl) (some ⟨w1.heap.size, k, none⟩) (some ⟨w1.heap.size, 0, none⟩) (m - k) (m - k) k m (by simp [Act.eval, Act.put]) (by simp [Act.eval, Act.put]) w1.heap.size k (fillL k m) 65 HG.out (List.replicate x (.int .i8 1)) ((List.length_replicate).trans HXX.out) (fun h => ⟨rfl, _, rfl, HSRC.out⟩) (by rw [fillL_len k m hk, List.length_replicate]; exact hxm) (fun v hv => by rw [List.eq_of_mem_replicate hv]; rfl) w1.heap.size w1 (below_drewN' hB 1) (Nat.le_refl _) ?_; intro w5 HG5 hB5; rw [HSP.out] at HG5)
      all_goals
        go_simp
        go_roundw
        case rel =>
          repeat apply Exists.intro
          refine ⟨⟨k + x, hxm, by omega, ?_, HG5, hB5⟩, rfl⟩
          go_num
        case measure => simp [intOf]; omega
    · obtain rfl : k = m := by omega
      go_wp2_with (fail)
      go_ret
      exact ⟨_, rfl, Nat.le_refl _, ⟨_, _, HG.out, by simpa using fillL_len k k (Nat.le_refl _), fun i hi => by simpa using fillL_at k k i hi⟩, hB⟩
theorem last_any (b : ByteArray) (hb : b.size ≤ 1048576) (w : World) :
    Calls Try.prog 38 #[.string b] w (Ones b.size w) := by
  have hr := repeat_any b.size hb w.heap.size (w.alloc (.cells #[.int .i8 1] 65)) ((Blk.new w _ _).cell 0)
  have HR := Lib.hid hr
  clear hr
  go_enter Try.func38, Try.ntmps38
  go_wp2_with (fail)
  refine HR.out.mono ?_
  rintro e w1 ⟨g, rfl, hg, hrow, hb1⟩
  go_wp2_with (fail)
  go_ret
  exact ⟨g, rfl, by simp at hg; omega, hrow, ((Below.refl _ _).alloc (Nat.le_refl _) _).trans (hb1.mono (by simp))⟩
/-! ### parts of texts -/
theorem parts_any (a : ByteArray) (ha : a.size ≤ 1048576) (w : World) :
    Calls Try.prog 39 #[.string a] w fun e w' => e = .returned (.int .i64 ((a.size + 63) / 64 : Nat)) ∧ w = w' := by
  go_enter Try.func39, Try.ntmps39
  go_wp2_with (fail)
  go_ret
  exact ⟨ret_int (by omega), rfl⟩
/-- a text's part -/
def pt (a : ByteArray) (p : Nat) : ByteArray := a.extract (p * 64) (min ((p + 1) * 64) a.size)
theorem part_any (a : ByteArray) (ha : a.size ≤ 1048576) (p : Nat) (hp : p * 64 < a.size) (w : World) :
    Calls Try.prog 41 #[.string a, .int .i64 p] w fun e w' => e = .returned (.string (pt a p)) ∧ w = w' := by
  go_enter Try.func41, Try.ntmps41
  go_wp2_with (fail)
  all_goals
    go_ret
    exact ⟨congrArg (fun n => Ending.returned (.string (a.extract (p * 64) n))) (by omega), rfl⟩
end Go.Proofs.Ytdfakjpchgomdaa.lev
