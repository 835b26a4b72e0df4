/-
  An arena of ints in memory; the contracts of New, at, Get, Len, Slots, and of a nil one's methods.
-/
import Derived.Test.YteiggpdondbhoaaArM
import Derived.Test.YteiggpdondbhoaaRowK
import Derived.Test.YteiggpdondbhoaaQuiet
import Derived.Deep.RegionHeld3
import Derived.Deep.LoopGhost
import Derived.WalkSpells
import Derived.Lib.Hide
namespace Go.Proofs.Yteiggpdondbhoaa.arena
open Go.RowKit law bytes only flat
set_option linter.unusedVariables false

/-- a slot's cells -/
def cE (o : Option Int) : List Value := [.int .i64 (o.getD 0), .bool o.isSome]
theorem cE_len (o : Option Int) : (cE o).length = 2 := rfl
/-- numbers of slots -/
def fv (f : List Nat) : List Value := f.map fun s : Nat => Value.int .i64 (s : Int)
theorem fv_length (f : List Nat) : (fv f).length = f.length := by simp [fv]
theorem fv_append (f g : List Nat) : fv (f ++ g) = fv f ++ fv g := by simp [fv]
theorem intE : Elem Try.prog 3 (.int .i64 0) 8 := elem_mk (by kernel_rfl) rfl

/-- an arena at block ab: the slots d, e more that are room behind them, those that are free -/
structure Ax (w : World) (base ab : Nat) (A : Option Addr) (F : Value) (d : List (Option Int)) (e : Nat) (f : List Nat) : Prop where
  blk : Blk w ab 52 #[.slice A d.length d.length, .slice A (d.length + e) (d.length + e), F]
  room : w.ownsRow base 54 2 (.slice A (d.length + e) (d.length + e)) (d.length + e) ((d ++ List.replicate e none).flatMap cE)
  free : w.ownsRow base 3 1 F f.length (fv f)
  low : base ≤ ab
  ra : ∀ a, A = some a → a.block ≠ ab
  fa : F.ownBlock ≠ some ab
  rf : ∀ a, A = some a → F.ownBlock ≠ some a.block
/-- what an arena's methods may turn -/
def Mine (ab : Nat) (A : Option Addr) (F : Value) (i : Nat) : Prop := i = ab ∨ (∃ a, A = some a ∧ i = a.block) ∨ F.ownBlock = some i
section
variable {w w' : World} {base ab : Nat} {A : Option Addr} {F : Value} {d : List (Option Int)} {e : Nat} {f : List Nat}
theorem room_block {n c g : Nat} (h : (Value.slice A n c).ownBlock = some g) : ∃ a, A = some a ∧ g = a.block := by
  cases A with
  | none => cases h
  | some a => exact ⟨a, rfl, by simpa [Value.ownBlock] using h.symm⟩
theorem Ax.lowM (h : Ax w base ab A F d e f) {i : Nat} (hi : Mine ab A F i) : base ≤ i ∧ i < w.heap.size := by
  rcases hi with rfl | ⟨a, rfl, rfl⟩ | hi
  · exact ⟨h.low, h.blk.lt⟩
  · exact own_lt h.room rfl
  · exact own_lt h.free hi
theorem Ax.only {S : Nat → Prop} (h : Ax w base ab A F d e f) (k : Only S w w') (hS : ∀ i, Mine ab A F i → ¬ S i) : Ax w' base ab A F d e f :=
  ⟨Blk.only h.blk k (hS ab (.inl rfl)), own_only h.room k fun g hg => hS g (.inr (.inl (room_block hg))), own_only h.free k fun g hg => hS g (.inr (.inr hg)), h.low, h.ra, h.fa, h.rf⟩
theorem Ax.below {B : Nat} (h : Ax w base ab A F d e f) (k : Below B w w') (hB : w.heap.size ≤ B) : Ax w' base ab A F d e f :=
  ⟨h.blk.below k (Nat.lt_of_lt_of_le h.blk.lt hB), own_below h.room k hB, own_below h.free k hB, h.low, h.ra, h.fa, h.rf⟩
theorem Ax.drewN (h : Ax w base ab A F d e f) (n : Nat) : Ax (w.drewN n) base ab A F d e f := ⟨h.blk.drewN n, h.room, h.free, h.low, h.ra, h.fa, h.rf⟩
theorem Ax.formA (h : Ax w base ab A F d e f) (h0 : 0 < d.length + e) : ∃ g, A = some ⟨g, 0, none⟩ := by
  obtain ⟨g, c, hv, _⟩ := own_form h.room h0
  injection hv with hv
  exact ⟨g, hv⟩
theorem Ax.slotAt {g : Nat} (h : Ax w base ab (some ⟨g, 0, none⟩) F d e f) (k : Nat) (hk : k < d.length) : w.cell? ⟨g, k * 2, none⟩ = some (.int .i64 (d[k].getD 0)) ∧ w.cell? ⟨g, k * 2 + 1, none⟩ = some (.bool d[k].isSome) := by
  have hl : k < (d ++ List.replicate e none).length := by simp; omega
  have h0 := own_cellK h.room cE_len (by simp) k 0 hl (by decide)
  have h1 := own_cellK h.room cE_len (by simp) k 1 hl (by decide)
  rw [List.getElem_append_left hk] at h0 h1
  exact ⟨h0, h1⟩
theorem Ax.formF (h : Ax w base ab A F d e f) : ∃ A' c, F = .slice A' f.length c ∧ f.length ≤ c := own_slice h.free
end
theorem new_any (base : Nat) (w : World) (hB : base ≤ w.heap.size) : Calls Try.prog 6 #[] w fun e w' =>
    e = .returned (.pointer (some ⟨w.heap.size, 0, none⟩)) ∧ Below w.heap.size w w' ∧ Ax w' base w.heap.size none (.slice none 0 0) [] 0 [] := by
  have hb : Below w.heap.size w (w.alloc (.cells #[.slice none 0 0, .slice none 0 0, .slice none 0 0] 52)) := (Below.refl _ _).alloc (Nat.le_refl _) _
  have hm : Ax (w.alloc (.cells #[.slice none 0 0, .slice none 0 0, .slice none 0 0] 52)) base w.heap.size none (.slice none 0 0) [] 0 [] :=
    ⟨Blk.new _ _ _, World.ownsRow_nil _ _ _ _, World.ownsRow_nil _ _ _ _, hB, fun a e => (by cases e), (by simp [Value.ownBlock]), fun a e => (by cases e)⟩
  have HM := Lib.hid hm
  have HB := Lib.hid hb
  clear hm hb
  go_enter Try.func6, Try.ntmps6
  go_wp2_with (fail)
  go_ret
  exact ⟨rfl, HB.out, HM.out⟩
theorem slots_any {w : World} {base ab : Nat} {A : Option Addr} {F : Value} {d : List (Option Int)} {e : Nat} {f : List Nat} (h : Ax w base ab A F d e f) :
    Calls Try.prog 16 #[.pointer (some ⟨ab, 0, none⟩)] w fun e w' => e = .returned (.int .i64 d.length) ∧ w = w' := by
  have c0 : w.cell? ⟨ab, 0, none⟩ = some (.slice A d.length d.length) := h.blk.cell 0
  clear h
  go_enter Try.func16, Try.ntmps16
  go_wp2_with (fail)
  go_ret
  exact ⟨rfl, rfl⟩
theorem len_any {w : World} {base ab : Nat} {A : Option Addr} {F : Value} {d : List (Option Int)} {e : Nat} {f : List Nat} (h : Ax w base ab A F d e f) (hfd : f.length ≤ d.length) (hm : d.length ≤ 281474976710656) (n : Nat) (hn : n + f.length = d.length) :
    Calls Try.prog 15 #[.pointer (some ⟨ab, 0, none⟩)] w fun e w' => e = .returned (.int .i64 n) ∧ w' = w.drew := by
  have c0 : w.cell? ⟨ab, 0, none⟩ = some (.slice A d.length d.length) := h.blk.cell 0
  obtain ⟨A', c, hF, -⟩ := h.formF
  have c2 : w.cell? ⟨ab, 2, none⟩ = some (.slice A' f.length c) := by rw [← hF]; exact h.blk.cell 2
  have i0 : IntKind.i64.wrap ((d.length : Int) - (f.length : Int)) = (n : Int) := by rw [IntKind.wrap_i64]; omega
  clear h hF
  go_enter Try.func15, Try.ntmps15
  go_wp2_with (fail)
  go_region
  go_wp2_with (fail)
  go_ret
  exact ⟨rfl, rfl⟩
set_option maxHeartbeats 1600000 in
/-- of a slot in which there is something: where it lies -/
theorem at_some {w : World} {base ab g : Nat} {F : Value} {d : List (Option Int)} {e : Nat} {f : List Nat} (h : Ax w base ab (some ⟨g, 0, none⟩) F d e f) (k : Nat) (hk : k < d.length) (hs : d[k].isSome = true) :
    Calls Try.prog 21 #[.pointer (some ⟨ab, 0, none⟩), .int .i64 k] w fun e w' => e = .returned (.pointer (some ⟨g, k * 2, none⟩)) ∧ w = w' := by
  have c0 : w.cell? ⟨ab, 0, none⟩ = some (.slice (some ⟨g, 0, none⟩) d.length d.length) := h.blk.cell 0
  have q1 := (h.slotAt k hk).2
  rw [hs] at q1
  have z1 : decide ((k : Int) < 0) = false := decide_eq_false (by omega)
  have z2 : decide ((d.length : Int) ≤ (k : Int)) = false := decide_eq_false (by omega)
  have z3 : decide (d.length ≤ k) = false := decide_eq_false (by omega)
  have z4 : (k : Int) < (d.length : Int) := by omega
  clear h hs
  go_enter Try.func21, Try.ntmps21
  go_wp2_with (fail)
  go_ret
  exact ⟨rfl, rfl⟩
set_option maxHeartbeats 1600000 in
/-- of a slot in which there is nothing, or of none: nil -/
theorem at_none {w : World} {base ab : Nat} {A : Option Addr} {F : Value} {d : List (Option Int)} {e : Nat} {f : List Nat} (h : Ax w base ab A F d e f) (i : Int) (hi : gt d i = none) :
    Calls Try.prog 21 #[.pointer (some ⟨ab, 0, none⟩), .int .i64 i] w fun e w' => e = .returned (.pointer none) ∧ w = w' := by
  have c0 : w.cell? ⟨ab, 0, none⟩ = some (.slice A d.length d.length) := h.blk.cell 0
  by_cases h0 : i < 0
  · have z1 : decide (i < 0) = true := decide_eq_true h0
    clear h hi
    go_enter Try.func21, Try.ntmps21
    go_wp2_with (fail)
    go_ret
    exact ⟨rfl, rfl⟩
  · have z1 : decide (i < 0) = false := decide_eq_false h0
    by_cases h1 : (d.length : Int) ≤ i
    · have z2 : decide ((d.length : Int) ≤ i) = true := decide_eq_true h1
      clear h hi
      go_enter Try.func21, Try.ntmps21
      go_wp2_with (fail)
      go_ret
      exact ⟨rfl, rfl⟩
    · rcases gt_none hi with h2 | h2 | ⟨k, rfl, hk, hd⟩
      · omega
      · omega
      obtain ⟨g, rfl⟩ := h.formA (by omega)
      have q1 := (h.slotAt k hk).2
      rw [hd] at q1
      have z2 : decide ((d.length : Int) ≤ (k : Int)) = false := decide_eq_false h1
      have z3 : decide (d.length ≤ k) = false := decide_eq_false (by omega)
      have z4 : (k : Int) < (d.length : Int) := by omega
      simp only [Option.isSome_none] at q1
      clear h hd h0 h1
      go_enter Try.func21, Try.ntmps21
      go_wp2_with (fail)
      go_ret
      exact ⟨rfl, rfl⟩
theorem at_nil (i : Int) (w : World) : Calls Try.prog 21 #[.pointer none, .int .i64 i] w fun e w' => e = .returned (.pointer none) ∧ w = w' := by
  go_enter Try.func21, Try.ntmps21
  go_wp2_with (fail)
  go_ret
  exact ⟨rfl, rfl⟩
/-- what is in a slot -/
theorem get_any {w : World} {base ab : Nat} {A : Option Addr} {F : Value} {d : List (Option Int)} {e : Nat} {f : List Nat} (h : Ax w base ab A F d e f) (i : Int) :
    Calls Try.prog 13 #[.pointer (some ⟨ab, 0, none⟩), .int .i64 i] w fun e w' => e = .returned (.tuple #[.int .i64 ((gt d i).getD 0), .bool (gt d i).isSome]) ∧ w = w' := by
  cases hg : gt d i with
  | none =>
    have HA := Lib.hid (at_none h i hg)
    clear h hg
    go_enter Try.func13, Try.ntmps13
    go_wp2_with (go_at_call 21; (with_reducible refine HA.out.mono ?_); rintro e w' ⟨rfl, rfl⟩)
    refine bodyPost_ret (v := .tuple #[.int .i64 0, .bool false]) (by simp [results, Try.results13, go_sem]) rfl ?_
    exact ⟨rfl, rfl⟩
  | some x =>
    obtain ⟨k, rfl, hk, hx⟩ := gt_some hg
    obtain ⟨g, rfl⟩ := h.formA (by omega)
    have HA := Lib.hid (at_some h k hk (by rw [hx]; rfl))
    have q0 := (h.slotAt k hk).1
    rw [hx] at q0
    simp only [Option.getD_some] at q0
    clear h hg hx
    go_enter Try.func13, Try.ntmps13
    go_wp2_with (go_at_call 21; (with_reducible refine HA.out.mono ?_); rintro e w' ⟨rfl, rfl⟩)
    refine bodyPost_ret (v := .tuple #[.int .i64 x, .bool true]) (by simp [results, Try.results13, go_sem]) rfl ?_
    exact ⟨rfl, rfl⟩
/-! ### of nil -/
theorem put_nil (x : Int) (w : World) : Calls Try.prog 7 #[.pointer none, .int .i64 x] w fun e w' => e = .returned (.int .i64 (-1)) ∧ w = w' := by
  go_enter Try.func7, Try.ntmps7
  go_wp2_with (fail)
  go_ret
  exact ⟨rfl, rfl⟩
theorem get_nil (i : Int) (w : World) : Calls Try.prog 13 #[.pointer none, .int .i64 i] w fun e w' => e = .returned (.tuple #[.int .i64 0, .bool false]) ∧ w = w' := by
  go_enter Try.func13, Try.ntmps13
  go_wp2_with (go_at_call 21; (with_reducible refine (at_nil _ _).mono ?_); rintro e w' ⟨rfl, rfl⟩)
  refine bodyPost_ret (v := .tuple #[.int .i64 0, .bool false]) (by simp [results, Try.results13, go_sem]) rfl ?_
  exact ⟨rfl, rfl⟩
theorem set_nil (i x : Int) (w : World) : Calls Try.prog 11 #[.pointer none, .int .i64 i, .int .i64 x] w fun e w' => e = .returned (.bool false) ∧ w = w' := by
  go_enter Try.func11, Try.ntmps11
  go_wp2_with (go_at_call 21; (with_reducible refine (at_nil _ _).mono ?_); rintro e w' ⟨rfl, rfl⟩)
  go_ret
  exact ⟨rfl, rfl⟩
theorem cut_nil (i : Int) (w : World) : Calls Try.prog 9 #[.pointer none, .int .i64 i] w fun e w' => e = .returned (.bool false) ∧ w = w' := by
  go_enter Try.func9, Try.ntmps9
  go_wp2_with (go_at_call 21; (with_reducible refine (at_nil _ _).mono ?_); rintro e w' ⟨rfl, rfl⟩)
  go_ret
  exact ⟨rfl, rfl⟩
theorem len_nil (w : World) : Calls Try.prog 15 #[.pointer none] w fun e w' => e = .returned (.int .i64 0) ∧ w = w' := by
  go_enter Try.func15, Try.ntmps15
  go_wp2_with (fail)
  go_ret
  exact ⟨rfl, rfl⟩
theorem slots_nil (w : World) : Calls Try.prog 16 #[.pointer none] w fun e w' => e = .returned (.int .i64 0) ∧ w = w' := by
  go_enter Try.func16, Try.ntmps16
  go_wp2_with (fail)
  go_ret
  exact ⟨rfl, rfl⟩
theorem used_nil (w : World) : Calls Try.prog 18 #[.pointer none] w fun e w' => e = .returned (.slice none 0 0) ∧ w = w' := by
  go_enter Try.func18, Try.ntmps18
  go_wp2_with (fail)
  go_ret
  exact ⟨rfl, rfl⟩
end Go.Proofs.Yteiggpdondbhoaa.arena
