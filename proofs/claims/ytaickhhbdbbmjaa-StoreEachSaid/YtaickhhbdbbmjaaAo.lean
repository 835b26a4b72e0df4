/-
  An arena of ints in memory; the contracts of New, at, Get, Len, Slots, and of a nil one's methods.
-/
import Derived.Test.YtaickhhbdbbmjaaAoM
import Derived.Test.YtaickhhbdbbmjaaRowK
import Derived.Test.YtaickhhbdbbmjaaClone
import Derived.Test.YtaickhhbdbbmjaaQuiet
import Derived.Deep.RegionHeld3
import Derived.Deep.LoopGhost
import Derived.WalkSpells
import Derived.Lib.Hide
namespace Go.Proofs.Ytaickhhbdbbmjaa.aro
open Go.RowKit law bytes only flat ord obj
set_option linter.unusedVariables false

/-- a thing where it is kept: the slice's address and capacity, too -/
structure Kept where
  x : Thing
  A : Option Addr
  c : Nat
/-- no thing -/
def zK : Kept := ⟨zeroO, none, 0⟩
def kx (o : Option Kept) : Kept := o.getD zK
/-- its value -/
def kV (k : Kept) : Value := .agg #[.int .i64 k.x.tag, .slice k.A k.x.vec.length k.c, .string k.x.str]
/-- a slot's cells -/
def cE (o : Option Kept) : List Value := [.int .i64 (kx o).x.tag, .slice (kx o).A (kx o).x.vec.length (kx o).c, .string (kx o).x.str, .bool o.isSome]
theorem cE_len (o : Option Kept) : (cE o).length = 4 := rfl
theorem kx_some (k : Kept) : kx (some k) = k := rfl
theorem kx_none : kx none = zK := rfl
/-- numbers of slots -/
def fv (f : List Nat) : List Value := f.map fun s : Nat => Value.int .i64 (s : Int)
theorem fv_length (f : List Nat) : (fv f).length = f.length := by simp [fv]
theorem fv_append (f g : List Nat) : fv (f ++ g) = fv f ++ fv g := by simp [fv]
theorem intE : Elem Try.prog 3 (.int .i64 0) 8 := elem_mk (by kernel_rfl) rfl

/-- an arena at block ab: the slots d, e more that are room behind them, those that are free -/
structure Ax (w : World) (base ab : Nat) (A : Option Addr) (F : Value) (d : List (Option Kept)) (e : Nat) (f : List Nat) : Prop where
  blk : Blk w ab 71 #[.slice A d.length d.length, .slice A (d.length + e) (d.length + e), F]
  room : w.ownsRow base 82 4 (.slice A (d.length + e) (d.length + e)) (d.length + e) ((d ++ List.replicate e none).flatMap cE)
  free : w.ownsRow base 3 1 F f.length (fv f)
  low : base ≤ ab
  ra : ∀ a, A = some a → a.block ≠ ab
  fa : F.ownBlock ≠ some ab
  rf : ∀ a, A = some a → F.ownBlock ≠ some a.block
/-- what an arena's methods may turn -/
def Mine (ab : Nat) (A : Option Addr) (F : Value) (i : Nat) : Prop := i = ab ∨ (∃ a, A = some a ∧ i = a.block) ∨ F.ownBlock = some i
section
variable {w w' : World} {base ab : Nat} {A : Option Addr} {F : Value} {d : List (Option Kept)} {e : Nat} {f : List Nat}
theorem room_block {n c g : Nat} (h : (Value.slice A n c).ownBlock = some g) : ∃ a, A = some a ∧ g = a.block := by
  cases A with
  | none => cases h
  | some a => exact ⟨a, rfl, by simpa [Value.ownBlock] using h.symm⟩
theorem Ax.lowM (h : Ax w base ab A F d e f) {i : Nat} (hi : Mine ab A F i) : base ≤ i ∧ i < w.heap.size := by
  rcases hi with rfl | ⟨a, rfl, rfl⟩ | hi
  · exact ⟨h.low, h.blk.lt⟩
  · exact own_lt h.room rfl
  · exact own_lt h.free hi
theorem Ax.only {S : Nat → Prop} (h : Ax w base ab A F d e f) (k : Only S w w') (hS : ∀ i, Mine ab A F i → ¬ S i) : Ax w' base ab A F d e f :=
  ⟨Blk.only h.blk k (hS ab (.inl rfl)), own_only h.room k fun g hg => hS g (.inr (.inl (room_block hg))), own_only h.free k fun g hg => hS g (.inr (.inr hg)), h.low, h.ra, h.fa, h.rf⟩
theorem Ax.below {B : Nat} (h : Ax w base ab A F d e f) (k : Below B w w') (hB : w.heap.size ≤ B) : Ax w' base ab A F d e f :=
  ⟨h.blk.below k (Nat.lt_of_lt_of_le h.blk.lt hB), own_below h.room k hB, own_below h.free k hB, h.low, h.ra, h.fa, h.rf⟩
theorem Ax.drewN (h : Ax w base ab A F d e f) (n : Nat) : Ax (w.drewN n) base ab A F d e f := ⟨h.blk.drewN n, h.room, h.free, h.low, h.ra, h.fa, h.rf⟩
theorem Ax.formA (h : Ax w base ab A F d e f) (h0 : 0 < d.length + e) : ∃ g, A = some ⟨g, 0, none⟩ := by
  obtain ⟨g, c, hv, _⟩ := own_form h.room h0
  injection hv with hv
  exact ⟨g, hv⟩
theorem Ax.slotAt {g : Nat} (h : Ax w base ab (some ⟨g, 0, none⟩) F d e f) (k : Nat) (hk : k < d.length) : w.cell? ⟨g, k * 4, none⟩ = some (.int .i64 (kx d[k]).x.tag) ∧ w.cell? ⟨g, k * 4 + 1, none⟩ = some (.slice (kx d[k]).A (kx d[k]).x.vec.length (kx d[k]).c) ∧
    w.cell? ⟨g, k * 4 + 2, none⟩ = some (.string (kx d[k]).x.str) ∧ w.cell? ⟨g, k * 4 + 3, none⟩ = some (.bool d[k].isSome) := by
  have hl : k < (d ++ List.replicate e none).length := by simp; omega
  have h0 := own_cellK h.room cE_len (by simp) k 0 hl (by decide)
  have h1 := own_cellK h.room cE_len (by simp) k 1 hl (by decide)
  have h2 := own_cellK h.room cE_len (by simp) k 2 hl (by decide)
  have h3 := own_cellK h.room cE_len (by simp) k 3 hl (by decide)
  rw [List.getElem_append_left hk] at h0 h1 h2 h3
  exact ⟨h0, h1, h2, h3⟩
theorem Ax.formF (h : Ax w base ab A F d e f) : ∃ A' c, F = .slice A' f.length c ∧ f.length ≤ c := own_slice h.free
end
theorem new_any (base : Nat) (w : World) (hB : base ≤ w.heap.size) : Calls Try.prog 21 #[] w fun e w' =>
    e = .returned (.pointer (some ⟨w.heap.size, 0, none⟩)) ∧ Below w.heap.size w w' ∧ Ax w' base w.heap.size none (.slice none 0 0) [] 0 [] := by
  have hb : Below w.heap.size w (w.alloc (.cells #[.slice none 0 0, .slice none 0 0, .slice none 0 0] 71)) := (Below.refl _ _).alloc (Nat.le_refl _) _
  have hm : Ax (w.alloc (.cells #[.slice none 0 0, .slice none 0 0, .slice none 0 0] 71)) base w.heap.size none (.slice none 0 0) [] 0 [] :=
    ⟨Blk.new _ _ _, World.ownsRow_nil _ _ _ _, World.ownsRow_nil _ _ _ _, hB, fun a e => (by cases e), (by simp [Value.ownBlock]), fun a e => (by cases e)⟩
  have HM := Lib.hid hm
  have HB := Lib.hid hb
  clear hm hb
  go_enter Try.func21, Try.ntmps21
  go_wp2_with (fail)
  go_ret
  exact ⟨rfl, HB.out, HM.out⟩
set_option maxHeartbeats 1600000 in
/-- of a slot in which there is something: where it lies -/
theorem at_some {w : World} {base ab g : Nat} {F : Value} {d : List (Option Kept)} {e : Nat} {f : List Nat} (h : Ax w base ab (some ⟨g, 0, none⟩) F d e f) (k : Nat) (hk : k < d.length) (hs : d[k].isSome = true) :
    Calls Try.prog 35 #[.pointer (some ⟨ab, 0, none⟩), .int .i64 k] w fun e w' => e = .returned (.pointer (some ⟨g, k * 4, none⟩)) ∧ w = w' := by
  have c0 : w.cell? ⟨ab, 0, none⟩ = some (.slice (some ⟨g, 0, none⟩) d.length d.length) := h.blk.cell 0
  have q1 := (h.slotAt k hk).2.2.2
  rw [hs] at q1
  have z1 : decide ((k : Int) < 0) = false := decide_eq_false (by omega)
  have z2 : decide ((d.length : Int) ≤ (k : Int)) = false := decide_eq_false (by omega)
  have z3 : decide (d.length ≤ k) = false := decide_eq_false (by omega)
  have z4 : (k : Int) < (d.length : Int) := by omega
  clear h hs
  go_enter Try.func35, Try.ntmps35
  go_wp2_with (fail)
  go_ret
  exact ⟨rfl, rfl⟩
set_option maxHeartbeats 1600000 in
/-- of a slot in which there is nothing, or of none: nil -/
theorem at_none {w : World} {base ab : Nat} {A : Option Addr} {F : Value} {d : List (Option Kept)} {e : Nat} {f : List Nat} (h : Ax w base ab A F d e f) (i : Int) (hi : gt d i = none) :
    Calls Try.prog 35 #[.pointer (some ⟨ab, 0, none⟩), .int .i64 i] w fun e w' => e = .returned (.pointer none) ∧ w = w' := by
  have c0 : w.cell? ⟨ab, 0, none⟩ = some (.slice A d.length d.length) := h.blk.cell 0
  by_cases h0 : i < 0
  · have z1 : decide (i < 0) = true := decide_eq_true h0
    clear h hi
    go_enter Try.func35, Try.ntmps35
    go_wp2_with (fail)
    go_ret
    exact ⟨rfl, rfl⟩
  · have z1 : decide (i < 0) = false := decide_eq_false h0
    by_cases h1 : (d.length : Int) ≤ i
    · have z2 : decide ((d.length : Int) ≤ i) = true := decide_eq_true h1
      clear h hi
      go_enter Try.func35, Try.ntmps35
      go_wp2_with (fail)
      go_ret
      exact ⟨rfl, rfl⟩
    · rcases gt_none hi with h2 | h2 | ⟨k, rfl, hk, hd⟩
      · omega
      · omega
      obtain ⟨g, rfl⟩ := h.formA (by omega)
      have q1 := (h.slotAt k hk).2.2.2
      rw [hd] at q1
      have z2 : decide ((d.length : Int) ≤ (k : Int)) = false := decide_eq_false h1
      have z3 : decide (d.length ≤ k) = false := decide_eq_false (by omega)
      have z4 : (k : Int) < (d.length : Int) := by omega
      simp only [Option.isSome_none] at q1
      clear h hd h0 h1
      go_enter Try.func35, Try.ntmps35
      go_wp2_with (fail)
      go_ret
      exact ⟨rfl, rfl⟩
theorem at_nil (i : Int) (w : World) : Calls Try.prog 35 #[.pointer none, .int .i64 i] w fun e w' => e = .returned (.pointer none) ∧ w = w' := by
  go_enter Try.func35, Try.ntmps35
  go_wp2_with (fail)
  go_ret
  exact ⟨rfl, rfl⟩
/-- what is in a slot -/
theorem get_any {w : World} {base ab : Nat} {A : Option Addr} {F : Value} {d : List (Option Kept)} {e : Nat} {f : List Nat} (h : Ax w base ab A F d e f) (i : Int) :
    Calls Try.prog 41 #[.pointer (some ⟨ab, 0, none⟩), .int .i64 i] w fun e w' => e = .returned (.tuple #[kV (kx (gt d i)), .bool (gt d i).isSome]) ∧ Below w.heap.size w w' := by
  have hb1 : Below w.heap.size w (w.alloc (.cells #[.int .i64 0, .slice none 0 0, .string ⟨#[]⟩] 29)) := (Below.refl _ _).alloc (Nat.le_refl _) _
  cases hg : gt d i with
  | none =>
    have HA := Lib.hid (at_none (h.below hb1 (Nat.le_refl _)) i hg)
    have HB := Lib.hid hb1
    clear h hg hb1
    go_enter Try.func41, Try.ntmps41
    go_wp2_with (go_at_call 35; (with_reducible refine HA.out.mono ?_); rintro e w' ⟨rfl, rfl⟩)
    obtain ⟨c0, c1, c2, -⟩ := cells3 ((Blk.new w 29 #[.int .i64 0, .slice none 0 0, .string ⟨#[]⟩]).alloc (.cells #[.int .i64 0, .slice none 0 0, .string ⟨#[]⟩] 29))
    refine bodyPost_ret (v := .tuple #[kV (kx none), .bool false]) (by simp [results, Try.results41, go_sem, c0, c1, c2, kV, kx, zK, zeroO]) rfl ?_
    exact ⟨rfl, HB.out.alloc (by simp) _⟩
  | some x =>
    obtain ⟨k, rfl, hk, hx⟩ := gt_some hg
    obtain ⟨g, rfl⟩ := h.formA (by omega)
    have HA := Lib.hid (at_some (h.below hb1 (Nat.le_refl _)) k hk (by rw [hx]; rfl))
    obtain ⟨q0, q1, q2, q3⟩ := (h.below hb1 (Nat.le_refl _)).slotAt k hk
    rw [hx] at q0 q1 q2
    simp only [kx_some] at q0 q1 q2 ⊢
    have HB := Lib.hid hb1
    clear h hg hx hb1 q3
    go_enter Try.func41, Try.ntmps41
    go_wp2_with (go_at_call 35; (with_reducible refine HA.out.mono ?_); rintro e w' ⟨rfl, rfl⟩)
    obtain ⟨c0, c1, c2, -⟩ := cells3 (Blk.new w 29 #[.int .i64 x.x.tag, .slice x.A x.x.vec.length x.c, .string x.x.str])
    refine bodyPost_ret (v := .tuple #[kV x, .bool true]) (by simp [results, Try.results41, go_sem, c0, c1, c2, kV]) rfl ?_
    exact ⟨rfl, (Below.refl _ w).alloc (Nat.le_refl _) _⟩
end Go.Proofs.Ytaickhhbdbbmjaa.aro
