/-
  The climber's block; the contract of its step.
-/
import Derived.Test.YtdfakjpchgomdaaLevB
import Derived.Test.YtdfakjpchgomdaaBlk
import Derived.Test.YtdfakjpchgomdaaQuiet
import Derived.Test.YtdfakjpchgomdaaUpto
import Derived.Test.YtdfakjpchgomdaaChecked
import Derived.Lib.Hide
import Derived.Deep.QuietTactic
import Derived.Outline
import Derived.BigQuiet
import Derived.WalkSpells
import Derived.Laws.BitsAllLaws
import Derived.Laws.DeepNot64
import Derived.Laws.Shifts
namespace Go.Proofs.Ytdfakjpchgomdaa.lev
open Go.RowKit law bytes
set_option linter.unusedVariables false

/-- a number of 64 bits as the machine's -/
@[irreducible] def U (x : BitVec 64) : Int := x.toNat
theorem U_or (x y : BitVec 64) : bits .or .u64 (U x) (U y) = U (x ||| y) := by
  unfold U; rw [u64_or_nat _ _ (by have := x.isLt; omega) (by have := y.isLt; omega), BitVec.toNat_or]
theorem U_and (x y : BitVec 64) : bits .and .u64 (U x) (U y) = U (x &&& y) := by
  unfold U; rw [u64_and_nat _ _ (by have := x.isLt; omega) (by have := y.isLt; omega), BitVec.toNat_and]
theorem U_xor (x y : BitVec 64) : bits .xor .u64 (U x) (U y) = U (x ^^^ y) := by
  unfold U; rw [u64_xor_nat _ _ (by have := x.isLt; omega) (by have := y.isLt; omega), BitVec.toNat_xor]
theorem U_add (x y : BitVec 64) : IntKind.u64.wrap (U x + U y) = U (x + y) := by
  unfold U; rw [IntKind.wrap_u64, BitVec.toNat_add]; omega
theorem U_not (x : BitVec 64) : bits .xor .u64 IntKind.u64.max (U x) = U (~~~x) := by
  have h : IntKind.u64.max = U (BitVec.allOnes 64) := by unfold U; decide
  rw [h, U_xor, BitVec.allOnes_xor]
theorem U_shl (x : BitVec 64) : IntKind.u64.wrap (U x * 2) = U (x <<< 1) := by
  unfold U; rw [IntKind.wrap_u64, BitVec.toNat_shiftLeft, Nat.shiftLeft_eq]; omega
/-- a bit as a number -/
def bi (b : Bool) : Int := if b then 1 else 0
theorem U_bit (b : Bool) : (bi b : Int) = U (if b then 1#64 else 0#64) := by unfold U bi; cases b <;> rfl
theorem U_at (x : BitVec 64) (k : Nat) : bits .and .u64 (U x / 2 ^ k) 1 = bi (x.getLsbD k) := by
  have h1 : U x / 2 ^ k = ((x.toNat / 2 ^ k : Nat) : Int) := by unfold U; rw [Int.natCast_ediv, Int.natCast_pow]; rfl
  have h2 : x.toNat / 2 ^ k < 18446744073709551616 := Nat.lt_of_le_of_lt (Nat.div_le_self _ _) (by have := x.isLt; omega)
  rw [h1, show (1 : Int) = ((1 : Nat) : Int) from rfl, u64_and_nat _ _ h2 (by decide), Nat.and_one_is_mod, ← Nat.toNat_testBit, BitVec.testBit_toNat]
  unfold bi; cases x.getLsbD k <;> rfl
/-- how much more the first row has -/
def upD (R F : BitVec 64) (top : Nat) : Int := bi (R.getLsbD top) - bi (F.getLsbD top)
theorem upD_wrap (R F : BitVec 64) (top : Nat) : IntKind.i8.wrap (IntKind.i8.wrap (bits .and .u64 (U R / 2 ^ top) 1) - IntKind.i8.wrap (bits .and .u64 (U F / 2 ^ top) 1)) = upD R F top := by
  rw [U_at, U_at]; unfold upD bi; cases R.getLsbD top <;> cases F.getLsbD top <;> decide

/-- the block of a climber: three numbers, the places of each byte, the top row -/
def Cl (w : World) (g : Nat) (s m l : BitVec 64) (pl : Nat → BitVec 64) (top : Nat) : Prop :=
  ∃ cs : Array Value, Blk w g 78 cs ∧ cs.size = 260 ∧ cs[0]? = some (.int .u64 (U s)) ∧ cs[1]? = some (.int .u64 (U m)) ∧ cs[2]? = some (.int .u64 (U l)) ∧
    (∀ c, c < 256 → cs[3 + c]? = some (.int .u64 (U (pl c)))) ∧ cs[259]? = some (.int .i64 top)
theorem Cl.lt {w : World} {g : Nat} {s m l : BitVec 64} {pl : Nat → BitVec 64} {top : Nat} (h : Cl w g s m l pl top) : g < w.heap.size := by obtain ⟨cs, h, _⟩ := h; exact h.lt
theorem Cl.keep {w w' : World} {g : Nat} {s m l : BitVec 64} {pl : Nat → BitVec 64} {top : Nat} (h : Cl w g s m l pl top) (e : w'.heap[g]? = w.heap[g]?) : Cl w' g s m l pl top := by
  obtain ⟨cs, h, r⟩ := h; exact ⟨cs, h.keep e, r⟩
theorem Cl.cols {w : World} {g : Nat} {s m l : BitVec 64} {pl : Nat → BitVec 64} {top : Nat} (h : Cl w g s m l pl top) (n : Nat) (s' m' l' : BitVec 64) :
    Cl ((((w.drewN n).setCell ⟨g, 0, none⟩ (.int .u64 (U s'))).setCell ⟨g, 1, none⟩ (.int .u64 (U m'))).setCell ⟨g, 2, none⟩ (.int .u64 (U l'))) g s' m' l' pl top := by
  obtain ⟨cs, hb, hsz, h0, h1, h2, hp, ht⟩ := h
  refine ⟨_, (((hb.drewN n).set_ 0 _).set_ 1 _).set_ 2 _, by simpa using hsz, ?_, ?_, ?_, fun c hc => ?_, ?_⟩
  · simp [hsz]
  · simp [hsz]
  · simp [hsz]
  · simp [Array.getElem?_setIfInBounds, hsz]
    rw [if_neg (by omega), if_neg (by omega), if_neg (by omega)]; exact hp c hc
  · simp [hsz]
    exact (Array.getElem?_eq_some_iff.1 ht).2
theorem only_cols {w : World} {g : Nat} (n : Nat) (u v x : Value) : w.grownBy ((((w.drewN n).setCell ⟨g, 0, none⟩ u).setCell ⟨g, 1, none⟩ v).setCell ⟨g, 2, none⟩ x) (some g) :=
  only_setCell (g := g) (only_setCell (g := g) (only_setCell (g := g) (only_drewN (only_refl w _) n) (p := ⟨g, 0, none⟩) (.inl rfl) u) (p := ⟨g, 1, none⟩) (.inl rfl) v) (p := ⟨g, 2, none⟩) (.inl rfl) x

/-- a column was gone on to -/
def Stepped (g : Nat) (s m l : BitVec 64) (pl : Nat → BitVec 64) (top c : Nat) (bl bm : Bool) (w : World) (e : Ending) (w' : World) : Prop :=
  e = .returned (.int .i8 (upD (sR (pl c) m l bl) (sL (pl c) m l bl) top)) ∧ w.grownBy w' (some g) ∧ Cl w' g (sS (pl c) m l bl) (nM (pl c) m l bl bm) (nL (pl c) m l bl bm) pl top
def belowOf (bl bm : Bool) : Int := if bm then 1 else if bl then -1 else 0

set_option maxHeartbeats 1600000 in
set_option maxRecDepth 100000 in
theorem step_any (g : Nat) (s m l : BitVec 64) (pl : Nat → BitVec 64) (top c : Nat) (hc : c < 256) (ht : top < 64) (bl bm : Bool) (hbb : (bl && bm) = false) (w : World) (hw : Cl w g s m l pl top) :
    Calls Try.prog 50 #[.pointer (some ⟨g, 0, none⟩), .int .u8 c, .int .i8 (belowOf bl bm)] w (Stepped g s m l pl top c bl bm w) := by
  have hend := fun n => Cl.cols hw n (sS (pl c) m l bl) (nM (pl c) m l bl bm) (nL (pl c) m l bl bm)
  obtain ⟨cs, hblk, hsz, h0, h1, h2, hp, htop⟩ := hw
  have c0 : w.cell? ⟨g, 0, none⟩ = some (.int .u64 (U s)) := (hblk.cell 0).trans h0
  have c1 : w.cell? ⟨g, 1, none⟩ = some (.int .u64 (U m)) := (hblk.cell 1).trans h1
  have c2 : w.cell? ⟨g, 2, none⟩ = some (.int .u64 (U l)) := (hblk.cell 2).trans h2
  have cp : w.cell? ⟨g, 3 + c, none⟩ = some (.int .u64 (U (pl c))) := (hblk.cell _).trans (hp c hc)
  have ct : w.cell? ⟨g, 259, none⟩ = some (.int .i64 top) := (hblk.cell 259).trans htop
  have fr : ∀ i, w.frozen? ⟨g, i, none⟩ = false := fun i => hblk.frozen i
  have e0 : bits .or .u64 (U (pl c)) (bi bl) = U (sE (pl c) bl) := by rw [U_bit, U_or]; rfl
  have e1 : bits .or .u64 (U (sE (pl c) bl)) (bits .or .u64 (bits .xor .u64 (IntKind.u64.wrap (bits .and .u64 (U (sE (pl c) bl)) (U m) + U m)) (U m)) (U l)) = U (sS (pl c) m l bl) := by
    rw [U_and, U_add, U_xor, U_or, U_or]; rfl
  have e2 : bits .or .u64 (U l) (bits .xor .u64 IntKind.u64.max (bits .or .u64 (U (sS (pl c) m l bl)) (U m))) = U (sR (pl c) m l bl) := by rw [U_or, U_not, U_or]; rfl
  have e3 : bits .and .u64 (U (sS (pl c) m l bl)) (U m) = U (sL (pl c) m l bl) := by rw [U_and]; rfl
  have e4 := upD_wrap (sR (pl c) m l bl) (sL (pl c) m l bl) top
  have e5 : bits .or .u64 (IntKind.u64.wrap (U (sR (pl c) m l bl) * 2)) (bi bm) = U (sR1 (pl c) m l bl bm) := by rw [U_shl, U_bit, U_or]; rfl
  have e6 : bits .or .u64 (IntKind.u64.wrap (U (sL (pl c) m l bl) * 2)) (bi bl) = U (sL1 (pl c) m l bl) := by rw [U_shl, U_bit, U_or]; rfl
  have e7 : bits .or .u64 (U (sL1 (pl c) m l bl)) (bits .xor .u64 IntKind.u64.max (bits .or .u64 (U (sS (pl c) m l bl)) (U (sR1 (pl c) m l bl bm)))) = U (nM (pl c) m l bl bm) := by rw [U_or, U_not, U_or]; rfl
  have e8 : bits .and .u64 (U (sS (pl c) m l bl)) (U (sR1 (pl c) m l bl bm)) = U (nL (pl c) m l bl bm) := by rw [U_and]; rfl
  unfold Stepped
  generalize sE (pl c) bl = E at *
  generalize sS (pl c) m l bl = S at *
  generalize sR (pl c) m l bl = R at *
  generalize sL (pl c) m l bl = F at *
  generalize sR1 (pl c) m l bl bm = R1 at *
  generalize sL1 (pl c) m l bl = F1 at *
  generalize nM (pl c) m l bl bm = M' at *
  generalize nL (pl c) m l bl bm = L' at *
  have HE := Lib.hid hend
  clear hend hp h0 h1 h2 htop hblk
  obtain ⟨r, hr⟩ : ∃ r, r = upD R F top := ⟨_, rfl⟩
  rw [← hr] at e4 ⊢
  clear hr
  cases bl <;> cases bm <;> (try (exact absurd hbb (by decide))) <;> simp only [bi, belowOf, if_true, if_false, Bool.false_eq_true] at e0 e5 e6 ⊢
  all_goals
    go_enter Try.func50, Try.ntmps50
    go_wp2_with (fail)
    go_quiet (fail)
    go_wp2_with (fail)
    go_quiet (fail)
    go_wp2_with (fail)
    go_quiet (fail)
    go_wp2_with (fail)
    go_ret
    exact ⟨rfl, only_cols _ _ _ _, HE.out _⟩
end Go.Proofs.Ytdfakjpchgomdaa.lev
