/-
  Mathematics: a column of the table in the bits of numbers: one step of it.
-/
import Derived.Test.YtdfakjpchgomdaaRows
namespace Go.Proofs.Ytdfakjpchgomdaa.lev
section
variable (eq more less : BitVec 64) (bl : Bool)
/-- the sum of a byte's places and what the row below has less -/
def sE : BitVec 64 := eq ||| (if bl then 1#64 else 0#64)
def sS : BitVec 64 := sE eq bl ||| ((((sE eq bl &&& more) + more) ^^^ more) ||| less)
def sR : BitVec 64 := less ||| ~~~(sS eq more less bl ||| more)
def sL : BitVec 64 := sS eq more less bl &&& more
def sR1 (bm : Bool) : BitVec 64 := (sR eq more less bl <<< 1) ||| (if bm then 1#64 else 0#64)
def sL1 : BitVec 64 := (sL eq more less bl <<< 1) ||| (if bl then 1#64 else 0#64)
def nM (bm : Bool) : BitVec 64 := sL1 eq more less bl ||| ~~~(sS eq more less bl ||| sR1 eq more less bl bm)
def nL (bm : Bool) : BitVec 64 := sS eq more less bl &&& sR1 eq more less bl bm
end

theorem bit01 (b : Bool) (k : Nat) : (if b then 1#64 else 0#64 : BitVec 64).getLsbD k = (b && decide (k = 0)) := by
  cases b <;> simp [BitVec.getLsbD_one]

structure Ste (h : Nat) (u v : Nat → Nat) (e : Nat → Bool) : Prop where
  up : ∀ k, k < h → u (k + 1) ≤ u k + 1 ∧ u k ≤ u (k + 1) + 1
  rc : ∀ k, k < h → v (k + 1) = min (u k + if e k then 0 else 1) (min (u (k + 1) + 1) (v k + 1))
  lo : v 0 ≤ u 0 + 1 ∧ u 0 ≤ v 0 + 1

variable {eq more less : BitVec 64} {bl bm : Bool} {h : Nat} {u v : Nat → Nat} {e : Nat → Bool}
theorem Ste.ge (s : Ste h u v e) (k : Nat) (hk : k ≤ h) : v k ≤ u k + 1 ∧ u k ≤ v k + 1 := by
  induction k with
  | zero => exact s.lo
  | succ k ih =>
    have h1 := ih (by omega)
    have h2 := s.up k (by omega)
    have h3 := s.rc k (by omega)
    split at h3 <;> omega
theorem Ste.diag (s : Ste h u v e) (k : Nat) (hk : k < h) : u k ≤ v (k + 1) ∧ v (k + 1) ≤ u k + 1 := by
  have h1 := s.ge k (by omega)
  have h2 := s.up k (by omega)
  have h3 := s.rc k (by omega)
  split at h3 <;> omega

theorem Ste.le (s : Ste h u v e) (k : Nat) (hk : k < h) : v (k + 1) ≤ v k + 1 := by
  have h3 := s.rc k (by omega)
  omega
theorem step_bits (s : Ste h u v e)
    (he : ∀ k, k < h → eq.getLsbD k = e k) (hm : ∀ k, k < h → more.getLsbD k = decide (u (k + 1) = u k + 1)) 
    (hbl : bl = decide (v 0 + 1 = u 0)) :
    ∀ k, k < h → ((sE eq bl).getLsbD k || BitVec.carry k (sE eq bl &&& more) more false) = (e k || decide (v k + 1 = u k)) := by
  intro k
  induction k with
  | zero =>
    intro hk
    rw [BitVec.carry_zero, sE, BitVec.getLsbD_or, bit01, he 0 hk, hbl]; simp
  | succ k ih =>
    intro hk
    have h1 := ih (by omega)
    have h2 := s.up k (by omega)
    have h3 := s.rc k (by omega)
    have h4 := s.ge k (by omega)
    rw [BitVec.carry_succ, sE, BitVec.getLsbD_or, bit01, he _ hk, BitVec.getLsbD_and, hm k (by omega)]
    rw [show (decide (k + 1 = 0)) = false from by simp, Bool.and_false, Bool.or_false]
    congr 1
    have hat : ∀ p q c : Bool, Bool.atLeastTwo (p && q) q c = (q && (p || c)) := by decide
    rw [← sE, hat, h1]
    cases hE : e k
    · rw [hE, if_neg Bool.false_ne_true] at h3
      rw [Bool.false_or, ← Bool.decide_and, decide_eq_decide]; omega
    · rw [hE, if_pos rfl] at h3
      rw [Bool.true_or, Bool.and_true, decide_eq_decide]; omega
theorem same_bits (s : Ste h u v e) (h64 : h ≤ 64)
    (he : ∀ k, k < h → eq.getLsbD k = e k) (hm : ∀ k, k < h → more.getLsbD k = decide (u (k + 1) = u k + 1)) (hl : ∀ k, k < h → less.getLsbD k = decide (u (k + 1) + 1 = u k))
    (hbl : bl = decide (v 0 + 1 = u 0)) (k : Nat) (hk : k < h) : (sS eq more less bl).getLsbD k = decide (v (k + 1) = u k) := by
  have h1 := step_bits s he hm hbl k hk
  have h2 := s.up k (by omega)
  have h3 := s.rc k (by omega)
  have h4 := s.ge k (by omega)
  rw [sS, BitVec.getLsbD_or, BitVec.getLsbD_or, BitVec.getLsbD_xor, BitVec.getLsbD_add (by omega), BitVec.getLsbD_and]
  have hx : ∀ E M C B : Bool, (E || ((((E && M) ^^ (M ^^ C)) ^^ M) || B)) = ((E || C) || B) := by decide
  rw [hx, h1, hl k hk]
  cases hE : e k
  · rw [hE, if_neg Bool.false_ne_true] at h3
    rw [Bool.false_or, ← Bool.decide_or, decide_eq_decide]; omega
  · rw [hE, if_pos rfl] at h3
    rw [Bool.true_or, Bool.true_or, eq_comm, decide_eq_true_eq]; omega
theorem right_bits (s : Ste h u v e) (h64 : h ≤ 64)
    (he : ∀ k, k < h → eq.getLsbD k = e k) (hm : ∀ k, k < h → more.getLsbD k = decide (u (k + 1) = u k + 1)) (hl : ∀ k, k < h → less.getLsbD k = decide (u (k + 1) + 1 = u k))
    (hbl : bl = decide (v 0 + 1 = u 0)) (k : Nat) (hk : k < h) :
    (sR eq more less bl).getLsbD k = decide (v (k + 1) = u (k + 1) + 1) ∧ (sL eq more less bl).getLsbD k = decide (v (k + 1) + 1 = u (k + 1)) := by
  have h1 := same_bits s h64 he hm hl hbl k hk
  have h2 := s.up k (by omega)
  have h4 := s.diag k (by omega)
  have h5 := s.ge (k + 1) (by omega)
  constructor
  · rw [sR, BitVec.getLsbD_or, BitVec.getLsbD_not, BitVec.getLsbD_or, h1, hm k hk, hl k hk, decide_eq_true (show k < 64 by omega), Bool.true_and, ← Bool.decide_or, ← decide_not, ← Bool.decide_or, decide_eq_decide]
    omega
  · rw [sL, BitVec.getLsbD_and, h1, hm k hk, ← Bool.decide_and, decide_eq_decide]
    omega
theorem right1_bits (s : Ste h u v e) (h64 : h ≤ 64)
    (he : ∀ k, k < h → eq.getLsbD k = e k) (hm : ∀ k, k < h → more.getLsbD k = decide (u (k + 1) = u k + 1)) (hl : ∀ k, k < h → less.getLsbD k = decide (u (k + 1) + 1 = u k))
    (hbl : bl = decide (v 0 + 1 = u 0)) (hbm : bm = decide (v 0 = u 0 + 1)) (k : Nat) (hk : k < h) :
    (sR1 eq more less bl bm).getLsbD k = decide (v k = u k + 1) ∧ (sL1 eq more less bl).getLsbD k = decide (v k + 1 = u k) := by
  rw [sR1, sL1, BitVec.getLsbD_or, BitVec.getLsbD_or, bit01, bit01, BitVec.getLsbD_shiftLeft, BitVec.getLsbD_shiftLeft, decide_eq_true (show k < 64 by omega), Bool.true_and]
  cases k with
  | zero => simp [hbl, hbm]
  | succ k =>
    obtain ⟨h1, h2⟩ := right_bits s h64 he hm hl hbl k (by omega)
    rw [Nat.add_sub_cancel, h1, h2]
    simp
theorem new_bits (s : Ste h u v e) (h64 : h ≤ 64)
    (he : ∀ k, k < h → eq.getLsbD k = e k) (hm : ∀ k, k < h → more.getLsbD k = decide (u (k + 1) = u k + 1)) (hl : ∀ k, k < h → less.getLsbD k = decide (u (k + 1) + 1 = u k))
    (hbl : bl = decide (v 0 + 1 = u 0)) (hbm : bm = decide (v 0 = u 0 + 1)) (k : Nat) (hk : k < h) :
    (nM eq more less bl bm).getLsbD k = decide (v (k + 1) = v k + 1) ∧ (nL eq more less bl bm).getLsbD k = decide (v (k + 1) + 1 = v k) := by
  have h1 := same_bits s h64 he hm hl hbl k hk
  obtain ⟨h6, h7⟩ := right1_bits s h64 he hm hl hbl hbm k hk
  have h2 := s.up k (by omega)
  have h4 := s.diag k (by omega)
  have h5 := s.ge k (by omega)
  have h8 := s.le k (by omega)
  constructor
  · rw [nM, BitVec.getLsbD_or, BitVec.getLsbD_not, BitVec.getLsbD_or, h1, h6, h7, decide_eq_true (show k < 64 by omega), Bool.true_and, ← Bool.decide_or, ← decide_not, ← Bool.decide_or, decide_eq_decide]
    omega
  · rw [nL, BitVec.getLsbD_and, h1, h6, ← Bool.decide_and, decide_eq_decide]
    omega
end Go.Proofs.Ytdfakjpchgomdaa.lev
