/-
  Program-free: the sum of bytes on numbers; what a number is as eight bytes; seals; one byte that is another one is seen.
-/
import Derived.Test.YtacbaeidlhoeaaaBytes
import Derived.Lib.Endian
namespace Go.Proofs.Ytacbaeidlhoeaaa.sum
open Go.Lib

def U64 (h : Nat) : Prop := h < 18446744073709551616
def st (h : Nat) (c : UInt8) : Nat := ((h ^^^ c.toNat) * 1099511628211) % 18446744073709551616
theorem st_u (h : Nat) (c : UInt8) : U64 (st h c) := Nat.mod_lt _ (by decide)
def more (h : Nat) (l : List UInt8) : Nat := l.foldl st h
theorem more_u {h : Nat} (hh : U64 h) (l : List UInt8) : U64 (more h l) := by
  induction l generalizing h with
  | nil => exact hh
  | cons c l ih => exact ih (st_u h c)
theorem more_nil (h : Nat) : more h [] = h := rfl
theorem more_cons (h : Nat) (c : UInt8) (l : List UInt8) : more h (c :: l) = more (st h c) l := rfl
theorem more_append (h : Nat) (l m : List UInt8) : more h (l ++ m) = more (more h l) m := by simp [more]
def start0 : Nat := 14695981039346656037
theorem start0_u : U64 start0 := by unfold U64 start0; omega
def sum (l : List UInt8) : Nat := more start0 l
theorem start0_int : ((start0 : Nat) : Int) = 14695981039346656037 := by unfold start0; rfl
theorem sum_u (l : List UInt8) : U64 (sum l) := more_u start0_u l
theorem more_snoc (h : Nat) (l : List UInt8) (k : Nat) (hk : k < l.length) : more h (l.take (k + 1)) = st (more h (l.take k)) l[k] := by
  rw [List.take_succ_eq_append_getElem hk, more_append, more_cons, more_nil]

/-! ### one byte that is another one -/
theorem byte_u (c : UInt8) : c.toNat < 256 := by have := c.toNat_lt; omega
theorem xor_u {h : Nat} (hh : U64 h) (c : UInt8) : h ^^^ c.toNat < 2 ^ 64 := Nat.xor_lt_two_pow (by unfold U64 at hh; omega) (by have := byte_u c; omega)
theorem mul_inj {a b : Nat} (ha : a < 18446744073709551616) (hb : b < 18446744073709551616) (h : (a * 1099511628211) % 18446744073709551616 = (b * 1099511628211) % 18446744073709551616) : a = b := by
  have e : ∀ x : Nat, x < 18446744073709551616 → ((x * 1099511628211) % 18446744073709551616 * 14886173955864302971) % 18446744073709551616 = x := by
    intro x hx
    rw [Nat.mod_mul_mod, Nat.mul_assoc, show 1099511628211 * 14886173955864302971 = 887285111055 * 18446744073709551616 + 1 from by decide, Nat.mul_add, ← Nat.mul_assoc, Nat.mul_one, Nat.mul_add_mod_self_right, Nat.mod_eq_of_lt hx]
  rw [← e a ha, h, e b hb]
theorem xor_cancel (a b c : Nat) (h : a ^^^ c = b ^^^ c) : a = b := by
  have := congrArg (· ^^^ c) h
  simpa [Nat.xor_assoc, Nat.xor_self] using this
theorem st_inj {a b : Nat} (ha : U64 a) (hb : U64 b) (c : UInt8) (h : st a c = st b c) : a = b :=
  xor_cancel a b c.toNat (mul_inj (xor_u ha c) (xor_u hb c) h)
theorem st_byte {a : Nat} (ha : U64 a) {c d : UInt8} (h : st a c = st a d) : c = d := by
  have h1 := mul_inj (xor_u ha c) (xor_u ha d) h
  have h2 := xor_cancel c.toNat d.toNat a (by rw [Nat.xor_comm, h1, Nat.xor_comm])
  exact UInt8.toNat_inj.1 h2
theorem more_inj {a b : Nat} (ha : U64 a) (hb : U64 b) (l : List UInt8) (h : more a l = more b l) : a = b := by
  induction l generalizing a b with
  | nil => exact h
  | cons c l ih => exact st_inj ha hb c (ih (st_u a c) (st_u b c) h)
theorem sum_set (l : List UInt8) (k : Nat) (hk : k < l.length) (c : UInt8) (hc : c ≠ l[k]) : sum (l.set k c) ≠ sum l := by
  intro h
  have e1 : l.set k c = l.take k ++ c :: l.drop (k + 1) := by rw [List.set_eq_take_append_cons_drop, if_pos hk]
  have e2 : l = l.take k ++ l[k] :: l.drop (k + 1) := by rw [← List.drop_eq_getElem_cons hk, List.take_append_drop]
  have h1 : more (more start0 (l.take k)) (c :: l.drop (k + 1)) = more (more start0 (l.take k)) (l[k] :: l.drop (k + 1)) := by
    rw [← more_append, ← more_append, ← e1, ← e2]; exact h
  exact hc (st_byte (more_u start0_u _) (more_inj (st_u _ _) (st_u _ _) _ h1))
theorem xor_other (x d : UInt8) (hd : d ≠ 0) : x ^^^ d ≠ x := by
  intro h
  apply hd
  have h2 := congrArg (x ^^^ ·) h
  simpa [← UInt8.xor_assoc] using h2

/-- the lowest byte alone is turned -/
theorem xor_low (h c : Nat) (hc : c < 256) : h ^^^ c = h - h % 256 + ((h % 256) ^^^ c) := by
  have e1 : (h ^^^ c) % 256 = (h % 256) ^^^ c := by
    have := @Nat.xor_mod_two_pow h c 8
    simp only [show (2 : Nat) ^ 8 = 256 from rfl] at this
    rw [this, Nat.mod_eq_of_lt hc]
  have e2 : (h ^^^ c) / 256 = h / 256 := by
    have := @Nat.xor_div_two_pow h c 8
    simp only [show (2 : Nat) ^ 8 = 256 from rfl] at this
    rw [this, Nat.div_eq_of_lt hc, Nat.xor_zero]
  omega

/-! ### eight bytes -/
theorem leB_get (k v i : Nat) (hi : i < k) : (leBytes k v)[i]? = some ((v / 256 ^ i % 256).toUInt8) := by
  induction k generalizing v i with
  | zero => omega
  | succ k ih =>
    cases i with
    | zero => simp [leBytes]
    | succ i =>
      simp only [leBytes, List.getElem?_cons_succ]
      rw [ih _ _ (by omega), Nat.div_div_eq_div_mul, Nat.pow_succ, Nat.mul_comm 256]
def le8 (v : Nat) : List UInt8 := leBytes 8 v
theorem le8_length (v : Nat) : (le8 v).length = 8 := leBytes_length 8 v
theorem le8_snoc (v i : Nat) (hi : i < 8) : (le8 v).take (i + 1) = (le8 v).take i ++ [(v / 256 ^ i % 256).toUInt8] := by
  rw [List.take_add_one]
  congr 1
  unfold le8
  rw [leB_get 8 v i hi]
  rfl
theorem leN_lt (l : List UInt8) : leNat l < 256 ^ l.length := by
  induction l with
  | nil => simp [leNat]
  | cons c l ih =>
    have := byte_u c
    simp only [leNat, List.length_cons, Nat.pow_succ]
    omega
theorem leB_leN (l : List UInt8) : leBytes l.length (leNat l) = l := by
  induction l with
  | nil => rfl
  | cons c l ih =>
    have hc := byte_u c
    simp only [List.length_cons, leBytes, leNat]
    rw [show (c.toNat + 256 * leNat l) % 256 = c.toNat by omega, show (c.toNat + 256 * leNat l) / 256 = leNat l by omega, ih]
    congr 1
    exact UInt8.toNat_inj.1 (by simp)
theorem leN_le8 {v : Nat} (hv : U64 v) : leNat (le8 v) = v := leNat_leBytes 8 v (by unfold U64 at hv; omega)
theorem leN_snoc (l : List UInt8) (k : Nat) (hk : k < l.length) : leNat (l.take (k + 1)) = leNat (l.take k) + l[k].toNat * 256 ^ k := by
  induction l generalizing k with
  | nil => simp at hk
  | cons c l ih =>
    cases k with
    | zero => simp [leNat]
    | succ k =>
      have := ih k (by simpa using hk)
      simp only [List.take_succ_cons, leNat, List.getElem_cons_succ] at this ⊢
      rw [this, Nat.pow_succ, Nat.mul_add, Nat.mul_comm (256 ^ k) 256, Nat.mul_left_comm]
      omega

/-! ### seals -/
def seal_ (l : List UInt8) : List UInt8 := l ++ le8 (sum l)
theorem seal_length (l : List UInt8) : (seal_ l).length = l.length + 8 := by simp [seal_, le8_length]
def body (l : List UInt8) : List UInt8 := l.take (l.length - 8)
def tail (l : List UInt8) : List UInt8 := l.drop (l.length - 8)
def openedB (l : List UInt8) : Bool := decide (8 ≤ l.length) && decide (sum (body l) = leNat (tail l))
def opened (l : List UInt8) : List UInt8 := if openedB l then body l else []
theorem tail_length (l : List UInt8) (h : 8 ≤ l.length) : (tail l).length = 8 := by simp [tail]; omega
theorem body_length (l : List UInt8) : (body l).length = l.length - 8 := by simp [body]
theorem body_seal (l : List UInt8) : body (seal_ l) = l := by
  have : l.length + 8 - 8 = l.length := by omega
  simp [body, seal_, le8_length, this]
theorem tail_seal (l : List UInt8) : tail (seal_ l) = le8 (sum l) := by
  have : l.length + 8 - 8 = l.length := by omega
  simp [tail, seal_, le8_length, this]
theorem opened_seal (l : List UInt8) : openedB (seal_ l) = true := by
  simp [openedB, seal_length, body_seal, tail_seal, leN_le8 (sum_u l)]
/-- bytes are the seal of what is ahead of their last eight just if the eight are its sum -/
theorem seal_iff (l : List UInt8) (h : 8 ≤ l.length) : decide (seal_ (body l) = l) = decide (sum (body l) = leNat (tail l)) := by
  have hs : l = body l ++ tail l := by simp [body, tail]
  apply decide_eq_decide.2
  constructor
  · intro he
    have : tail l = le8 (sum (body l)) := by
      have h2 := he.trans hs
      exact (List.append_cancel_left h2).symm
    rw [this, leN_le8 (sum_u _)]
  · intro he
    unfold seal_
    rw [he]
    have h8 := leB_leN (tail l)
    rw [tail_length l h] at h8
    unfold le8
    rw [h8]
    exact hs.symm
theorem opened_set (l : List UInt8) (k : Nat) (hk : k < l.length) (c : UInt8) (hc : c ≠ l[k]) : openedB ((seal_ l).set k c) = false := by
  have e : (seal_ l).set k c = l.set k c ++ le8 (sum l) := by unfold seal_; rw [List.set_append_left _ _ hk]
  have hl : (l.set k c).length + 8 - 8 = (l.set k c).length := by omega
  have h1 : body ((seal_ l).set k c) = l.set k c := by rw [e]; simp [body, le8_length]
  have h2 : tail ((seal_ l).set k c) = le8 (sum l) := by rw [e]; simp [tail, le8_length]
  unfold openedB
  rw [h1, h2, leN_le8 (sum_u l)]
  simp [sum_set l k hk c hc]
end Go.Proofs.Ytacbaeidlhoeaaa.sum
