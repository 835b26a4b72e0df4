/-
  The contracts of object.Right and the document's own, Tag, Same, Clone's parts; what lives.
-/
import Derived.Test.YtdfakjpchgomdaaThing
import Derived.Test.YtdfakjpchgomdaaQuiet
import Derived.Lib.Hide
import Derived.Deep.QuietTactic
import Derived.BigQuiet
import Derived.WalkSpells
namespace Go.Proofs.Ytdfakjpchgomdaa.obj
open Go.RowKit law bytes nums ord
set_option linter.unusedVariables false

/-- a value, and nothing that there was has turned -/
def Gives (v : Value) (w : World) (e : Ending) (w' : World) : Prop := e = .returned v ∧ Below w.heap.size w w'
theorem cells3 {w : World} {b t : Nat} {x0 x1 x2 : Value} (h : Blk w b t #[x0, x1, x2]) : w.cell? ⟨b, 0, none⟩ = some x0 ∧ w.cell? ⟨b, 1, none⟩ = some x1 ∧ w.cell? ⟨b, 2, none⟩ = some x2 ∧ (∀ i, w.frozen? ⟨b, i, none⟩ = false) := ⟨h.cell 0, h.cell 1, h.cell 2, h.frozen⟩
theorem box_blk (w : World) (t : Nat) (cs : Array Value) : Below w.heap.size w (w.alloc (.cells cs t)) := (Below.refl _ w).alloc (Nat.le_refl _) _
def U64' (n : Nat) : Prop := n < 18446744073709551616
/-- the tests of object.Right: not of a length, another tag, a size that may not be -/
theorem right_len (x : Thing) (m s : Int) : rightO x m s = if (lenO x).2 = false ∨ x.tag ≠ tagOf m ∨ s < 0 ∨ 65536 < s then false else decide ((lenO x).1 = s ∨ (m = 3 ∧ (lenO x).1 < s)) := by
  unfold rightO lenO tagOf
  have hv : (0 : Int) ≤ (x.vec.length : Int) := by omega
  by_cases hs : s < 0 ∨ 65536 < s
  · rw [if_pos hs, if_pos (by rcases hs with h | h <;> simp [h])]
  rw [if_neg hs]
  have hs1 : ¬ s < 0 := fun h => hs (.inl h)
  have hs2 : ¬ 65536 < s := fun h => hs (.inr h)
  by_cases h1 : m = 1
  · subst h1
    by_cases t2 : x.tag = 2
    · simp [t2, hs1, hs2]
    · by_cases t1 : x.tag = 1
      · by_cases h0 : x.str.size = 0 <;> simp [t1, h0, hs1, hs2]
      · simp [t1, t2]
  by_cases h2 : m = 2
  · subst h2
    by_cases t2 : x.tag = 2
    · by_cases h0 : x.vec.length = 0 <;> simp [t2, h0, hs1, hs2]
      all_goals simp_all
    · simp [t2]
  by_cases h3 : m = 3
  · subst h3
    by_cases t2 : x.tag = 2
    · by_cases h0 : x.vec.length = 0 <;> simp [t2, h0, hs1, hs2]
      all_goals (first | omega | (rw [Bool.eq_iff_iff]; simp; omega) | simp_all)
    · simp [t2]
  · simp only [h1, h2, h3, if_false]
    by_cases t2 : x.tag = 2
    · simp [t2]
    · by_cases t1 : x.tag = 1
      · simp [t1]
      · simp [t1, t2]

set_option maxHeartbeats 800000 in
theorem rright_any (A : Option Addr) (c : Nat) (x : Thing) (m s : Int) (w : World) :
    Calls Try.prog 13 #[.agg #[.int .i64 x.tag, .slice A x.vec.length c, .string x.str], .int .i64 m, .int .i64 s] w (Gives (.bool (rightO x m s)) w) := by
  have hR : rightO x m s = (if s < 0 ∨ 65536 < s then false
    else if m = 1 then decide (x.tag = 1) && decide ((x.vec.length : Int) = s) && decide (x.str.size = 0)
    else if m = 2 then decide (x.tag = 2) && decide ((x.str.size : Int) = s) && decide (x.vec.length = 0)
    else decide (m = 3) && decide (x.tag = 2) && decide ((x.str.size : Int) ≤ s) && decide (x.vec.length = 0)) := rfl
  obtain ⟨tag, vec, str⟩ := x
  simp only at hR ⊢
  generalize rightO ⟨tag, vec, str⟩ m s = R at hR ⊢
  generalize vec.length = n at hR ⊢
  obtain ⟨z, hm⟩ : ∃ z, str.size = z := ⟨_, rfl⟩
  rw [hm] at hR
  by_cases h0 : s < 0
  · have d0 : decide (s < 0) = true := decide_eq_true h0
    have hR' : R = false := by rw [hR]; simp [*]
    have HR := Lib.hid hR'
    clear hR'
    clear hR
    go_enter Try.func13, Try.ntmps13
    go_wp2_with (fail)
    go_ret
    exact ⟨by rw [HR.out]; rfl, box_blk _ _ _⟩
  have d0 : decide (s < 0) = false := decide_eq_false h0
  by_cases h6 : 65536 < s
  · have d6 : decide (65536 < s) = true := decide_eq_true h6
    have hR' : R = false := by rw [hR]; simp [*]
    have HR := Lib.hid hR'
    clear hR'
    clear hR
    go_enter Try.func13, Try.ntmps13
    go_wp2_with (fail)
    go_ret
    exact ⟨by rw [HR.out]; rfl, box_blk _ _ _⟩
  have d6 : decide (65536 < s) = false := decide_eq_false h6
  by_cases m1 : m = 1
  · subst m1
    by_cases hta : tag = 1
    case neg =>
      have eta : (tag == 1) = false := by simp; omega
      have hR' : R = false := by rw [hR]; simp [*]
      have HR := Lib.hid hR'
      clear hR'
      clear hR
      go_enter Try.func13, Try.ntmps13
      go_wp2_with (fail)
      go_ret
      exact ⟨by rw [HR.out]; rfl, box_blk _ _ _⟩
    have eta : (tag == 1) = true := by simp; omega
    by_cases htb : (n : Int) = s
    case neg =>
      have etb : ((n : Int) == s) = false := by simp; omega
      have hR' : R = false := by rw [hR]; simp [*]
      have HR := Lib.hid hR'
      clear hR'
      clear hR
      go_enter Try.func13, Try.ntmps13
      go_wp2_with (fail)
      go_ret
      exact ⟨by rw [HR.out]; rfl, box_blk _ _ _⟩
    have etb : ((n : Int) == s) = true := by simp; omega
    by_cases htc : z = 0
    case neg =>
      have etc : ((z : Int) == 0) = false := by simp; omega
      have hR' : R = false := by rw [hR]; simp [*]
      have HR := Lib.hid hR'
      clear hR'
      clear hR
      go_enter Try.func13, Try.ntmps13
      go_wp2_with (fail)
      go_ret
      exact ⟨by rw [HR.out]; rfl, box_blk _ _ _⟩
    have etc : ((z : Int) == 0) = true := by simp; omega
    have hR' : R = true := by rw [hR]; simp [*]
    have HR := Lib.hid hR'
    clear hR'
    clear hR
    go_enter Try.func13, Try.ntmps13
    go_wp2_with (fail)
    go_ret
    exact ⟨by rw [HR.out]; rfl, box_blk _ _ _⟩
  have e1 : (m == 1) = false := by simpa using m1
  by_cases m2 : m = 2
  · subst m2
    by_cases hta : tag = 2
    case neg =>
      have eta : (tag == 2) = false := by simp; omega
      have hR' : R = false := by rw [hR]; simp [*]
      have HR := Lib.hid hR'
      clear hR'
      clear hR
      go_enter Try.func13, Try.ntmps13
      go_wp2_with (fail)
      go_ret
      exact ⟨by rw [HR.out]; rfl, box_blk _ _ _⟩
    have eta : (tag == 2) = true := by simp; omega
    by_cases htb : (z : Int) = s
    case neg =>
      have etb : ((z : Int) == s) = false := by simp; omega
      have hR' : R = false := by rw [hR]; simp [*]
      have HR := Lib.hid hR'
      clear hR'
      clear hR
      go_enter Try.func13, Try.ntmps13
      go_wp2_with (fail)
      go_ret
      exact ⟨by rw [HR.out]; rfl, box_blk _ _ _⟩
    have etb : ((z : Int) == s) = true := by simp; omega
    by_cases htc : n = 0
    case neg =>
      have etc : ((n : Int) == 0) = false := by simp; omega
      have hR' : R = false := by rw [hR]; simp [*]
      have HR := Lib.hid hR'
      clear hR'
      clear hR
      go_enter Try.func13, Try.ntmps13
      go_wp2_with (fail)
      go_ret
      exact ⟨by rw [HR.out]; rfl, box_blk _ _ _⟩
    have etc : ((n : Int) == 0) = true := by simp; omega
    have hR' : R = true := by rw [hR]; simp [*]
    have HR := Lib.hid hR'
    clear hR'
    clear hR
    go_enter Try.func13, Try.ntmps13
    go_wp2_with (fail)
    go_ret
    exact ⟨by rw [HR.out]; rfl, box_blk _ _ _⟩
  have e2 : (m == 2) = false := by simpa using m2
  by_cases m3 : m = 3
  case neg =>
    have e3 : (m == 3) = false := by simpa using m3
    have hR' : R = false := by rw [hR]; simp [*]
    have HR := Lib.hid hR'
    clear hR'
    clear hR
    go_enter Try.func13, Try.ntmps13
    go_wp2_with (fail)
    go_ret
    exact ⟨by rw [HR.out]; rfl, box_blk _ _ _⟩
  subst m3
  by_cases hta : tag = 2
  case neg =>
    have eta : (tag == 2) = false := by simp; omega
    have hR' : R = false := by rw [hR]; simp [*]
    have HR := Lib.hid hR'
    clear hR'
    clear hR
    go_enter Try.func13, Try.ntmps13
    go_wp2_with (fail)
    go_ret
    exact ⟨by rw [HR.out]; rfl, box_blk _ _ _⟩
  have eta : (tag == 2) = true := by simp; omega
  by_cases htb : (z : Int) ≤ s
  case neg =>
    have etb : decide ((z : Int) ≤ s) = false := decide_eq_false (by omega)
    have hR' : R = false := by rw [hR]; simp [*]
    have HR := Lib.hid hR'
    clear hR'
    clear hR
    go_enter Try.func13, Try.ntmps13
    go_wp2_with (fail)
    go_ret
    exact ⟨by rw [HR.out]; rfl, box_blk _ _ _⟩
  have etb : decide ((z : Int) ≤ s) = true := decide_eq_true (by omega)
  by_cases htc : n = 0
  case neg =>
    have etc : ((n : Int) == 0) = false := by simp; omega
    have hR' : R = false := by rw [hR]; simp [*]
    have HR := Lib.hid hR'
    clear hR'
    clear hR
    go_enter Try.func13, Try.ntmps13
    go_wp2_with (fail)
    go_ret
    exact ⟨by rw [HR.out]; rfl, box_blk _ _ _⟩
  have etc : ((n : Int) == 0) = true := by simp; omega
  have hR' : R = true := by rw [hR]; simp [*]
  have HR := Lib.hid hR'
  clear hR'
  clear hR
  go_enter Try.func13, Try.ntmps13
  go_wp2_with (fail)
  go_ret
  exact ⟨by rw [HR.out]; rfl, box_blk _ _ _⟩
end Go.Proofs.Ytdfakjpchgomdaa.obj
