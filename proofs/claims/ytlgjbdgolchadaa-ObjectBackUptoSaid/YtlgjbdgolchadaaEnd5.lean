/-
  The document's own end.
-/
import Derived.Test.YtlgjbdgolchadaaTake5
import Derived.Test.YtlgjbdgolchadaaSame
namespace Go.Proofs.Ytlgjbdgolchadaa.code
open Go.RowKit law bytes nums same
set_option linter.unusedVariables false

theorem rend_any (A : Option Addr) (s : St) (c : Nat) (w : World) (hl : s.b.length ≤ 281474976710656) :
    Calls Try.prog 27 #[.agg #[.slice A s.b.length c, .int .i64 s.e]] w fun e w' => e = .returned (.int .i64 (endP s)) ∧ Below w.heap.size w w' := by
  by_cases he : s.e = 0
  · have d1 : (s.e == 0) = true := by simpa using he
    have d2 : (s.e != 0) = false := by simpa using he
    by_cases hz : s.b.length = 0
    · have HE : endP s = 0 := by unfold endP; rw [if_pos he, if_pos hz]
      have HE := Lib.hid HE
      have d3 : decide ((0 : Int) < (s.b.length : Int)) = false := decide_eq_false (by omega)
      have d4 : decide (0 < s.b.length) = false := decide_eq_false (by omega)
      have HS := Lib.hid he
      clear hz he
      go_enter Try.func27, Try.ntmps27
      go_wp2
      go_ret
      exact ⟨by rw [HE.out, ← HS.out]; rfl, (Below.refl _ _).alloc (Nat.le_refl _) _⟩
    · have HE : endP s = 12 := by unfold endP; rw [if_pos he, if_neg hz]
      have HE := Lib.hid HE
      have d3 : decide ((0 : Int) < (s.b.length : Int)) = true := decide_eq_true (by omega)
      have d4 : decide (0 < s.b.length) = true := decide_eq_true (by omega)
      clear he hz
      go_enter Try.func27, Try.ntmps27
      go_wp2
      go_ret
      exact ⟨by rw [HE.out]; rfl, (Below.refl _ _).alloc (Nat.le_refl _) _⟩
  · have d1 : (s.e == 0) = false := by simpa using he
    have d2 : (s.e != 0) = true := by simpa using he
    have HE : endP s = s.e := by unfold endP; rw [if_neg he]
    have HE := Lib.hid HE
    clear he
    go_enter Try.func27, Try.ntmps27
    go_wp2
    go_ret
    exact ⟨by rw [HE.out]; rfl, (Below.refl _ _).alloc (Nat.le_refl _) _⟩


theorem Wr.below {w w' : World} {g : Nat} {xs : List UInt8} (h : Wr w g xs) (hb : Below w.heap.size w w') : Wr w' g xs := by
  obtain ⟨v, h1, h2⟩ := h
  exact ⟨v, h1.below hb h1.lt, own_below h2 hb (Nat.le_refl _)⟩
end Go.Proofs.Ytlgjbdgolchadaa.code
