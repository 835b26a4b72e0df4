/-
  The document's own comparison of bytes: it leaves the world alone, but for draws.
-/
import Derived.Test.YtlgjbdgolchadaaBytes
import Derived.Test.YtlgjbdgolchadaaQuiet
import Derived.Lib.Hide
namespace Go.Proofs.Ytlgjbdgolchadaa.same
open Go.RowKit law bytes
set_option linter.unusedVariables false

/-- a bool, and nothing but draws -/
def Tells (b : Bool) (w : World) (e : Ending) (w' : World) : Prop := e = .returned (.bool b) ∧ ∃ k, w' = w.drewN k

def Alike (l m : List UInt8) (k : Nat) : Prop := l.take k = m.take k
theorem Alike.zero {l m : List UInt8} : Alike l m 0 := by simp [Alike]
theorem Alike.step {l m : List UInt8} {k : Nat} (h : Alike l m k) (h1 : k < l.length) (h2 : k < m.length) (he : l[k] = m[k]) : Alike l m (k + 1) := by
  unfold Alike at *
  rw [List.take_succ_eq_append_getElem h1, List.take_succ_eq_append_getElem h2, h, he]
theorem Alike.all {l m : List UInt8} {k : Nat} (h : Alike l m k) (hl : m.length = l.length) (hk : l.length ≤ k) : l = m := by
  unfold Alike at h
  rwa [List.take_of_length_le hk, List.take_of_length_le (by omega)] at h

set_option maxHeartbeats 800000 in
theorem same_len (A A' : Option Addr) (n n' c c' : Nat) (w : World) (hne : n ≠ n') :
    Calls Try.prog 20 #[.slice A n c, .slice A' n' c'] w (Tells false w) := by
  have h1 : ((n : Int) == (n' : Int)) = false := by simp; omega
  have h2 : ((n : Int) != (n' : Int)) = true := by simp; omega
  go_enter Try.func20, Try.ntmps20
  go_wp2
  go_ret
  exact ⟨rfl, 0, rfl⟩

set_option maxHeartbeats 800000 in
theorem same_eqlen (A A' : Option Addr) (l m : List UInt8) (c c' B B' : Nat) (w : World) (hl : m.length = l.length) (hm : l.length ≤ 281474976710656) (hs : Sl w B A (bv l)) (hs' : Sl w B' A' (bv m)) :
    Calls Try.prog 20 #[.slice A l.length c, .slice A' l.length c'] w (Tells (decide (l = m)) w) := by
  have HL := Lib.hid hl
  clear hl
  go_enter Try.func20, Try.ntmps20
  go_wp2
  go_loopw [5] (fun i wr => ∃ k j : Nat, k ≤ l.length ∧ i = .int .i64 k ∧ Alike l m k ∧ wr = w.drewN j) (fun i _ => l.length - (intOf i).toNat)
  case atStart => exact ⟨0, 0, Nat.zero_le _, rfl, Alike.zero, rfl⟩
  case round =>
    obtain ⟨k, j, hk, rfl, HT, rfl⟩ := hrel
    by_cases hlt : k < l.length
    · have hlm : k < m.length := by have := HL.out; omega
      obtain ⟨ad, rfl, hb, hc⟩ := hs.byte hlt
      obtain ⟨ad', rfl, hb', hc'⟩ := hs'.byte hlm
      by_cases he : l[k] = m[k]
      · have HE := Lib.hid he
        rw [← he] at hc'
        clear he hs hs'
        go_wp2
        go_quiet (fail)
        go_wp2
        go_roundw
        case rel => exact ⟨k + 1, _, by omega, by go_num, HT.step hlt hlm HE.out, rfl⟩
        case measure => simp [intOf]; omega
      · have HE := Lib.hid he
        have h1 : ((l[k].toNat : Int) == (m[k].toNat : Int)) = false := by
          have : l[k].toNat ≠ m[k].toNat := fun h => he (UInt8.toNat_inj.1 h)
          simp; omega
        have h2 : ((l[k].toNat : Int) != (m[k].toNat : Int)) = true := by simpa using h1
        clear he hs hs'
        go_wp2
        go_quiet (fail)
        go_wp2
        go_ret
        exact ⟨ret_bool (by symm; exact decide_eq_false (fun h => HE.out (by subst h; rfl))), _, World.drewN_drewN _ _ _⟩
    · go_wp2
      go_ret
      exact ⟨ret_bool (by symm; exact decide_eq_true (HT.all HL.out (by omega))), _, rfl⟩
theorem same_any (A A' : Option Addr) (l m : List UInt8) (n n' c c' B B' : Nat) (w : World) (hl : l.length = n) (hl' : m.length = n') (hm : n ≤ 281474976710656) (hs : Sl w B A (bv l)) (hs' : Sl w B' A' (bv m)) :
    Calls Try.prog 20 #[.slice A n c, .slice A' n' c'] w (Tells (decide (l = m)) w) := by
  by_cases h : n = n'
  · subst h; subst hl
    exact same_eqlen A A' l m c c' B B' w hl' hm hs hs'
  · rw [decide_eq_false (fun e => h (by subst e; omega))]
    exact same_len A A' n n' c c' w h
end Go.Proofs.Ytlgjbdgolchadaa.same
