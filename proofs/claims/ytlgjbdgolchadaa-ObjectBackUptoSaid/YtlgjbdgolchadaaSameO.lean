/-
  The contract of object.Same, and what lives.
-/
import Derived.Test.YtlgjbdgolchadaaRight
namespace Go.Proofs.Ytlgjbdgolchadaa.obj
open Go.RowKit law bytes nums ord
set_option linter.unusedVariables false

def Alike (l m : List Int) (k : Nat) : Prop := l.take k = m.take k
theorem Alike.zero {l m : List Int} : Alike l m 0 := by simp [Alike]
theorem Alike.step {l m : List Int} {k : Nat} (h : Alike l m k) (h1 : k < l.length) (h2 : k < m.length) (he : l[k] = m[k]) : Alike l m (k + 1) := by
  unfold Alike at *
  rw [List.take_succ_eq_append_getElem h1, List.take_succ_eq_append_getElem h2, h, he]
theorem Alike.all {l m : List Int} {k : Nat} (h : Alike l m k) (hl : m.length = l.length) (hk : l.length ≤ k) : l = m := by
  unfold Alike at h
  rwa [List.take_of_length_le hk, List.take_of_length_le (by omega)] at h
/-- a bool, and nothing but draws -/
def Tells (b : Bool) (w : World) (e : Ending) (w' : World) : Prop := e = .returned (.bool b) ∧ ∃ k, w' = w.drewN k

set_option maxHeartbeats 800000 in
theorem equal_len (A A' : Option Addr) (n n' c c' : Nat) (w : World) (hne : n ≠ n') :
    Calls Try.prog 32 #[.slice A n c, .slice A' n' c'] w (Tells false w) := by
  have h1 : ((n : Int) == (n' : Int)) = false := by simp; omega
  have h2 : ((n : Int) != (n' : Int)) = true := by simp; omega
  go_enter Try.func32, Try.ntmps32
  go_wp2
  go_ret
  exact ⟨rfl, 0, rfl⟩
set_option maxHeartbeats 800000 in
theorem equal_eqlen (A A' : Option Addr) (l m : List Int) (c c' B B' : Nat) (w : World) (hl : m.length = l.length) (hm : l.length ≤ 281474976710656) (hs : Sl w B A (iv l)) (hs' : Sl w B' A' (iv m)) :
    Calls Try.prog 32 #[.slice A l.length c, .slice A' l.length c'] w (Tells (decide (l = m)) w) := by
  have HL := Lib.hid hl
  clear hl
  go_enter Try.func32, Try.ntmps32
  go_wp2
  go_loopw [13] (fun i wr => ∃ k j : Nat, k ≤ l.length ∧ i = .int .i64 k ∧ Alike l m k ∧ wr = w.drewN j) (fun i _ => l.length - (intOf i).toNat)
  case atStart => exact ⟨0, 0, Nat.zero_le _, rfl, Alike.zero, rfl⟩
  case round =>
    obtain ⟨k, j, hk, rfl, HT, rfl⟩ := hrel
    by_cases hlt : k < l.length
    · have hlm : k < m.length := by have := HL.out; omega
      obtain ⟨ad, rfl, hb, hc⟩ := Sl.num hs hlt
      obtain ⟨ad', rfl, hb', hc'⟩ := Sl.num hs' hlm
      by_cases he : l[k] = m[k]
      · have HE := Lib.hid he
        rw [← he] at hc'
        clear he hs hs'
        go_wp2
        go_quiet (fail)
        go_wp2
        go_roundw
        case rel => exact ⟨k + 1, _, by omega, by go_num, HT.step hlt hlm HE.out, rfl⟩
        case measure => simp [intOf]; omega
      · have HE := Lib.hid he
        have h1 : (l[k] == m[k]) = false := by simpa using he
        have h2 : (l[k] != m[k]) = true := by simpa using he
        clear he hs hs'
        go_wp2
        go_quiet (fail)
        go_wp2
        go_ret
        exact ⟨ret_bool (by symm; exact decide_eq_false (fun h => HE.out (by subst h; rfl))), _, World.drewN_drewN _ _ _⟩
    · go_wp2
      go_ret
      exact ⟨ret_bool (by symm; exact decide_eq_true (HT.all HL.out (by omega))), _, rfl⟩
theorem equal_any (A A' : Option Addr) (l m : List Int) (c c' B B' : Nat) (w : World) (hm : l.length ≤ 281474976710656) (hs : Sl w B A (iv l)) (hs' : Sl w B' A' (iv m)) :
    Calls Try.prog 32 #[.slice A l.length c, .slice A' m.length c'] w (Tells (decide (l = m)) w) := by
  by_cases h : l.length = m.length
  · rw [← h]
    exact equal_eqlen A A' l m c c' B B' w h.symm hm hs hs'
  · rw [decide_eq_false (fun e => h (by rw [e]))]
    exact equal_len A A' _ _ c c' w h

theorem two_box (w : World) (t : Nat) (a b : Array Value) : Below w.heap.size w ((w.alloc (.cells a t)).alloc (.cells b t)) ∧ Blk ((w.alloc (.cells a t)).alloc (.cells b t)) w.heap.size t a ∧ Blk ((w.alloc (.cells a t)).alloc (.cells b t)) (w.heap.size + 1) t b := by
  refine ⟨((Below.refl _ w).alloc (Nat.le_refl _) _).alloc (by simp) _, (Blk.new w t a).alloc _, ?_⟩
  have h := Blk.new (w.alloc (.cells a t)) t b
  rwa [show (w.alloc (.cells a t)).heap.size = w.heap.size + 1 from by simp] at h
theorem sameO_iff (x y : Thing) : sameO x y = true ↔ x.tag = y.tag ∧ x.str = y.str ∧ x.vec = y.vec := by
  unfold sameO
  rw [decide_eq_true_iff, cmpO_tot.zero]
  obtain ⟨a, b, c⟩ := x
  obtain ⟨a', b', c'⟩ := y
  simp only [Thing.mk.injEq]
  exact ⟨fun ⟨h1, h2, h3⟩ => ⟨h1, h3, h2⟩, fun ⟨h1, h2, h3⟩ => ⟨h1, h3, h2⟩⟩
theorem list_eq_iff (a b : ByteArray) : (a.toList == b.toList) = decide (a = b) := by
  rw [Bool.eq_iff_iff]
  simp only [beq_iff_eq, decide_eq_true_eq, Lib.toList_data]
  exact ⟨fun h => tl_inj h, fun h => by rw [h]⟩
set_option maxHeartbeats 800000 in
theorem same_any (A A' : Option Addr) (c c' B B' : Nat) (x y : Thing) (w : World) (hx : x.vec.length ≤ 281474976710656) (hB : B ≤ w.heap.size) (hB' : B' ≤ w.heap.size) (hs : Sl w B A (iv x.vec)) (hs' : Sl w B' A' (iv y.vec)) :
    Calls Try.prog 13 #[.agg #[.int .i64 x.tag, .slice A x.vec.length c, .string x.str], .agg #[.int .i64 y.tag, .slice A' y.vec.length c', .string y.str]] w (Gives (.bool (sameO x y)) w) := by
  have hse := list_eq_iff x.str y.str
  have hi := sameO_iff x y
  obtain ⟨hb, -, -⟩ := two_box w 24 #[.int .i64 x.tag, .slice A x.vec.length c, .string x.str] #[.int .i64 y.tag, .slice A' y.vec.length c', .string y.str]
  have hq := equal_any A A' x.vec y.vec c c' B B' ((w.alloc (.cells #[.int .i64 x.tag, .slice A x.vec.length c, .string x.str] 24)).alloc (.cells #[.int .i64 y.tag, .slice A' y.vec.length c', .string y.str] 24)) hx ((hs.alloc hB _).alloc (by simp; omega) _) ((hs'.alloc hB' _).alloc (by simp; omega) _)
  by_cases h1 : x.tag = y.tag
  case neg =>
    have hR : sameO x y = false := by
      rw [Bool.eq_false_iff]; intro h; exact h1 (hi.1 h).1
    have HR := Lib.hid hR
    have d1 : (x.tag == y.tag) = false := by simpa using h1
    clear hR h1 hi hse hq
    go_enter Try.func13, Try.ntmps13
    go_wp2_with (fail)
    go_ret
    rw [HR.out]
    exact ⟨rfl, hb⟩
  have d1 : (x.tag == y.tag) = true := by simpa using h1
  by_cases h2 : x.str = y.str
  case neg =>
    have hR : sameO x y = false := by
      rw [Bool.eq_false_iff]; intro h; exact h2 (hi.1 h).2.1
    have HR := Lib.hid hR
    rw [decide_eq_false h2] at hse
    clear hR h1 h2 hi hq
    go_enter Try.func13, Try.ntmps13
    go_wp2_with (fail)
    go_ret
    rw [HR.out]
    exact ⟨rfl, hb⟩
  rw [decide_eq_true h2] at hse
  have hR : sameO x y = decide (x.vec = y.vec) := by
    rw [Bool.eq_iff_iff, hi, decide_eq_true_iff]
    exact ⟨fun h => h.2.2, fun h => ⟨h1, h2, h⟩⟩
  rw [← hR] at hq
  clear hR h1 h2 hi
  have HQ := Lib.hid hq
  clear hq
  go_enter Try.func13, Try.ntmps13
  go_wp2_with (fail)
  refine HQ.out.mono ?_
  rintro e w1 ⟨rfl, k, rfl⟩
  go_wp2_with (fail)
  go_ret
  exact ⟨rfl, below_drewN' hb k⟩
end Go.Proofs.Ytlgjbdgolchadaa.obj
