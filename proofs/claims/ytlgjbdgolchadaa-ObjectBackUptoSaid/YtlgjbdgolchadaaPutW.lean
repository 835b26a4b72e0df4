/-
  The contracts of package code's writer, with a block that stays as it is.
-/
import Derived.Test.YtlgjbdgolchadaaWrite5
namespace Go.Proofs.Ytlgjbdgolchadaa.code
open Go.RowKit law bytes nums
set_option linter.unusedVariables false

def WrP (w : World) (g p : Nat) (xs : List UInt8) : Prop := ∃ v, Blk w g 63 #[v] ∧ w.ownsRow (g + 1) 5 1 v xs.length (bv xs) ∧ v.ownBlock ≠ some p ∧ p ≠ g ∧ p < w.heap.size
def WroteP (g p : Nat) (xs : List UInt8) (w : World) (e : Ending) (w' : World) : Prop := e = .returned (.tuple #[]) ∧ Below g w w' ∧ WrP w' g p xs ∧ w'.heap[p]? = w.heap[p]?
theorem WrP.wr {w : World} {g p : Nat} {xs : List UInt8} (h : WrP w g p xs) : Wr w g xs := by
  obtain ⟨v, h1, h2, -⟩ := h
  exact ⟨v, h1, h2⟩
theorem Wr.box {w : World} {g : Nat} {xs : List UInt8} (h : Wr w g xs) (o : Obj) : WrP (w.alloc o) g w.heap.size xs := by
  obtain ⟨v, h1, h2⟩ := h
  refine ⟨v, h1.alloc o, h2.alloc o, fun e => ?_, (Nat.ne_of_lt h1.lt).symm, by simp⟩
  have := (h2.lt _ e).2
  omega
theorem put_p {wr W0 w1 : World} {g p n c1 : Nat} {v : Value} {A1 : Option Addr} {ys : List Value} {zs : List UInt8} (hblk : Blk w1 g 63 #[v]) (hown : w1.ownsRow (g + 1) 5 1 (.slice A1 n c1) n ys) (hy : ys = bv zs) (hn : n = zs.length)
    (hg1 : W0.grownBy w1 v.ownBlock) (hat : (Value.slice A1 n c1).ownBlock = v.ownBlock ∨ (Value.slice A1 n c1).ownBlock = some W0.heap.size) (hsz : wr.heap.size ≤ W0.heap.size) (hW : W0.heap[p]? = wr.heap[p]?) (hp : p < wr.heap.size) (hpg : p ≠ g) (hpv : v.ownBlock ≠ some p) :
    WrP (w1.setCell ⟨g, 0, none⟩ (.slice A1 n c1)) g p zs ∧ (w1.setCell ⟨g, 0, none⟩ (.slice A1 n c1)).heap[p]? = wr.heap[p]? := by
  subst hy hn
  have h1 : w1.heap[p]? = W0.heap[p]? := hg1.block p (by omega) (fun e => hpv e.symm)
  have h2 : (w1.setCell ⟨g, 0, none⟩ (.slice A1 zs.length c1)).heap[p]? = w1.heap[p]? := Below.heap_setCell w1 ⟨g, 0, none⟩ _ p hpg
  refine ⟨⟨_, hblk.set_ 0 _, ownsRow_setCell_below hown (Nat.lt_succ_self g) _, ?_, hpg, ?_⟩, h2.trans (h1.trans hW)⟩
  · intro e
    rcases hat with h | h
    · exact hpv (h ▸ e)
    · rw [h] at e
      injection e with e
      omega
  · have := hg1.size
    simp [World.setCell]
    omega
theorem heap_alloc_p (w : World) (o : Obj) (p : Nat) (hp : p < w.heap.size) : (w.alloc o).heap[p]? = w.heap[p]? := Below.heap_alloc w o p hp

theorem num_p (g p n : Nat) (hn : U64 n) (xs : List UInt8) (w : World) (hw : WrP w g p xs) (hl : xs.length + 10 ≤ 140737488355328) :
    Calls Try.prog 36 #[.pointer (some ⟨g, 0, none⟩), .int .u64 n] w (WroteP g p (xs ++ encB n) w) := by
  go_enter Try.func36, Try.ntmps36
  go_wp2
  go_loopw [1] (fun x wr => ∃ (m : Nat) (out : List UInt8), U64 m ∧ x = .int .u64 m ∧ out ++ encB m = encB n ∧ WrP wr g p (xs ++ out) ∧ Below g w wr ∧ wr.heap[p]? = w.heap[p]?) (fun x _ => (intOf x).toNat)
  case atStart => exact ⟨n, [], hn, rfl, rfl, by simpa using hw, Below.refl _ _, rfl⟩
  case round =>
    obtain ⟨m, out, hm, rfl, he, ⟨v, hblk, hown, hpv, hpg, hpl⟩, hb, hpe⟩ := hrel
    have HE := Lib.hid he
    have HP := Lib.hid hpe
    have HPV := Lib.hid hpv
    have HPG := Lib.hid hpg
    have hg := hblk.lt
    have hol : out.length ≤ (encB n).length := by rw [← he, List.length_append]; omega
    have hnl := encB_len hn
    have hc : wr.cell? ⟨g, 0, none⟩ = some v := hblk.cell 0
    have hf : wr.frozen? ⟨g, 0, none⟩ = false := hblk.frozen 0
    have hxl : (xs ++ out).length = xs.length + out.length := List.length_append
    rw [hxl] at hown
    have hpos := encB_pos m
    have hol2 : out.length + (encB m).length ≤ 10 := by have := congrArg List.length he; rw [List.length_append] at this; omega
    clear he hxl hnl hol hpe hpv hpg hw
    by_cases hlt : m < 128
    · have hd : decide ((128 : Int) ≤ (m : Int)) = false := decide_eq_false (by omega)
      have hx0 : IntKind.u8.wrap (m : Int) = (m : Int) := by rw [IntKind.wrap_u8]; omega
      go_wp2_with (first
        | (at_builtin
           refine wpList_append_sl _ rfl (.tmp 27) (.tmp 30) _ rfl (g + 1) 5 _ 1 Try.underlying32 byteE v (xs.length + out.length) (bv (xs ++ out)) rfl (hown.alloc _) _ _ 1 1 [.int .u8 (m : Int)] rfl (Sl.one wr _ _) rfl (by simp [Value.oneCell']) (by omega) (by unfold maxLen; omega) (by simp; omega) ?_
           intro v1 w1 hown1 hg1 hat1
           obtain ⟨A1, c1, rfl, hc1⟩ := own_slice hown1
           have hblk1 := (hblk.alloc (.cells #[.int .u8 (m : Int)] 5)).grown hg1 (fun e => by have := (hown.lt _ e.symm).1; omega)
           have hd1 : w1.cell? ⟨g, 0, none⟩ = some v := hblk1.cell 0
           have hf1 : w1.frozen? ⟨g, 0, none⟩ = false := hblk1.frozen 0))
      go_end0
      obtain ⟨k1, k2⟩ := put_p (wr := wr) (p := p) (zs := xs ++ encB n) hblk1 hown1 (by
          rw [← HE.out, encB_lo hlt, ← List.append_assoc, bv_append (xs ++ out)]
          simp [bv, u8_of (show m < 256 by omega)]) (by
          have := congrArg List.length HE.out
          rw [encB_lo hlt] at this
          simp only [List.length_append, List.length_singleton] at this ⊢
          omega) hg1 hat1 (by simp) (heap_alloc_p wr _ p hpl) hpl HPG.out HPV.out
      exact ⟨rfl, below_put hb hg _ hown hg1, k1, k2.trans HP.out⟩
    · have hm' : m / 128 < m := by omega
      have HN := Lib.hid (encB_hi (n := m) (by omega))
      have hd : decide ((128 : Int) ≤ (m : Int)) = true := decide_eq_true (by omega)
      go_wp2_with (first
        | (at_builtin
           refine wpList_append_sl _ rfl (.tmp 12) (.tmp 17) _ rfl (g + 1) 5 _ 1 Try.underlying32 byteE v (xs.length + out.length) (bv (xs ++ out)) rfl (hown.alloc _) _ _ 1 1 [.int .u8 ((m : Int) % 128 + 128)] rfl (Sl.one wr _ _) rfl (by simp [Value.oneCell']) (by omega) (by unfold maxLen; omega) (by simp; omega) ?_
           intro v1 w1 hown1 hg1 hat1
           obtain ⟨A1, c1, rfl, hc1⟩ := own_slice hown1
           have hblk1 := (hblk.alloc (.cells #[.int .u8 ((m : Int) % 128 + 128)] 5)).grown hg1 (fun e => by have := (hown.lt _ e.symm).1; omega)
           have hd1 : w1.cell? ⟨g, 0, none⟩ = some v := hblk1.cell 0
           have hf1 : w1.frozen? ⟨g, 0, none⟩ = false := hblk1.frozen 0))
      go_roundw
      case rel =>
        obtain ⟨k1, k2⟩ := put_p (wr := wr) (p := p) (zs := xs ++ (out ++ [UInt8.ofNat (m % 128 + 128)])) hblk1 hown1 (by
            rw [← List.append_assoc, bv_append (xs ++ out)]
            simp [bv]
            omega) (by simp only [List.length_append, List.length_singleton]; omega) hg1 hat1 (by simp) (heap_alloc_p wr _ p hpl) hpl HPG.out HPV.out
        refine ⟨m / 128, out ++ [UInt8.ofNat (m % 128 + 128)], ?_, ?_, ?_, k1, below_put hb hg _ hown hg1, k2.trans HP.out⟩
        · unfold U64 at *; omega
        · rfl
        · rw [← HE.out, HN.out, List.append_assoc]; rfl
      case measure => simp [intOf]; omega
theorem int_p (g p : Nat) (i : Int) (h1 : -9223372036854775808 ≤ i) (h2 : i ≤ 9223372036854775807) (xs : List UInt8) (w : World) (hw : WrP w g p xs) (hl : xs.length + 10 ≤ 140737488355328) :
    Calls Try.prog 35 #[.pointer (some ⟨g, 0, none⟩), .int .i64 i] w (WroteP g p (xs ++ encB (encI i)) w) := by
  have hx := numberOf_any i h1 h2
  have hy := num_p g p (encI i) (encI_lt h1 h2) xs
  go_enter Try.func35, Try.ntmps35
  go_wp2_with (first
    | (go_at_call 50; (with_reducible refine (hx _).mono ?_); rintro e w' ⟨rfl, rfl⟩)
    | (go_at_call 36; (with_reducible refine (hy _ hw hl).mono ?_); rintro e w' ⟨rfl, hb, hw', hp⟩))
  go_end0
  exact ⟨rfl, hb, hw', hp⟩
end Go.Proofs.Ytlgjbdgolchadaa.code
