/-
  The contracts of package code's writer: what was written lies in memory of the writer's own; nothing that is older turns.
-/
import Derived.Test.YtlgjbdgolchadaaParts
import Derived.Test.YtlgjbdgolchadaaBlk
import Derived.Test.YtlgjbdgolchadaaQuiet
import Derived.Lib.Hide
import Derived.Lib.AppendStr
import Derived.Laws.BitsAllLaws
import Derived.WalkSpells
namespace Go.Proofs.Ytlgjbdgolchadaa.code
open Go.RowKit law bytes nums
set_option linter.unusedVariables false

def U64 (n : Nat) : Prop := n < 18446744073709551616
theorem byteE : Elem Try.prog 5 (.int .u8 0) 1 := elem_mk (by kernel_rfl) rfl

def Wr (w : World) (g : Nat) (xs : List UInt8) : Prop := ∃ v, Blk w g 63 #[v] ∧ w.ownsRow (g + 1) 5 1 v xs.length (bv xs)
/-- written behind what there was -/
def Wrote (g : Nat) (xs : List UInt8) (w : World) (e : Ending) (w' : World) : Prop := e = .returned (.tuple #[]) ∧ Below g w w' ∧ Wr w' g xs

theorem wr_put {w1 : World} {g n c1 : Nat} {v : Value} {A1 : Option Addr} {ys : List Value} {zs : List UInt8} (hblk : Blk w1 g 63 #[v]) (hown : w1.ownsRow (g + 1) 5 1 (.slice A1 n c1) n ys) (hy : ys = bv zs) (hn : n = zs.length) :
    Wr (w1.setCell ⟨g, 0, none⟩ (.slice A1 n c1)) g zs := by
  subst hy hn
  exact ⟨_, hblk.set_ 0 _, ownsRow_setCell_below hown (Nat.lt_succ_self g) _⟩
theorem below_put {w wr w1 : World} {g n : Nat} {v u : Value} {xs : List Value} (hb : Below g w wr) (hg : g < wr.heap.size) (o : Obj) (hown : wr.ownsRow (g + 1) 5 1 v n xs) (hg1 : (wr.alloc o).grownBy w1 v.ownBlock) :
    Below g w (w1.setCell ⟨g, 0, none⟩ u) :=
  ((hb.alloc (Nat.le_of_lt hg) o).grown hg1 (by simp; omega) (fun k hk => by have := (hown.lt k hk).1; omega)).setCell (Nat.le_refl g) u
theorem below_put0 {w wr w1 : World} {g n : Nat} {v u : Value} {xs : List Value} (hb : Below g w wr) (hg : g < wr.heap.size) (hown : wr.ownsRow (g + 1) 5 1 v n xs) (hg1 : wr.grownBy w1 v.ownBlock) :
    Below g w (w1.setCell ⟨g, 0, none⟩ u) :=
  (hb.grown hg1 (Nat.le_of_lt hg) (fun k hk => by have := (hown.lt k hk).1; omega)).setCell (Nat.le_refl g) u

theorem num_any (g n : Nat) (hn : U64 n) (xs : List UInt8) (w : World) (hw : Wr w g xs) (hl : xs.length + 10 ≤ 140737488355328) :
    Calls Try.prog 36 #[.pointer (some ⟨g, 0, none⟩), .int .u64 n] w (Wrote g (xs ++ encB n) w) := by
  go_enter Try.func36, Try.ntmps36
  go_wp2
  go_loopw [1] (fun x wr => ∃ (m : Nat) (out : List UInt8), U64 m ∧ x = .int .u64 m ∧ out ++ encB m = encB n ∧ Wr wr g (xs ++ out) ∧ Below g w wr) (fun x _ => (intOf x).toNat)
  case atStart => exact ⟨n, [], hn, rfl, rfl, by simpa using hw, Below.refl _ _⟩
  case round =>
    obtain ⟨m, out, hm, rfl, he, ⟨v, hblk, hown⟩, hb⟩ := hrel
    have HE := Lib.hid he
    have hg := hblk.lt
    have hol : out.length ≤ (encB n).length := by rw [← he, List.length_append]; omega
    have hnl := encB_len hn
    have hc : wr.cell? ⟨g, 0, none⟩ = some v := hblk.cell 0
    have hf : wr.frozen? ⟨g, 0, none⟩ = false := hblk.frozen 0
    have hxl : (xs ++ out).length = xs.length + out.length := List.length_append
    rw [hxl] at hown
    have hpos := encB_pos m
    have hol2 : out.length + (encB m).length ≤ 10 := by have := congrArg List.length he; rw [List.length_append] at this; omega
    clear he hxl hnl hol
    by_cases hlt : m < 128
    · have hd : decide ((128 : Int) ≤ (m : Int)) = false := decide_eq_false (by omega)
      have hx0 : IntKind.u8.wrap (m : Int) = (m : Int) := by rw [IntKind.wrap_u8]; omega
      go_wp2_with (first
        | (at_builtin
           refine wpList_append_sl _ rfl (.tmp 27) (.tmp 30) _ rfl (g + 1) 5 _ 1 Try.underlying32 byteE v (xs.length + out.length) (bv (xs ++ out)) rfl (hown.alloc _) _ _ 1 1 [.int .u8 (m : Int)] rfl (Sl.one wr _ _) rfl (by simp [Value.oneCell']) (by omega) (by unfold maxLen; omega) (by simp; omega) ?_
           intro v1 w1 hown1 hg1 hat1
           obtain ⟨A1, c1, rfl, hc1⟩ := own_slice hown1
           have hblk1 := (hblk.alloc (.cells #[.int .u8 (m : Int)] 5)).grown hg1 (fun e => by have := (hown.lt _ e.symm).1; omega)
           have hd1 : w1.cell? ⟨g, 0, none⟩ = some v := hblk1.cell 0
           have hf1 : w1.frozen? ⟨g, 0, none⟩ = false := hblk1.frozen 0))
      go_end0
      refine ⟨rfl, below_put hb hg _ hown hg1, wr_put hblk1 hown1 ?_ ?_⟩
      · rw [← HE.out, encB_lo hlt, ← List.append_assoc, bv_append (xs ++ out)]
        simp [bv, u8_of (show m < 256 by omega)]
      · have := congrArg List.length HE.out
        rw [encB_lo hlt] at this
        simp only [List.length_append, List.length_singleton] at this ⊢
        omega
    · have hm' : m / 128 < m := by omega
      have HN := Lib.hid (encB_hi (n := m) (by omega))
      have hd : decide ((128 : Int) ≤ (m : Int)) = true := decide_eq_true (by omega)
      go_wp2_with (first
        | (at_builtin
           refine wpList_append_sl _ rfl (.tmp 12) (.tmp 17) _ rfl (g + 1) 5 _ 1 Try.underlying32 byteE v (xs.length + out.length) (bv (xs ++ out)) rfl (hown.alloc _) _ _ 1 1 [.int .u8 ((m : Int) % 128 + 128)] rfl (Sl.one wr _ _) rfl (by simp [Value.oneCell']) (by omega) (by unfold maxLen; omega) (by simp; omega) ?_
           intro v1 w1 hown1 hg1 hat1
           obtain ⟨A1, c1, rfl, hc1⟩ := own_slice hown1
           have hblk1 := (hblk.alloc (.cells #[.int .u8 ((m : Int) % 128 + 128)] 5)).grown hg1 (fun e => by have := (hown.lt _ e.symm).1; omega)
           have hd1 : w1.cell? ⟨g, 0, none⟩ = some v := hblk1.cell 0
           have hf1 : w1.frozen? ⟨g, 0, none⟩ = false := hblk1.frozen 0))
      go_roundw
      case rel =>
        refine ⟨m / 128, out ++ [UInt8.ofNat (m % 128 + 128)], ?_, ?_, ?_, wr_put hblk1 hown1 ?_ ?_, below_put hb hg _ hown hg1⟩
        · unfold U64 at *; omega
        · rfl
        · rw [← HE.out, HN.out, List.append_assoc]; rfl
        · rw [← List.append_assoc, bv_append (xs ++ out)]
          simp [bv]
          omega
        · simp only [List.length_append, List.length_singleton]; omega
      case measure => simp [intOf]; omega
theorem num_nil (n : Int) (w : World) : Calls Try.prog 36 #[.pointer none, .int .u64 n] w fun e w' => e = .returned (.tuple #[]) ∧ w = w' := by
  go_enter Try.func36, Try.ntmps36
  go_wp2
  exact bodyPost_ret (results_none rfl _ _ _) rfl ⟨rfl, rfl⟩

theorem nat_not (x : Nat) (hx : x < 18446744073709551616) : 18446744073709551615 ^^^ x = 18446744073709551615 - x := by
  have h := congrArg BitVec.toNat (BitVec.allOnes_xor (x := BitVec.ofNat 64 x))
  rw [BitVec.toNat_xor, BitVec.toNat_not, BitVec.toNat_allOnes, BitVec.toNat_ofNat, Nat.mod_eq_of_lt (by omega)] at h
  exact h
theorem u64_not (x : Nat) (hx : x < 18446744073709551616) : bits .xor .u64 IntKind.u64.max (x : Int) = ((18446744073709551615 - x : Nat) : Int) := by
  have e : IntKind.u64.max = ((18446744073709551615 : Nat) : Int) := by decide
  rw [e, u64_xor_nat _ _ (by omega) hx, nat_not x hx]
theorem neg_eq (i : Int) (h1 : -9223372036854775808 ≤ i) (h : i < 0) : bits .xor .u64 IntKind.u64.max (IntKind.u64.wrap (IntKind.u64.wrap i * 2)) = (encI i : Int) := by
  have e : IntKind.u64.wrap (IntKind.u64.wrap i * 2) = (((2 * i + 18446744073709551616).toNat : Nat) : Int) := by
    simp only [IntKind.wrap_u64]; omega
  rw [e, u64_not _ (by omega)]
  unfold encI
  rw [if_pos h]
  omega
theorem numberOf_any (i : Int) (h1 : -9223372036854775808 ≤ i) (h2 : i ≤ 9223372036854775807) (w : World) : Calls Try.prog 50 #[.int .i64 i] w fun e w' => e = .returned (.int .u64 (encI i)) ∧ w = w' := by
  by_cases hneg : i < 0
  · go_enter Try.func50, Try.ntmps50
    go_wp2
    go_ret
    exact ⟨ret_int (neg_eq i h1 hneg), rfl⟩
  · go_enter Try.func50, Try.ntmps50
    go_wp2
    go_ret
    exact ⟨ret_int (by unfold encI; rw [if_neg (by omega)]; omega), rfl⟩

theorem signed_any (i : Int) (h1 : -9223372036854775808 ≤ i) (h2 : i ≤ 9223372036854775807) (w : World) : Calls Try.prog 45 #[.int .i64 i] w fun e w' => e = .returned (.int .u64 (encI i)) ∧ w = w' := by
  by_cases hneg : i < 0
  · go_enter Try.func45, Try.ntmps45
    go_wp2
    go_ret
    exact ⟨ret_int (by unfold encI; rw [if_pos hneg]; omega), rfl⟩
  · go_enter Try.func45, Try.ntmps45
    go_wp2
    go_ret
    exact ⟨ret_int (by unfold encI; rw [if_neg (by omega)]; omega), rfl⟩

theorem new_any (w : World) : Calls Try.prog 15 #[] w fun e w' => e = .returned (.pointer (some ⟨w.heap.size, 0, none⟩)) ∧ Below w.heap.size w w' ∧ Wr w' w.heap.size [] := by
  go_enter Try.func15, Try.ntmps15
  go_wp2
  go_ret
  refine ⟨rfl, (Below.refl _ _).alloc (Nat.le_refl _) _, _, Blk.new _ _ _, ?_⟩
  exact World.ownsRow_nil _ _ _ _

def ByteMade (xs : List UInt8) (w : World) (e : Ending) (w' : World) : Prop := ∃ A c, e = .returned (.slice A xs.length c) ∧ xs.length ≤ c ∧ Sl w' w'.heap.size A (bv xs) ∧ Below w.heap.size w w'
theorem clone_any (A : Option Addr) (l : List UInt8) (n c B : Nat) (w : World) (hn : l.length = n) (hm : n ≤ 140737488355328) (hB : B ≤ w.heap.size) (hs : Sl w B A (bv l)) :
    Calls Try.prog 38 #[.slice A n c] w (ByteMade l w) := by
  subst hn
  have heq := fun (W : World) (a : Option Addr) (n c : Nat) => Lib.run_eql_slice_nil (P := Try.prog) W 32 5 a n c 0 0 Try.underlying32
  rcases A with _ | a
  · go_enter Try.func38, Try.ntmps38
    go_wp2
    go_ret
    obtain rfl : l = [] := by
      rcases l with _ | ⟨x, r⟩
      · rfl
      · obtain ⟨ad, h, _⟩ := hs 0 _ rfl
        cases h
    exact ⟨none, 0, rfl, Nat.le_refl _, Sl.nil, Below.refl _ _⟩
  · go_enter Try.func38, Try.ntmps38
    go_wp2_with (first
      | (at_builtin
         refine wpList_append_sl _ rfl (.tmp 5) (.tmp 6) _ rfl w.heap.size 5 _ 1 Try.underlying32 byteE (.slice (some ⟨w.heap.size, 0, none⟩) 0 0) 0 [] rfl (World.ownsRow_lit w #[] 0 (Nat.le_refl _) (by unfold maxLen; omega) rfl) _ (some a) l.length c (bv l) rfl (hs.alloc hB _) (bv_length _) (bv_one _) (by omega) (by unfold maxLen; omega) (by simp) ?_
         intro v1 w1 hown1 hg1 hat1
         have hb1 : Below w.heap.size w w1 := ((Below.refl _ w).alloc (Nat.le_refl _) _).grown hg1 (by simp) (by simp [Value.ownBlock])
         simp only [Nat.zero_add, List.nil_append] at hown1
         obtain ⟨A1, c1, rfl, hc1⟩ := own_slice hown1))
    go_ret
    exact ⟨A1, c1, rfl, hc1, Sl.of_own hown1, hb1⟩
end Go.Proofs.Ytlgjbdgolchadaa.code
