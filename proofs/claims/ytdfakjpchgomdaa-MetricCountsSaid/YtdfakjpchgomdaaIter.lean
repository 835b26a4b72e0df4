/-
  What lone.gaps hands back, as a sequence: how far the numbers of two vectors are apart, place by place, as long as they are asked for.
-/
import Derived.RangeFuncNested
import Derived.RangeFuncBound
import Derived.RangeFuncCalls
import Derived.RangeFuncLeaves
import Derived.Shelf.Abstract
import Derived.Shelf.RegionOpen
import Derived.WalkKit
import Derived.OwnWalkIn
import Derived.TacticsInMore
import Derived.LoopNIn
import Derived.LoopIn
import Derived.Test.YtdfakjpchgomdaaGap
namespace Go.Proofs.Ytdfakjpchgomdaa.lone
open Go.RowKit Go.Shelf law bytes dist
set_option linter.unusedVariables false
attribute [local go_sem] Oper.semAt_some

/-- how far the first k places are apart, each by itself -/
def gs (l m : List Int) (k : Nat) : List Int := (List.range k).map fun j => gp (nm l j) (nm m j)
theorem gs_succ (l m : List Int) (k : Nat) : gs l m (k + 1) = gs l m k ++ [gp (nm l k) (nm m k)] := by simp [gs, List.range_succ]
theorem gs_length (l m : List Int) (k : Nat) : (gs l m k).length = k := by simp [gs]
theorem gs_zero (l m : List Int) : gs l m 0 = [] := rfl
/-- what a round keeps: all below n₀, and the two boxes -/
def Kp (n₀ p q : Nat) (W W' : World) : Prop := Below n₀ W W' ∧ W'.cell? ⟨p, 0, none⟩ = W.cell? ⟨p, 0, none⟩ ∧ W'.cell? ⟨q, 0, none⟩ = W.cell? ⟨q, 0, none⟩
theorem Kp.trans {n₀ p q : Nat} {A B C : World} (h : Kp n₀ p q A B) (k : Kp n₀ p q B C) : Kp n₀ p q A C := ⟨h.1.trans k.1, k.2.1.trans h.2.1, k.2.2.trans h.2.2⟩

/-- a round has gone on, or has said 'no more' -/
def Went (J Jx : List Int → World → Prop) (n₀ p q : Nat) (xs : List Int) (W : World) (r : Bool) (W' : World) : Prop := (r = true → J xs W' ∧ Kp n₀ p q W W') ∧ (r = false → Jx xs W')
set_option maxRecDepth 100000 in
set_option maxHeartbeats 2000000 in
theorem iter_in (n : Nat) (hn : 3 ≤ n) (l p q n₀ : Nat) (A1 A2 : Option Addr) (c1 c2 : Nat) (a b : List Int) (ha : Bd a) (hb : Bd b) (hla : a.length ≤ 1048576) (hlb : b.length ≤ 1048576) (J Jx : List Int → World → Prop)
    (hY : ∀ pre x W, J pre W → pre.length < mx a b → YieldAt Fence.wide (n - 1) Try.prog l #[.int .i64 x] W fun e W' =>
      (e = .returned (.bool true) ∧ J (pre ++ [x]) W' ∧ Kp n₀ p q W W') ∨ (e = .returned (.bool false) ∧ Jx (pre ++ [x]) W'))
    (hJ : ∀ (pre : List Int) (W : World), J pre W → J pre W.drew)
    (W : World) (hp : W.cell? ⟨p, 0, none⟩ = some (.slice A1 a.length c1)) (hq : W.cell? ⟨q, 0, none⟩ = some (.slice A2 b.length c2)) (s1 : Sl W n₀ A1 (iv a)) (s2 : Sl W n₀ A2 (iv b)) (h0 : J [] W) :
    CallsIn Fence.wide n Try.prog 45 #[.func (.yield l) #[] #[], .pointer (some ⟨p, 0, none⟩), .pointer (some ⟨q, 0, none⟩)] W fun e W' => (∃ v, e = .returned v) ∧
      ((∃ ys, ys = gs a b (mx a b) ∧ J ys W') ∨ (∃ pre, (∃ k, k ≤ mx a b ∧ pre = gs a b k) ∧ Jx pre W')) := by
  refine callsIn_of_wp Try.func45 rfl trivial ?_ rfl
  simp only [Try.ntmps45, List.size_toArray, List.length_cons, List.length_nil, Nat.reduceAdd, Nat.reduceSub, Array.replicate_succ, Array.replicate_zero, List.push_toArray, List.append_toArray, List.nil_append, List.cons_append]
  have h1 : 1 ≤ n := by omega
  have hmo : Try.prog.follows .mixedOrders = true := by kernel_rfl
  have hm1 : a.length ≤ mx a b := by unfold mx; omega
  have hm2 : b.length ≤ mx a b := by unfold mx; omega
  have hm3 : mx a b ≤ 1048576 := by unfold mx; omega
  have hm4 : mx a b = max a.length b.length := rfl
  generalize mx a b = N at hm1 hm2 hm3 hm4 hY ⊢
  by_cases hab : a.length < b.length
  · obtain rfl : N = b.length := by omega
    clear hm4
    gi_wp2
    gi_loopw [10] (fun i wr => ∃ k : Nat, k ≤ b.length ∧ i = .int .i64 k ∧ J (gs a b k) wr ∧ Kp n₀ p q W wr)
      (fun i _ => b.length - (intOf i).toNat)
    case atStart => exact ⟨0, Nat.zero_le _, rfl, h0, Below.refl _ _, rfl, rfl⟩
    case round =>
      obtain ⟨k, hk, rfl, hJs, hkp⟩ := hrel
      by_cases hlt : k < b.length
      · have hJd := hJ _ _ hJs
        obtain ⟨fn, tmps, assign, body, hy, hR⟩ := hY _ (gp (nm a k) (nm b k)) wr.drew hJd (by rw [gs_length]; exact hlt)
        have t1 := s1.below hkp.1
        have t2 := s2.below hkp.1
        have hp' := hkp.2.1.trans hp
        have hq' := hkp.2.2.trans hq
        have HR : Hid (RoundIn Fence.wide (n - 1) Try.prog l fn tmps assign body wr.drew fun e W' => ∃ r, e = .returned (.bool r) ∧ Went J Jx n₀ p q (gs a b k ++ [gp (nm a k) (nm b k)]) wr.drew r W') :=
          Lib.hid (hR.mono fun e W' h => by
            rcases h with ⟨rfl, h1, h2⟩ | ⟨rfl, h1⟩
            · exact ⟨true, rfl, fun _ => ⟨h1, h2⟩, (fun h => by cases h)⟩
            · exact ⟨false, rfl, (fun h => by cases h), fun _ => h1⟩)
        have HA : Hid (CallsIn Fence.wide (n - 1) Try.prog 46 #[.slice A1 a.length c1, .int .i64 k] wr.drew fun e w' => e = .returned (.int .i64 (nm a k)) ∧ w' = wr.drew) := Lib.hid (callsIn_wide.2 (number_any A1 c1 a k n₀ wr.drew t1 ha (by omega) (by omega)))
        have HB : Hid (CallsIn Fence.wide (n - 1) Try.prog 46 #[.slice A2 b.length c2, .int .i64 k] wr.drew fun e w' => e = .returned (.int .i64 (nm b k)) ∧ w' = wr.drew) := Lib.hid (callsIn_wide.2 (number_any A2 c2 b k n₀ wr.drew t2 hb (by omega) (by omega)))
        have HG : Hid (CallsIn Fence.wide (n - 1) Try.prog 42 #[.int .i64 (nm a k), .int .i64 (nm b k)] wr.drew fun e w' => e = .returned (.int .i64 (gp (nm a k) (nm b k))) ∧ w' = wr.drew) := Lib.hid (callsIn_wide.2 (gap_any _ _ (by have := nm_bd ha k; omega) (by have := nm_bd hb k; omega) wr.drew))
        clear hR
        gi_wp2
        gi_region_with_o (first
          | (refine ⟨trivial, ?_⟩; gi_at_call 46; (with_reducible refine HA.out.mono ?_); rintro e w' ⟨rfl, rfl⟩)
          | (refine ⟨trivial, ?_⟩; gi_at_call 46; (with_reducible refine HB.out.mono ?_); rintro e w' ⟨rfl, rfl⟩)
          | (refine ⟨trivial, ?_⟩; gi_at_call 42; (with_reducible refine HG.out.mono ?_); rintro e w' ⟨rfl, rfl⟩)
          | ((with_reducible refine HR.out.mono ?_); rintro e W3 ⟨r, rfl, hw3⟩))
        all_goals
          cases r with
          | false =>
            have hx := hw3.2 rfl
            clear hw3
            gi_wp2
            refine bodyPost_ret (results_none rfl _ _ _) rfl ?_
            exact ⟨⟨_, rfl⟩, .inr ⟨_, ⟨k + 1, by omega, (gs_succ a b k).symm⟩, hx⟩⟩
          | true =>
            obtain ⟨hj3, hk3⟩ := hw3.1 rfl
            clear hw3
            gi_wp2
            go_roundw
            case rel => exact ⟨k + 1, by omega, by simp, by rw [gs_succ]; exact hj3, (hkp.trans (C := wr.drew) ⟨(Below.refl _ _).drew, rfl, rfl⟩).trans hk3⟩
            case measure => simp [intOf]; omega
      · obtain rfl : k = b.length := by omega
        gi_wp2
        go_end0
        exact ⟨⟨_, rfl⟩, .inl ⟨_, rfl, hJs⟩⟩
  · obtain rfl : N = a.length := by omega
    clear hm4
    gi_wp2
    gi_loopw [10] (fun i wr => ∃ k : Nat, k ≤ a.length ∧ i = .int .i64 k ∧ J (gs a b k) wr ∧ Kp n₀ p q W wr)
      (fun i _ => a.length - (intOf i).toNat)
    case atStart => exact ⟨0, Nat.zero_le _, rfl, h0, Below.refl _ _, rfl, rfl⟩
    case round =>
      obtain ⟨k, hk, rfl, hJs, hkp⟩ := hrel
      by_cases hlt : k < a.length
      · have hJd := hJ _ _ hJs
        obtain ⟨fn, tmps, assign, body, hy, hR⟩ := hY _ (gp (nm a k) (nm b k)) wr.drew hJd (by rw [gs_length]; exact hlt)
        have t1 := s1.below hkp.1
        have t2 := s2.below hkp.1
        have hp' := hkp.2.1.trans hp
        have hq' := hkp.2.2.trans hq
        have HR : Hid (RoundIn Fence.wide (n - 1) Try.prog l fn tmps assign body wr.drew fun e W' => ∃ r, e = .returned (.bool r) ∧ Went J Jx n₀ p q (gs a b k ++ [gp (nm a k) (nm b k)]) wr.drew r W') :=
          Lib.hid (hR.mono fun e W' h => by
            rcases h with ⟨rfl, h1, h2⟩ | ⟨rfl, h1⟩
            · exact ⟨true, rfl, fun _ => ⟨h1, h2⟩, (fun h => by cases h)⟩
            · exact ⟨false, rfl, (fun h => by cases h), fun _ => h1⟩)
        have HA : Hid (CallsIn Fence.wide (n - 1) Try.prog 46 #[.slice A1 a.length c1, .int .i64 k] wr.drew fun e w' => e = .returned (.int .i64 (nm a k)) ∧ w' = wr.drew) := Lib.hid (callsIn_wide.2 (number_any A1 c1 a k n₀ wr.drew t1 ha (by omega) (by omega)))
        have HB : Hid (CallsIn Fence.wide (n - 1) Try.prog 46 #[.slice A2 b.length c2, .int .i64 k] wr.drew fun e w' => e = .returned (.int .i64 (nm b k)) ∧ w' = wr.drew) := Lib.hid (callsIn_wide.2 (number_any A2 c2 b k n₀ wr.drew t2 hb (by omega) (by omega)))
        have HG : Hid (CallsIn Fence.wide (n - 1) Try.prog 42 #[.int .i64 (nm a k), .int .i64 (nm b k)] wr.drew fun e w' => e = .returned (.int .i64 (gp (nm a k) (nm b k))) ∧ w' = wr.drew) := Lib.hid (callsIn_wide.2 (gap_any _ _ (by have := nm_bd ha k; omega) (by have := nm_bd hb k; omega) wr.drew))
        clear hR
        gi_wp2
        gi_region_with_o (first
          | (refine ⟨trivial, ?_⟩; gi_at_call 46; (with_reducible refine HA.out.mono ?_); rintro e w' ⟨rfl, rfl⟩)
          | (refine ⟨trivial, ?_⟩; gi_at_call 46; (with_reducible refine HB.out.mono ?_); rintro e w' ⟨rfl, rfl⟩)
          | (refine ⟨trivial, ?_⟩; gi_at_call 42; (with_reducible refine HG.out.mono ?_); rintro e w' ⟨rfl, rfl⟩)
          | ((with_reducible refine HR.out.mono ?_); rintro e W3 ⟨r, rfl, hw3⟩))
        all_goals
          cases r with
          | false =>
            have hx := hw3.2 rfl
            clear hw3
            gi_wp2
            refine bodyPost_ret (results_none rfl _ _ _) rfl ?_
            exact ⟨⟨_, rfl⟩, .inr ⟨_, ⟨k + 1, by omega, (gs_succ a b k).symm⟩, hx⟩⟩
          | true =>
            obtain ⟨hj3, hk3⟩ := hw3.1 rfl
            clear hw3
            gi_wp2
            go_roundw
            case rel => exact ⟨k + 1, by omega, by simp, by rw [gs_succ]; exact hj3, (hkp.trans (C := wr.drew) ⟨(Below.refl _ _).drew, rfl, rfl⟩).trans hk3⟩
            case measure => simp [intOf]; omega
      · obtain rfl : k = a.length := by omega
        gi_wp2
        go_end0
        exact ⟨⟨_, rfl⟩, .inl ⟨_, rfl, hJs⟩⟩
theorem iter_stops (n : Nat) (hn : 3 ≤ n) (p q n₀ : Nat) (A1 A2 : Option Addr) (c1 c2 : Nat) (a b : List Int) (ha : Bd a) (hb : Bd b) (hla : a.length ≤ 1048576) (hlb : b.length ≤ 1048576) (w : World) (hp0 : p < w.heap.size) (hq0 : q < w.heap.size) (hn0 : n₀ ≤ w.heap.size)
    (hp : w.cell? ⟨p, 0, none⟩ = some (.slice A1 a.length c1)) (hq : w.cell? ⟨q, 0, none⟩ = some (.slice A2 b.length c2)) (s1 : Sl w n₀ A1 (iv a)) (s2 : Sl w n₀ A2 (iv b)) :
    SeqStopsK Fence.wide n Try.prog 45 #[.pointer (some ⟨p, 0, none⟩), .pointer (some ⟨q, 0, none⟩)] (fun x : Int => #[Value.int .i64 x]) (Kp n₀ p q) (fun ys => ys = gs a b (mx a b)) (fun pre => ∃ k, k ≤ mx a b ∧ pre = gs a b k) (mx a b) w :=
  fun l J Jx W hW hJ _ hY h0 =>
    iter_in n hn l p q n₀ A1 A2 c1 c2 a b ha hb hla hlb J Jx hY (fun pre W' hj => hJ pre W' W'.drew none hj ⟨rfl, rfl, rfl, Nat.le_refl _, fun _ _ _ => rfl⟩ (fun r e => by cases e)) W
      ((hW.cell (p := ⟨p, 0, none⟩) hp0).trans hp) ((hW.cell (p := ⟨q, 0, none⟩) hq0).trans hq) (s1.below (hW.mono hn0)) (s2.below (hW.mono hn0)) h0
end Go.Proofs.Ytdfakjpchgomdaa.lone
