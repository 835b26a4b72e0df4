/-
  Several texts in one.
-/
import Derived.Test.YtaamlidflfdjkaaRows
import Derived.Test.YtaamlidflfdjkaaGLib
import Derived.Deep.Slices
import Derived.Deep.Fields
import Derived.ChangeSame
import Derived.JoinedCond
import Derived.Test.YtaamlidflfdjkaaChecked
import Derived.Lib.Hide
import Derived.Deep.QuietTactic
import Derived.BigQuiet
import Derived.WalkSpells
import Derived.RangeFuncNested
import Derived.RangeFuncBound
import Derived.RangeFuncCalls
import Derived.RangeFuncLeaves
import Derived.Shelf.Abstract
import Derived.Shelf.RegionOpen
import Derived.WalkKit
import Derived.OwnWalkIn
import Derived.TacticsInMore
import Derived.LoopNIn
import Derived.LoopIn
import Derived.RangeFuncBox
import Derived.Lib.Walk
import Derived.Deep.LoopGhost
import Derived.Deep.Draws
/-
  Mathematics: how far two lists of numbers are apart, place by place.
-/
namespace Go.Proofs.Ytaamlidflfdjkaa.dist

/-- how far two numbers are apart -/
def gp (x y : Int) : Int := max (x - y) (y - x)
/-- the number at a place; 0 behind the end -/
def nm (l : List Int) (j : Nat) : Int := l[j]?.getD 0
/-- how far the first k places are apart, added up -/
def dk (l m : List Int) : Nat → Int
  | 0 => 0
  | k + 1 => dk l m k + gp (nm l k) (nm m k)
def mx (l m : List Int) : Nat := max l.length m.length
def D (l m : List Int) : Int := dk l m (mx l m)
def Bd (l : List Int) : Prop := ∀ n ∈ l, -2147483648 ≤ n ∧ n ≤ 2147483647

theorem gp_nonneg (x y : Int) : 0 ≤ gp x y := by unfold gp; omega
theorem gp_symm (x y : Int) : gp x y = gp y x := by unfold gp; omega
theorem gp_tri (x y z : Int) : gp x y ≤ gp x z + gp z y := by unfold gp; omega
theorem gp_zero (x y : Int) : gp x y = 0 ↔ x = y := by unfold gp; omega
theorem gp_le {x y : Int} (h1 : -2147483648 ≤ x ∧ x ≤ 2147483647) (h2 : -2147483648 ≤ y ∧ y ≤ 2147483647) : gp x y ≤ 4294967295 := by unfold gp; omega
theorem gp_pos {x y : Int} (h : y ≤ x) : gp x y = x - y := by unfold gp; omega
theorem gp_neg {x y : Int} (h : x ≤ y) : gp x y = y - x := by unfold gp; omega

theorem nm_lt {l : List Int} {j : Nat} (h : j < l.length) : nm l j = l[j] := by simp [nm, h]
theorem nm_ge {l : List Int} {j : Nat} (h : l.length ≤ j) : nm l j = 0 := by simp [nm, h]
theorem nm_nil (j : Nat) : nm [] j = 0 := by simp [nm]
theorem nm_bd {l : List Int} (h : Bd l) (j : Nat) : -2147483648 ≤ nm l j ∧ nm l j ≤ 2147483647 := by
  by_cases hj : j < l.length
  · rw [nm_lt hj]; exact h _ (List.getElem_mem hj)
  · rw [nm_ge (by omega)]; omega

theorem dk_succ (l m : List Int) (k : Nat) : dk l m (k + 1) = dk l m k + gp (nm l k) (nm m k) := rfl
theorem dk_nonneg (l m : List Int) (k : Nat) : 0 ≤ dk l m k := by
  induction k with
  | zero => exact Int.le_refl _
  | succ k ih => have := gp_nonneg (nm l k) (nm m k); rw [dk_succ]; omega
theorem dk_le {l m : List Int} (hl : Bd l) (hm : Bd m) (k : Nat) : dk l m k ≤ k * 4294967295 := by
  induction k with
  | zero => simp [dk]
  | succ k ih => have := gp_le (nm_bd hl k) (nm_bd hm k); rw [dk_succ]; omega
theorem dk_mono (l m : List Int) {j k : Nat} (h : j ≤ k) : dk l m j ≤ dk l m k := by
  induction k with
  | zero => obtain rfl : j = 0 := by omega
            exact Int.le_refl _
  | succ k ih =>
    by_cases hj : j = k + 1
    · subst hj; exact Int.le_refl _
    · have h1 := ih (by omega)
      have h2 := gp_nonneg (nm l k) (nm m k)
      rw [dk_succ]
      omega
theorem dk_symm (l m : List Int) (k : Nat) : dk l m k = dk m l k := by
  induction k with
  | zero => rfl
  | succ k ih => rw [dk_succ, dk_succ, ih, gp_symm]
theorem dk_tri (l m n : List Int) (k : Nat) : dk l m k ≤ dk l n k + dk n m k := by
  induction k with
  | zero => simp [dk]
  | succ k ih => have := gp_tri (nm l k) (nm m k) (nm n k); rw [dk_succ, dk_succ, dk_succ]; omega
theorem dk_stop (l m : List Int) {k : Nat} (h : mx l m ≤ k) : dk l m k = D l m := by
  induction k with
  | zero => unfold D; rw [show mx l m = 0 from by omega]
  | succ k ih =>
    by_cases hk : mx l m = k + 1
    · unfold D; rw [hk]
    · have h1 := ih (by omega)
      have h2 : l.length ≤ k ∧ m.length ≤ k := by unfold mx at h hk; omega
      rw [dk_succ]
      rw [h1, nm_ge h2.1, nm_ge h2.2]
      simp [gp]
theorem dk_zero (l m : List Int) (k : Nat) : dk l m k = 0 ↔ ∀ j, j < k → nm l j = nm m j := by
  induction k with
  | zero => simp [dk]
  | succ k ih =>
    have h1 := dk_nonneg l m k
    have h2 := gp_nonneg (nm l k) (nm m k)
    have h3 := gp_zero (nm l k) (nm m k)
    constructor
    · intro h j hj
      rw [dk_succ] at h
      by_cases hjk : j = k
      · subst hjk; exact h3.1 (by omega)
      · exact ih.1 (by omega) j (by omega)
    · intro h
      have h4 := ih.2 (fun j hj => h j (by omega))
      have h5 := h3.2 (h k (by omega))
      rw [dk_succ]
      omega
theorem mx_symm (l m : List Int) : mx l m = mx m l := by unfold mx; omega
theorem D_nonneg (l m : List Int) : 0 ≤ D l m := dk_nonneg l m _
theorem D_symm (l m : List Int) : D l m = D m l := by unfold D; rw [mx_symm, dk_symm]
theorem D_tri (l m n : List Int) : D l m ≤ D l n + D n m := by
  have h := dk_tri l m n (mx l m + mx l n + mx n m)
  rw [dk_stop l m (by omega), dk_stop l n (by omega), dk_stop n m (by omega)] at h
  exact h
theorem D_le {l m : List Int} (hl : Bd l) (hm : Bd m) : D l m ≤ mx l m * 4294967295 := dk_le hl hm _
theorem D_zero (l m : List Int) : D l m = 0 ↔ ∀ j, j < mx l m → nm l j = nm m j := dk_zero l m _
theorem D_least (l m : List Int) : gp (D l []) (D m []) ≤ D l m := by
  have h1 := D_tri l [] m
  have h2 := D_tri m [] l
  have h3 := D_symm l m
  unfold gp
  omega
theorem Bd_nil : Bd [] := fun n h => by simp at h
/-- small: no sum of two distances leaves what an int tells -/
theorem D_small {l m : List Int} (hl : Bd l) (hm : Bd m) (h1 : l.length ≤ 1048576) (h2 : m.length ≤ 1048576) : D l m ≤ 4503599627370496 := by
  have h := D_le hl hm
  have : mx l m ≤ 1048576 := by unfold mx; omega
  have h3 : (mx l m : Int) * 4294967295 ≤ 1048576 * 4294967295 := Int.mul_le_mul_of_nonneg_right (by omega) (by omega)
  omega
end Go.Proofs.Ytaamlidflfdjkaa.dist
/-
  Program-free: slices of numbers of 32 bits: what they read as; one that came in.
-/
namespace Go.Proofs.Ytaamlidflfdjkaa.dist
open Go.RowKit law bytes
open Go.ChangeShapes Go.WideShapes Go.Deep Go.ChangeAt

def iv (l : List Int) : List Value := l.map fun n => .int .i32 n
theorem iv_length (l : List Int) : (iv l).length = l.length := by simp [iv]
theorem iv_append (l m : List Int) : iv (l ++ m) = iv l ++ iv m := by simp [iv]
theorem iv_one (l : List Int) : ∀ u ∈ iv l, u.oneCell' = true := by
  intro u hu
  simp only [iv, List.mem_map] at hu
  obtain ⟨c, _, rfl⟩ := hu
  rfl
theorem i32_bd {n : Int} (h : (Lit.int .i32 n).wf = true) : -2147483648 ≤ n ∧ n ≤ 2147483647 := by
  simpa [Lit.wf, IntKind.min, IntKind.max, IntKind.signed, IntKind.bits] using h
theorem i64_bd {n : Int} (h : (Lit.int .i64 n).wf = true) : -9223372036854775808 ≤ n ∧ n ≤ 9223372036854775807 := by
  simpa [Lit.wf, IntKind.min, IntKind.max, IntKind.signed, IntKind.bits] using h
section
variable {w : World} {B : Nat} {A : Option Addr} {l : List Int}
theorem Sl.num {k : Nat} (h : Sl w B A (iv l)) (hk : k < l.length) : ∃ ad, A = some ad ∧ ad.block < B ∧ w.cell? (ad.add k) = some (.int .i32 l[k]) := by
  have := h.at_ (k := k) (by rw [iv_length]; exact hk)
  simpa [iv] using this
theorem Sl.nm {k : Nat} (h : Sl w B A (iv l)) (hk : k < l.length) : ∃ ad, A = some ad ∧ ad.block < B ∧ w.cell? (ad.add k) = some (.int .i32 (dist.nm l k)) := by
  obtain ⟨ad, e, hb, hc⟩ := Sl.num h hk
  exact ⟨ad, e, hb, by rw [nm_lt hk]; exact hc⟩
end
section
variable {H : Type} {enc : TypeId × Value → H} {P : Program} {w : World} {base : Nat} {held : Bool}
theorem open_nums {t e : TypeId} {v : Value} {d : DataW H} {p : List MemPlace} (ht : P.underlying t = some (.slice e)) (he : P.underlying e = some (.int .i32)) (hc : P.cellsOf e = 1) {r : Reach} {b0 : Nat} (hv : Value.okWide P w r b0 t v)
    (h : DataW.Trod enc P w base (fun _ => true) held t v d p) :
    ∃ A c l, v = .slice A l.length c ∧ l.length ≤ c ∧ Sl w w.heap.size A (iv l) ∧ Bd l ∧ ((A = none ∧ c = 0 ∧ l = [] ∧ d = .nil) ∨ ∃ el sp, d = .slice el sp ∧ el.length + sp.length = c) := by
  obtain ⟨A, len, cap, rfl⟩ := okWide_slice ht hv
  obtain ⟨fuel, hf⟩ := h
  rcases open_ints ht he hc hf with ⟨hcs, hx⟩ | ⟨a, len', cap', zs, hcs, _, hl, hm, hz, hx, hcell, hwz⟩
  · simp [Value.cells] at hcs
    obtain ⟨rfl, rfl, rfl⟩ := hcs
    injection hx with hd hp
    exact ⟨none, 0, [], rfl, Nat.le_refl _, Sl.nil, Bd_nil, .inl ⟨rfl, rfl, rfl, hd⟩⟩
  · simp [Value.cells] at hcs
    obtain ⟨rfl, rfl, rfl⟩ := hcs
    injection hx with hd hp
    simp only [if_true] at hz
    have ht : (zs.take len).length = len := by simp; omega
    refine ⟨some a, cap, zs.take len, by rw [ht], by omega, fun j u hj => ?_, fun n hn => i32_bd (hwz n (List.mem_of_mem_take hn)), .inr ⟨_, _, hd, by simp [lits]; omega⟩⟩
    simp only [iv, List.getElem?_map, List.getElem?_take] at hj
    split at hj
    · rename_i hlt
      have hlz : j < zs.length := by omega
      have hcj := hcell j hlz
      simp only [List.getElem?_eq_getElem hlz, Option.map_some, Option.some.injEq] at hj
      subst hj
      refine ⟨a, rfl, ?_, by rw [hcj]; simp [List.getD, List.getElem?_eq_getElem hlz]⟩
      have := World.block_lt_of_cell? w _ hcj
      rwa [blk_add] at this
    · cases hj
theorem nums_bulk {H : Type} {A : Option Addr} {c : Nat} {l : List Int} {d : DataW H} (hd : (A = none ∧ c = 0 ∧ l = [] ∧ d = .nil) ∨ ∃ el sp, d = .slice el sp ∧ el.length + sp.length = c) : c ≤ Rows.uptoBulk d := by
  rcases hd with ⟨_, rfl, _⟩ | ⟨el, sp, rfl, rfl⟩
  · omega
  · have := bulk_slice el sp
    omega
end
end Go.Proofs.Ytaamlidflfdjkaa.dist
/-
  The contracts of lone.number, lone.gap, lone.gaps; int32's shape.
-/
namespace Go.Proofs.Ytaamlidflfdjkaa.lone
open Go.RowKit law bytes dist
set_option linter.unusedVariables false

theorem w64 (n : Int) (h : -9223372036854775808 ≤ n ∧ n ≤ 9223372036854775807) : wrap64 n = n := by unfold wrap64; omega
theorem int32E : Elem Try.prog 21 (.int .i32 0) 4 := elem_mk (by kernel_rfl) (by decide)
theorem gap_any (x y : Int) (h1 : -2305843009213693952 ≤ x ∧ x ≤ 2305843009213693952) (h2 : -2305843009213693952 ≤ y ∧ y ≤ 2305843009213693952) (w : World) :
    Calls Try.prog 65 #[.int .i64 x, .int .i64 y] w fun e w' => e = .returned (.int .i64 (gp x y)) ∧ w' = w := by
  obtain ⟨a1, a2⟩ := h1
  obtain ⟨b1, b2⟩ := h2
  have e1 : wrap64 (x - y) = x - y := w64 _ (by omega)
  have e2 : wrap64 (y - x) = y - x := w64 _ (by omega)
  go_enter Try.func65, Try.ntmps65
  go_wp2
  all_goals
    go_ret
    exact ⟨ret_int (by unfold gp; omega), rfl⟩
theorem number_any (A : Option Addr) (c : Nat) (l : List Int) (j B : Nat) (w : World) (h : Sl w B A (iv l)) (hb : Bd l) (hj : j ≤ 9223372036854775807) (hl : l.length ≤ 9223372036854775807) :
    Calls Try.prog 66 #[.slice A l.length c, .int .i64 j] w fun e w' => e = .returned (.int .i64 (nm l j)) ∧ w' = w := by
  by_cases hlt : j < l.length
  · obtain ⟨ad, rfl, _, hc⟩ := Sl.nm h hlt
    obtain ⟨b1, b2⟩ := nm_bd hb j
    go_enter Try.func66, Try.ntmps66
    go_wp2
    go_ret
    exact ⟨rfl, rfl⟩
  · rw [nm_ge (by omega)]
    go_enter Try.func66, Try.ntmps66
    go_wp2
    go_ret
    exact ⟨rfl, rfl⟩
theorem gaps_any (A B : Option Addr) (n m c d : Nat) (w : World) :
    Calls Try.prog 59 #[.slice A n c, .slice B m d] w fun e w' => e = .returned (.func (.func 64) #[] #[.pointer (some ⟨w.heap.size, 0, none⟩), .pointer (some ⟨w.heap.size + 1, 0, none⟩)]) ∧
      w' = (w.alloc (.cells #[.slice A n c] 34)).alloc (.cells #[.slice B m d] 34) := by
  go_enter Try.func59, Try.ntmps59
  go_wp2
  go_ret
  exact ⟨rfl, rfl⟩
end Go.Proofs.Ytaamlidflfdjkaa.lone
/-
  What lone.gaps hands back, as a sequence: how far the numbers of two vectors are apart, place by place, as long as they are asked for.
-/
namespace Go.Proofs.Ytaamlidflfdjkaa.lone
open Go.RowKit Go.Shelf law bytes dist
set_option linter.unusedVariables false
attribute [local go_sem] Oper.semAt_some

/-- how far the first k places are apart, each by itself -/
def gs (l m : List Int) (k : Nat) : List Int := (List.range k).map fun j => gp (nm l j) (nm m j)
theorem gs_succ (l m : List Int) (k : Nat) : gs l m (k + 1) = gs l m k ++ [gp (nm l k) (nm m k)] := by simp [gs, List.range_succ]
theorem gs_length (l m : List Int) (k : Nat) : (gs l m k).length = k := by simp [gs]
theorem gs_zero (l m : List Int) : gs l m 0 = [] := rfl
/-- what a round keeps: all below n₀, and the two boxes -/
def Kp (n₀ p q : Nat) (W W' : World) : Prop := Below n₀ W W' ∧ W'.cell? ⟨p, 0, none⟩ = W.cell? ⟨p, 0, none⟩ ∧ W'.cell? ⟨q, 0, none⟩ = W.cell? ⟨q, 0, none⟩
theorem Kp.trans {n₀ p q : Nat} {A B C : World} (h : Kp n₀ p q A B) (k : Kp n₀ p q B C) : Kp n₀ p q A C := ⟨h.1.trans k.1, k.2.1.trans h.2.1, k.2.2.trans h.2.2⟩

/-- a round has gone on, or has said 'no more' -/
def Went (J Jx : List Int → World → Prop) (n₀ p q : Nat) (xs : List Int) (W : World) (r : Bool) (W' : World) : Prop := (r = true → J xs W' ∧ Kp n₀ p q W W') ∧ (r = false → Jx xs W')
set_option maxRecDepth 100000 in
set_option maxHeartbeats 2000000 in
theorem iter_in (n : Nat) (hn : 3 ≤ n) (l p q n₀ : Nat) (A1 A2 : Option Addr) (c1 c2 : Nat) (a b : List Int) (ha : Bd a) (hb : Bd b) (hla : a.length ≤ 1048576) (hlb : b.length ≤ 1048576) (J Jx : List Int → World → Prop)
    (hY : ∀ pre x W, J pre W → pre.length < mx a b → YieldAt Fence.wide (n - 1) Try.prog l #[.int .i64 x] W fun e W' =>
      (e = .returned (.bool true) ∧ J (pre ++ [x]) W' ∧ Kp n₀ p q W W') ∨ (e = .returned (.bool false) ∧ Jx (pre ++ [x]) W'))
    (hJ : ∀ (pre : List Int) (W : World), J pre W → J pre W.drew)
    (W : World) (hp : W.cell? ⟨p, 0, none⟩ = some (.slice A1 a.length c1)) (hq : W.cell? ⟨q, 0, none⟩ = some (.slice A2 b.length c2)) (s1 : Sl W n₀ A1 (iv a)) (s2 : Sl W n₀ A2 (iv b)) (h0 : J [] W) :
    CallsIn Fence.wide n Try.prog 64 #[.func (.yield l) #[] #[], .pointer (some ⟨p, 0, none⟩), .pointer (some ⟨q, 0, none⟩)] W fun e W' => (∃ v, e = .returned v) ∧
      ((∃ ys, ys = gs a b (mx a b) ∧ J ys W') ∨ (∃ pre, (∃ k, k ≤ mx a b ∧ pre = gs a b k) ∧ Jx pre W')) := by
  refine callsIn_of_wp Try.func64 rfl trivial ?_ rfl
  simp only [Try.ntmps64, List.size_toArray, List.length_cons, List.length_nil, Nat.reduceAdd, Nat.reduceSub, Array.replicate_succ, Array.replicate_zero, List.push_toArray, List.append_toArray, List.nil_append, List.cons_append]
  have h1 : 1 ≤ n := by omega
  have hmo : Try.prog.follows .mixedOrders = true := by kernel_rfl
  have hm1 : a.length ≤ mx a b := by unfold mx; omega
  have hm2 : b.length ≤ mx a b := by unfold mx; omega
  have hm3 : mx a b ≤ 1048576 := by unfold mx; omega
  have hm4 : mx a b = max a.length b.length := rfl
  generalize mx a b = N at hm1 hm2 hm3 hm4 hY ⊢
  by_cases hab : a.length < b.length
  · obtain rfl : N = b.length := by omega
    clear hm4
    gi_wp2
    gi_loopw [10] (fun i wr => ∃ k : Nat, k ≤ b.length ∧ i = .int .i64 k ∧ J (gs a b k) wr ∧ Kp n₀ p q W wr)
      (fun i _ => b.length - (intOf i).toNat)
    case atStart => exact ⟨0, Nat.zero_le _, rfl, h0, Below.refl _ _, rfl, rfl⟩
    case round =>
      obtain ⟨k, hk, rfl, hJs, hkp⟩ := hrel
      by_cases hlt : k < b.length
      · have hJd := hJ _ _ hJs
        obtain ⟨fn, tmps, assign, body, hy, hR⟩ := hY _ (gp (nm a k) (nm b k)) wr.drew hJd (by rw [gs_length]; exact hlt)
        have t1 := s1.below hkp.1
        have t2 := s2.below hkp.1
        have hp' := hkp.2.1.trans hp
        have hq' := hkp.2.2.trans hq
        have HR : Hid (RoundIn Fence.wide (n - 1) Try.prog l fn tmps assign body wr.drew fun e W' => ∃ r, e = .returned (.bool r) ∧ Went J Jx n₀ p q (gs a b k ++ [gp (nm a k) (nm b k)]) wr.drew r W') :=
          Lib.hid (hR.mono fun e W' h => by
            rcases h with ⟨rfl, h1, h2⟩ | ⟨rfl, h1⟩
            · exact ⟨true, rfl, fun _ => ⟨h1, h2⟩, (fun h => by cases h)⟩
            · exact ⟨false, rfl, (fun h => by cases h), fun _ => h1⟩)
        have HA : Hid (CallsIn Fence.wide (n - 1) Try.prog 66 #[.slice A1 a.length c1, .int .i64 k] wr.drew fun e w' => e = .returned (.int .i64 (nm a k)) ∧ w' = wr.drew) := Lib.hid (callsIn_wide.2 (number_any A1 c1 a k n₀ wr.drew t1 ha (by omega) (by omega)))
        have HB : Hid (CallsIn Fence.wide (n - 1) Try.prog 66 #[.slice A2 b.length c2, .int .i64 k] wr.drew fun e w' => e = .returned (.int .i64 (nm b k)) ∧ w' = wr.drew) := Lib.hid (callsIn_wide.2 (number_any A2 c2 b k n₀ wr.drew t2 hb (by omega) (by omega)))
        have HG : Hid (CallsIn Fence.wide (n - 1) Try.prog 65 #[.int .i64 (nm a k), .int .i64 (nm b k)] wr.drew fun e w' => e = .returned (.int .i64 (gp (nm a k) (nm b k))) ∧ w' = wr.drew) := Lib.hid (callsIn_wide.2 (gap_any _ _ (by have := nm_bd ha k; omega) (by have := nm_bd hb k; omega) wr.drew))
        clear hR
        gi_wp2
        gi_region_with_o (first
          | (refine ⟨trivial, ?_⟩; gi_at_call 66; (with_reducible refine HA.out.mono ?_); rintro e w' ⟨rfl, rfl⟩)
          | (refine ⟨trivial, ?_⟩; gi_at_call 66; (with_reducible refine HB.out.mono ?_); rintro e w' ⟨rfl, rfl⟩)
          | (refine ⟨trivial, ?_⟩; gi_at_call 65; (with_reducible refine HG.out.mono ?_); rintro e w' ⟨rfl, rfl⟩)
          | ((with_reducible refine HR.out.mono ?_); rintro e W3 ⟨r, rfl, hw3⟩))
        all_goals
          cases r with
          | false =>
            have hx := hw3.2 rfl
            clear hw3
            gi_wp2
            refine bodyPost_ret (results_none rfl _ _ _) rfl ?_
            exact ⟨⟨_, rfl⟩, .inr ⟨_, ⟨k + 1, by omega, (gs_succ a b k).symm⟩, hx⟩⟩
          | true =>
            obtain ⟨hj3, hk3⟩ := hw3.1 rfl
            clear hw3
            gi_wp2
            go_roundw
            case rel => exact ⟨k + 1, by omega, by simp, by rw [gs_succ]; exact hj3, (hkp.trans (C := wr.drew) ⟨(Below.refl _ _).drew, rfl, rfl⟩).trans hk3⟩
            case measure => simp [intOf]; omega
      · obtain rfl : k = b.length := by omega
        gi_wp2
        go_end0
        exact ⟨⟨_, rfl⟩, .inl ⟨_, rfl, hJs⟩⟩
  · obtain rfl : N = a.length := by omega
    clear hm4
    gi_wp2
    gi_loopw [10] (fun i wr => ∃ k : Nat, k ≤ a.length ∧ i = .int .i64 k ∧ J (gs a b k) wr ∧ Kp n₀ p q W wr)
      (fun i _ => a.length - (intOf i).toNat)
    case atStart => exact ⟨0, Nat.zero_le _, rfl, h0, Below.refl _ _, rfl, rfl⟩
    case round =>
      obtain ⟨k, hk, rfl, hJs, hkp⟩ := hrel
      by_cases hlt : k < a.length
      · have hJd := hJ _ _ hJs
        obtain ⟨fn, tmps, assign, body, hy, hR⟩ := hY _ (gp (nm a k) (nm b k)) wr.drew hJd (by rw [gs_length]; exact hlt)
        have t1 := s1.below hkp.1
        have t2 := s2.below hkp.1
        have hp' := hkp.2.1.trans hp
        have hq' := hkp.2.2.trans hq
        have HR : Hid (RoundIn Fence.wide (n - 1) Try.prog l fn tmps assign body wr.drew fun e W' => ∃ r, e = .returned (.bool r) ∧ Went J Jx n₀ p q (gs a b k ++ [gp (nm a k) (nm b k)]) wr.drew r W') :=
          Lib.hid (hR.mono fun e W' h => by
            rcases h with ⟨rfl, h1, h2⟩ | ⟨rfl, h1⟩
            · exact ⟨true, rfl, fun _ => ⟨h1, h2⟩, (fun h => by cases h)⟩
            · exact ⟨false, rfl, (fun h => by cases h), fun _ => h1⟩)
        have HA : Hid (CallsIn Fence.wide (n - 1) Try.prog 66 #[.slice A1 a.length c1, .int .i64 k] wr.drew fun e w' => e = .returned (.int .i64 (nm a k)) ∧ w' = wr.drew) := Lib.hid (callsIn_wide.2 (number_any A1 c1 a k n₀ wr.drew t1 ha (by omega) (by omega)))
        have HB : Hid (CallsIn Fence.wide (n - 1) Try.prog 66 #[.slice A2 b.length c2, .int .i64 k] wr.drew fun e w' => e = .returned (.int .i64 (nm b k)) ∧ w' = wr.drew) := Lib.hid (callsIn_wide.2 (number_any A2 c2 b k n₀ wr.drew t2 hb (by omega) (by omega)))
        have HG : Hid (CallsIn Fence.wide (n - 1) Try.prog 65 #[.int .i64 (nm a k), .int .i64 (nm b k)] wr.drew fun e w' => e = .returned (.int .i64 (gp (nm a k) (nm b k))) ∧ w' = wr.drew) := Lib.hid (callsIn_wide.2 (gap_any _ _ (by have := nm_bd ha k; omega) (by have := nm_bd hb k; omega) wr.drew))
        clear hR
        gi_wp2
        gi_region_with_o (first
          | (refine ⟨trivial, ?_⟩; gi_at_call 66; (with_reducible refine HA.out.mono ?_); rintro e w' ⟨rfl, rfl⟩)
          | (refine ⟨trivial, ?_⟩; gi_at_call 66; (with_reducible refine HB.out.mono ?_); rintro e w' ⟨rfl, rfl⟩)
          | (refine ⟨trivial, ?_⟩; gi_at_call 65; (with_reducible refine HG.out.mono ?_); rintro e w' ⟨rfl, rfl⟩)
          | ((with_reducible refine HR.out.mono ?_); rintro e W3 ⟨r, rfl, hw3⟩))
        all_goals
          cases r with
          | false =>
            have hx := hw3.2 rfl
            clear hw3
            gi_wp2
            refine bodyPost_ret (results_none rfl _ _ _) rfl ?_
            exact ⟨⟨_, rfl⟩, .inr ⟨_, ⟨k + 1, by omega, (gs_succ a b k).symm⟩, hx⟩⟩
          | true =>
            obtain ⟨hj3, hk3⟩ := hw3.1 rfl
            clear hw3
            gi_wp2
            go_roundw
            case rel => exact ⟨k + 1, by omega, by simp, by rw [gs_succ]; exact hj3, (hkp.trans (C := wr.drew) ⟨(Below.refl _ _).drew, rfl, rfl⟩).trans hk3⟩
            case measure => simp [intOf]; omega
      · obtain rfl : k = a.length := by omega
        gi_wp2
        go_end0
        exact ⟨⟨_, rfl⟩, .inl ⟨_, rfl, hJs⟩⟩
theorem iter_stops (n : Nat) (hn : 3 ≤ n) (p q n₀ : Nat) (A1 A2 : Option Addr) (c1 c2 : Nat) (a b : List Int) (ha : Bd a) (hb : Bd b) (hla : a.length ≤ 1048576) (hlb : b.length ≤ 1048576) (w : World) (hp0 : p < w.heap.size) (hq0 : q < w.heap.size) (hn0 : n₀ ≤ w.heap.size)
    (hp : w.cell? ⟨p, 0, none⟩ = some (.slice A1 a.length c1)) (hq : w.cell? ⟨q, 0, none⟩ = some (.slice A2 b.length c2)) (s1 : Sl w n₀ A1 (iv a)) (s2 : Sl w n₀ A2 (iv b)) :
    SeqStopsK Fence.wide n Try.prog 64 #[.pointer (some ⟨p, 0, none⟩), .pointer (some ⟨q, 0, none⟩)] (fun x : Int => #[Value.int .i64 x]) (Kp n₀ p q) (fun ys => ys = gs a b (mx a b)) (fun pre => ∃ k, k ≤ mx a b ∧ pre = gs a b k) (mx a b) w :=
  fun l J Jx W hW hJ _ hY h0 =>
    iter_in n hn l p q n₀ A1 A2 c1 c2 a b ha hb hla hlb J Jx hY (fun pre W' hj => hJ pre W' W'.drew none hj ⟨rfl, rfl, rfl, Nat.le_refl _, fun _ _ _ => rfl⟩ (fun r e => by cases e)) W
      ((hW.cell (p := ⟨p, 0, none⟩) hp0).trans hp) ((hW.cell (p := ⟨q, 0, none⟩) hq0).trans hq) (s1.below (hW.mono hn0)) (s2.below (hW.mono hn0)) h0
end Go.Proofs.Ytaamlidflfdjkaa.lone
/-
  The contract of lone.Upto: how far two vectors are apart, if it is at most a number.
-/
namespace Go.Proofs.Ytaamlidflfdjkaa.lone
open Go.RowKit Go.Shelf law bytes dist
set_option linter.unusedVariables false
attribute [local go_sem] Oper.semAt_some

/-- a value, and nothing that there was has turned -/
def Gives (v : Value) (w : World) (e : Ending) (w' : World) : Prop := e = .returned v ∧ Below w.heap.size w w'
def sumW : List Int → Int := List.foldl (fun s v => wrap64 (s + v)) 0
theorem sumW_snoc (pre : List Int) (x : Int) : sumW (pre ++ [x]) = wrap64 (sumW pre + x) := by simp [sumW]
theorem sumW_gs {a b : List Int} (ha : Bd a) (hb : Bd b) {k : Nat} (hk : k ≤ 1048576) : sumW (gs a b k) = dk a b k := by
  induction k with
  | zero => rfl
  | succ k ih =>
    rw [gs_succ, sumW_snoc, ih (by omega), dk_succ]
    have h1 := dk_nonneg a b k
    have h2 := dk_le ha hb k
    have h3 := gp_nonneg (nm a k) (nm b k)
    have h4 := gp_le (nm_bd ha k) (nm_bd hb k)
    have h5 : (k : Int) * 4294967295 ≤ 1048576 * 4294967295 := Int.mul_le_mul_of_nonneg_right (by omega) (by omega)
    exact w64 _ (by omega)

theorem boxed_held {W W' : World} {B : Nat} {t : TypeId} {v : Value} {row : Option Nat} (h : Boxed W B t v) (hg : W.grownBy W' row) (hr : ∀ r, row = some r → ∃ o : Obj, W.heap[r]? = some o ∧ o.isCells = false) : Boxed W' B t v :=
  h.kept hg fun e => by
    obtain ⟨o, ho, hc⟩ := hr B e.symm
    rw [show W.heap[B]? = _ from h] at ho
    cases ho
    cases hc
theorem boxed_far {W : World} {B C : Nat} {t : TypeId} {v u : Value} (h : Boxed W B t v) (hne : B ≠ C) : Boxed (W.setCell ⟨C, 0, none⟩ u) B t v := h.kept (grownBy_setCell' W C u) (fun e => hne (by injection e))
/-- the four variables of the call: the bound, both results, the sum -/
def Vars (W : World) (g : Nat) (m r : Int) (o : Bool) (s : Int) : Prop :=
  Boxed W g 3 (.int .i64 m) ∧ Boxed W (g + 1) 3 (.int .i64 r) ∧ Boxed W (g + 1 + 1) 4 (.bool o) ∧ Boxed W (g + 1 + 1 + 1) 3 (.int .i64 s)
theorem Vars.held {W W' : World} {g : Nat} {m r s : Int} {o : Bool} {row : Option Nat} (h : Vars W g m r o s) (hg : W.grownBy W' row) (hr : ∀ r, row = some r → ∃ o : Obj, W.heap[r]? = some o ∧ o.isCells = false) : Vars W' g m r o s :=
  ⟨boxed_held h.1 hg hr, boxed_held h.2.1 hg hr, boxed_held h.2.2.1 hg hr, boxed_held h.2.2.2 hg hr⟩
theorem Vars.alloc {W : World} {g : Nat} {m r s : Int} {o : Bool} (h : Vars W g m r o s) (x : Obj) : Vars (W.alloc x) g m r o s := ⟨h.1.alloc x, h.2.1.alloc x, h.2.2.1.alloc x, h.2.2.2.alloc x⟩
theorem Vars.sum {W : World} {g : Nat} {m r s : Int} {o : Bool} (h : Vars W g m r o s) (s' : Int) : Vars (W.setCell ⟨g + 1 + 1 + 1, 0, none⟩ (.int .i64 s')) g m r o s' := ⟨boxed_far h.1 (by omega), boxed_far h.2.1 (by omega), boxed_far h.2.2.1 (by omega), h.2.2.2.set _⟩
theorem Vars.res {W : World} {g : Nat} {m r s : Int} {o : Bool} (h : Vars W g m r o s) (r' : Int) : Vars (W.setCell ⟨g + 1, 0, none⟩ (.int .i64 r')) g m r' o s := ⟨boxed_far h.1 (by omega), h.2.1.set _, boxed_far h.2.2.1 (by omega), boxed_far h.2.2.2 (by omega)⟩
theorem Vars.ok {W : World} {g : Nat} {m r s : Int} {o : Bool} (h : Vars W g m r o s) (o' : Bool) : Vars (W.setCell ⟨g + 1 + 1, 0, none⟩ (.bool o')) g m r o' s := ⟨boxed_far h.1 (by omega), boxed_far h.2.1 (by omega), h.2.2.1.set _, boxed_far h.2.2.2 (by omega)⟩

set_option maxRecDepth 100000 in
set_option maxHeartbeats 2000000 in
theorem upto_any (A1 A2 : Option Addr) (c1 c2 : Nat) (a b : List Int) (ha : Bd a) (hb : Bd b) (hla : a.length ≤ 1048576) (hlb : b.length ≤ 1048576) (most : Int) (w : World) (s1 : Sl w w.heap.size A1 (iv a)) (s2 : Sl w w.heap.size A2 (iv b)) :
    Calls Try.prog 52 #[.slice A1 a.length c1, .slice A2 b.length c2, .int .i64 most] w (Gives (.tuple #[.int .i64 (if D a b ≤ most then D a b else 0), .bool (decide (D a b ≤ most))]) w) := by
  refine (callsIn_wide (n := 6)).1 ?_
  refine callsIn_of_wp_marks Try.func52 rfl trivial ?_ rfl
  simp only [Try.ntmps52, List.size_toArray, List.length_cons, List.length_nil, Nat.reduceAdd, Nat.reduceSub, Array.replicate_succ, Array.replicate_zero, List.push_toArray, List.append_toArray, List.nil_append, List.cons_append]
  have hD0 := D_nonneg a b
  obtain ⟨r, hr⟩ : ∃ r : Int, r = if D a b ≤ most then D a b else 0 := ⟨_, rfl⟩
  obtain ⟨o, ho⟩ : ∃ o : Bool, o = decide (D a b ≤ most) := ⟨_, rfl⟩
  rw [← hr, ← ho]
  have hyes : D a b ≤ most → r = D a b ∧ o = true := fun h => ⟨by rw [hr, if_pos h], by rw [ho, decide_eq_true h]⟩
  have hno : most < D a b → r = 0 ∧ o = false := fun h => ⟨by rw [hr, if_neg (by omega)], by rw [ho, decide_eq_false (by omega)]⟩
  clear hr ho
  have HY := Lib.hid hyes
  have HN := Lib.hid hno
  clear hyes hno
  by_cases hm : most < 0
  · obtain ⟨rfl, rfl⟩ := HN.out (by omega)
    clear HY HN hD0
    have b1 := ((Boxed.new (w.alloc (.cells #[.int .i64 most] 3)) 3 (.int .i64 0)).alloc (.cells #[.bool false] 4)).cell
    have b2 := (Boxed.new ((w.alloc (.cells #[.int .i64 most] 3)).alloc (.cells #[.int .i64 0] 3)) 4 (.bool false)).cell
    rw [World.size_alloc] at b1
    rw [World.size_alloc, World.size_alloc] at b2
    have hB3 : Below w.heap.size w (((w.alloc (.cells #[.int .i64 most] 3)).alloc (.cells #[.int .i64 0] 3)).alloc (.cells #[.bool false] 4)) := (((Below.refl _ w).alloc (Nat.le_refl _) _).alloc (by simp) _).alloc (by simp; omega) _
    gi_wp2
    refine ⟨.tuple #[.int .i64 0, .bool false], ?_, rfl, hB3⟩
    simp [results, Try.f52, go_sem, b1, b2]
  · gi_wp2_with (refine ⟨trivial, ?_⟩; gi_at_call 59; refine (callsIn_wide.2 (gaps_any A1 A2 a.length b.length c1 c2 _)).mono ?_; rintro e w' ⟨rfl, rfl⟩)
    all_goals first | (exfalso; omega) | skip
    have v3 : Vars ((((w.alloc (.cells #[.int .i64 most] 3)).alloc (.cells #[.int .i64 0] 3)).alloc (.cells #[.bool false] 4)).alloc (.cells #[.int .i64 0] 3)) w.heap.size most 0 false 0 := by
      refine ⟨(((Boxed.new w _ _).alloc _).alloc _).alloc _, ?_, ?_, ?_⟩
      · have h := ((Boxed.new (w.alloc (.cells #[.int .i64 most] 3)) 3 (.int .i64 0)).alloc (.cells #[.bool false] 4)).alloc (.cells #[.int .i64 0] 3)
        rwa [World.size_alloc] at h
      · have h := (Boxed.new ((w.alloc (.cells #[.int .i64 most] 3)).alloc (.cells #[.int .i64 0] 3)) 4 (.bool false)).alloc (.cells #[.int .i64 0] 3)
        rwa [World.size_alloc, World.size_alloc] at h
      · have h := Boxed.new (((w.alloc (.cells #[.int .i64 most] 3)).alloc (.cells #[.int .i64 0] 3)).alloc (.cells #[.bool false] 4)) 3 (.int .i64 0)
        rwa [World.size_alloc, World.size_alloc, World.size_alloc] at h
    obtain ⟨W4, hW4⟩ : ∃ V, V = (((w.alloc (.cells #[.int .i64 most] 3)).alloc (.cells #[.int .i64 0] 3)).alloc (.cells #[.bool false] 4)).alloc (.cells #[.int .i64 0] 3) := ⟨_, rfl⟩
    have hB4 : Below w.heap.size w W4 := by rw [hW4]; exact ((((Below.refl _ w).alloc (Nat.le_refl _) _).alloc (by simp) _).alloc (by simp; omega) _).alloc (by simp; omega) _
    have hz4 : W4.heap.size = w.heap.size + 1 + 1 + 1 + 1 := by rw [hW4]; simp
    rw [← hW4] at v3 ⊢
    clear hW4
    have bA := (Boxed.new W4 34 (.slice A1 a.length c1)).alloc (.cells #[.slice A2 b.length c2] 34)
    have bB := Boxed.new (W4.alloc (.cells #[.slice A1 a.length c1] 34)) 34 (.slice A2 b.length c2)
    rw [World.size_alloc] at bB
    rw [hz4] at bA bB
    have v5 := (v3.alloc (.cells #[.slice A1 a.length c1] 34)).alloc (.cells #[.slice A2 b.length c2] 34)
    have hB5 : Below w.heap.size w ((W4.alloc (.cells #[.slice A1 a.length c1] 34)).alloc (.cells #[.slice A2 b.length c2] 34)) := (hB4.alloc (by omega) _).alloc (by simp; omega) _
    have hz5 : ((W4.alloc (.cells #[.slice A1 a.length c1] 34)).alloc (.cells #[.slice A2 b.length c2] 34)).heap.size = w.heap.size + 1 + 1 + 1 + 1 + 1 + 1 := by simp [hz4]
    obtain ⟨W5, hW5⟩ : ∃ V, V = (W4.alloc (.cells #[.slice A1 a.length c1] 34)).alloc (.cells #[.slice A2 b.length c2] 34) := ⟨_, rfl⟩
    rw [← hW5] at v5 bA bB hB5 hz5 ⊢
    clear hW5 v3 hz4 hB4
    refine wpIn_rangeFunc_ownF rfl (by omega) (gf := 64) (lb := #[.pointer (some ⟨w.heap.size + 1 + 1 + 1 + 1, 0, none⟩), .pointer (some ⟨w.heap.size + 1 + 1 + 1 + 1 + 1, 0, none⟩)]) rfl trivial (enters_of Try.func64 (by kernel_rfl) rfl)
      (iter_stops (6 - 1) (by omega) (w.heap.size + 1 + 1 + 1 + 1) (w.heap.size + 1 + 1 + 1 + 1 + 1) w.heap.size A1 A2 c1 c2 a b ha hb hla hlb W5 (by omega) (by omega) (by omega) bA.cell bB.cell (s1.below hB5) (s2.below hB5)) Kp.trans
      ?keeps (Below.refl _ _) (fun _ => rfl)
      (fun pre W => (Vars W w.heap.size most 0 false (sumW pre) ∧ sumW pre ≤ most) ∧ Below w.heap.size w W)
      (fun c pre W => (c = .ret ∧ most < sumW pre ∧ ∃ s, Vars W w.heap.size most 0 false s) ∧ Below w.heap.size w W)
      (OwnFrom.and (Own.from (fun s A B row hs hg hr => ⟨hs.1.held hg hr, hs.2⟩) _) (ownFrom_below (by omega) (by omega)))
      (fun c => OwnFrom.and (Own.from (fun s A B row hs hg hr => by obtain ⟨h1, h2, s', h3⟩ := hs; exact ⟨h1, h2, s', h3.held hg hr⟩) _) (ownFrom_below (by omega) (by omega)))
      ⟨⟨v5, by show (0 : Int) ≤ most; omega⟩, hB5⟩
      (fun x => { tmps := #[.slice A1 a.length c1, .slice A2 b.length c2, .int .i64 most, undef, undef, .pointer (some ⟨w.heap.size, 0, none⟩), .pointer (some ⟨w.heap.size + 1, 0, none⟩), .pointer (some ⟨w.heap.size + 1 + 1, 0, none⟩), .pointer (some ⟨w.heap.size + 1 + 1 + 1, 0, none⟩), .int .i64 x, .int .i64 most, .bool false, .slice A1 a.length c1, .slice A2 b.length c2, .func (.func 64) #[] #[.pointer (some ⟨w.heap.size + 1 + 1 + 1 + 1, 0, none⟩), .pointer (some ⟨w.heap.size + 1 + 1 + 1 + 1 + 1, 0, none⟩)], .int .i64 x, undef, undef, undef, undef, undef, undef, undef], defers := [] }) ?assign ?body ?done ?stop
    case keeps =>
      intro W l o o' hl h hc hw
      have hg := grownBy_putObj' W l o'
      have hlt := (Array.getElem?_eq_some_iff.1 h).1
      exact ⟨belowK_b (w := W5) (by omega) W l o o' hl h hc hw, World.cell?_of_block (hg.block (w.heap.size + 1 + 1 + 1 + 1) (by omega) (fun e => by injection e; omega)), World.cell?_of_block (hg.block (w.heap.size + 1 + 1 + 1 + 1 + 1) (by omega) (fun e => by injection e; omega))⟩
    case assign =>
      intro l x W K hK
      gi_wp2
      exact hK
    case body =>
      rintro l pre x W ⟨⟨hv, hs⟩, hB⟩ _
      have m0 := hv.1.cell
      have f1 := hv.2.1.frozen
      have e1 := hv.2.1.cell
      have f2 := hv.2.2.1.frozen
      have e2 := hv.2.2.1.cell
      have f3 := hv.2.2.2.frozen
      have e3 := hv.2.2.2.cell
      have hv1 := hv.sum (wrap64 (sumW pre + x))
      have hB1 := hB.setCell (p := ⟨w.heap.size + 1 + 1 + 1, 0, none⟩) (by simp; omega) (.int .i64 (wrap64 (sumW pre + x)))
      have k1 := KeepsOthers.setCell W ⟨w.heap.size + 1 + 1 + 1, 0, none⟩ (.int .i64 (wrap64 (sumW pre + x)))
      gi_wp2
      · rename_i h
        refine ⟨(k1.trans (KeepsOthers.setCell _ _ _)).trans (KeepsOthers.setCell _ _ _), ⟨rfl, by rw [sumW_snoc]; exact h, _, (hv1.res 0).ok false⟩, (hB1.setCell (p := ⟨w.heap.size + 1, 0, none⟩) (by simp) _).setCell (p := ⟨w.heap.size + 1 + 1, 0, none⟩) (by simp; omega) _⟩
      · rename_i h
        refine ⟨k1, ⟨(Below.refl w.heap.size W).setCell (p := ⟨w.heap.size + 1 + 1 + 1, 0, none⟩) (by simp; omega) _, World.cell?_setCell_other W _ _ _ (by simp), World.cell?_setCell_other W _ _ _ (by simp)⟩, ⟨by rw [sumW_snoc]; exact hv1, by rw [sumW_snoc]; omega⟩, hB1⟩
    case done =>
      rintro D' ys W hD rfl ⟨⟨hv, hs⟩, hB⟩ hK
      have f1 := hv.2.1.frozen
      have e1 := hv.2.1.cell
      have f2 := hv.2.2.1.frozen
      have e2 := hv.2.2.1.cell
      have e3 := hv.2.2.2.cell
      have hm3 : mx a b ≤ 1048576 := by unfold mx; omega
      rw [sumW_gs ha hb hm3] at hs e3
      obtain ⟨rfl, rfl⟩ := HY.out hs
      gi_wp2
      have hv2 := (hv.res (dk a b (mx a b))).ok true
      have hB2 := (hB.setCell (p := ⟨w.heap.size + 1, 0, none⟩) (by simp) (.int .i64 (dk a b (mx a b)))).setCell (p := ⟨w.heap.size + 1 + 1, 0, none⟩) (by simp; omega) (.bool true)
      have hK' := ((KeepsOthers.setCell W ⟨w.heap.size + 1, 0, none⟩ (.int .i64 (dk a b (mx a b)))).trans (KeepsOthers.setCell _ ⟨w.heap.size + 1 + 1, 0, none⟩ (.bool true))).same D' _ hK rfl
      have hv3 := hv2.held (grownBy_putObj' _ D' (.deferred none)) (fun r e => by cases e; exact ⟨_, hK', rfl⟩)
      have q1 := hv3.2.1.cell
      have q2 := hv3.2.2.1.cell
      refine ⟨by simp, .inl ⟨_, _, rfl, run_takeDeferred hK', ?_⟩⟩
      refine ⟨.tuple #[.int .i64 (dk a b (mx a b)), .bool true], ?_, rfl, hB2.trans (belowK_b (w := w) (Nat.le_refl _) _ D' _ _ (by omega) hK' rfl rfl)⟩
      simp [results, Try.f52, go_sem, q1, q2]
    case stop =>
      rintro D' c pre W hD ⟨k, hk, rfl⟩ ⟨⟨rfl, hs, s', hv⟩, hB⟩ hK
      have hm3 : mx a b ≤ 1048576 := by unfold mx; omega
      rw [sumW_gs ha hb (by omega)] at hs
      have hmono := dk_mono a b hk
      obtain ⟨rfl, rfl⟩ := HN.out (by unfold D; omega)
      gi_wp2
      have hK' := hK
      have hv3 := hv.held (grownBy_putObj' _ D' (.deferred none)) (fun r e => by cases e; exact ⟨_, hK', rfl⟩)
      have q1 := hv3.2.1.cell
      have q2 := hv3.2.2.1.cell
      refine ⟨by simp, .inl ⟨_, _, rfl, run_takeDeferred hK', ?_⟩⟩
      refine ⟨.tuple #[.int .i64 0, .bool false], ?_, rfl, hB.trans (belowK_b (w := w) (Nat.le_refl _) _ D' _ _ (by omega) hK' rfl rfl)⟩
      simp [results, Try.f52, go_sem, q1, q2]
end Go.Proofs.Ytaamlidflfdjkaa.lone
/-
  The contracts of lone.Dist, lone.Norm, lone.Least; what lives.
-/
namespace Go.Proofs.Ytaamlidflfdjkaa.lone
open Go.RowKit law bytes dist
set_option linter.unusedVariables false

set_option maxHeartbeats 800000 in
theorem dist_any (A1 A2 : Option Addr) (c1 c2 : Nat) (a b : List Int) (ha : Bd a) (hb : Bd b) (hla : a.length ≤ 1048576) (hlb : b.length ≤ 1048576) (w : World) (s1 : Sl w w.heap.size A1 (iv a)) (s2 : Sl w w.heap.size A2 (iv b)) :
    Calls Try.prog 49 #[.slice A1 a.length c1, .slice A2 b.length c2] w (Gives (.int .i64 (D a b)) w) := by
  have h := upto_any A1 A2 c1 c2 a b ha hb hla hlb 9223372036854775807 w s1 s2
  have hD := D_small ha hb hla hlb
  have hle : D a b ≤ 9223372036854775807 := by omega
  rw [if_pos hle, decide_eq_true hle] at h
  have H := Lib.hid h
  clear h hle hD
  go_enter Try.func49, Try.ntmps49
  go_wp2_with (fail)
  refine H.out.mono ?_
  rintro e w1 ⟨rfl, hb1⟩
  go_wp2
  go_ret
  exact ⟨rfl, hb1⟩
/-- a call over a world that stayed below -/
theorem on {P : Program} {f : FuncId} {args : Array Value} {V W : World} {v : Value} (hb : Below V.heap.size V W) (h : Calls P f args W (Gives v W)) : Calls P f args W fun e w' => e = .returned v ∧ Below V.heap.size V w' :=
  h.mono fun e w' ⟨he, h2⟩ => ⟨he, hb.trans (h2.mono hb.size)⟩
theorem add_zero_at (b j : Nat) : (⟨b, 0, none⟩ : Addr).add j = ⟨b, j, none⟩ := by
  unfold Addr.add
  by_cases hz : j = 0 <;> simp [hz]
theorem Sl.of_blk {w : World} {b t : Nat} {cs : Array Value} (h : Blk w b t cs) : Sl w w.heap.size (some ⟨b, 0, none⟩) cs.toList := fun j u hj => by
  refine ⟨_, rfl, h.lt, ?_⟩
  rw [add_zero_at, h.cell j]
  simpa using hj
end Go.Proofs.Ytaamlidflfdjkaa.lone
/-
  The contracts of the document's own pad and Dist.
-/
namespace Go.Proofs.Ytaamlidflfdjkaa.lone
open Go.RowKit law bytes dist
set_option linter.unusedVariables false

/-- with noughts behind -/
def padL (l : List Int) (n : Nat) : List Int := l ++ List.replicate (n - l.length) 0
theorem padL_length (l : List Int) (n : Nat) : (padL l n).length = max l.length n := by simp [padL]; omega
theorem padL_nm (l : List Int) (n j : Nat) : nm (padL l n) j = nm l j := by
  unfold nm padL
  rw [List.getElem?_append]
  split
  · rfl
  · rw [List.getElem?_replicate]
    split <;> simp_all
theorem padL_bd {l : List Int} (h : Bd l) (n : Nat) : Bd (padL l n) := fun x hx => by
  rcases List.mem_append.1 hx with hx | hx
  · exact h x hx
  · obtain ⟨_, rfl⟩ := List.mem_replicate.1 hx
    omega
theorem pad_step (l : List Int) (k : Nat) : iv (l ++ List.replicate k 0) ++ [.int .i32 0] = iv (l ++ List.replicate (k + 1) 0) := by
  rw [List.replicate_succ', ← List.append_assoc, iv_append (l ++ List.replicate k 0)]
  rfl

set_option maxHeartbeats 800000 in
theorem pad_any (A : Option Addr) (c n : Nat) (l : List Int) (hl : l.length ≤ 1048576) (hn : n ≤ 1048576) (w : World) (hs : Sl w w.heap.size A (iv l)) :
    Calls Try.prog 43 #[.slice A l.length c, .int .i64 n] w (Made 21 (iv (padL l n)) w) := by
  go_enter Try.func43, Try.ntmps43
  go_wp2_with (at_builtin
               refine wpList_append_sl _ rfl (.const (.slice none 0 0)) (.tmp 6) _ rfl w.heap.size 21 _ 4 Try.underlying34 int32E (.slice none 0 0) 0 [] rfl (World.ownsRow_nil _ _ _ _) w.heap.size A l.length c (iv l) rfl hs (iv_length l) (iv_one l) (by omega) (by unfold maxLen; omega) (Nat.le_refl _) ?_
               intro v1 w1 hown1 hg1 hat1
               simp only [Nat.zero_add, List.nil_append] at hown1
               obtain ⟨A1, k1, rfl, hk1⟩ := own_slice hown1)
  have hb1 : Below w.heap.size w w1 := (Below.refl _ w).grown hg1 (Nat.le_refl _) (by simp [Value.ownBlock])
  clear hg1 hat1
  go_loopg [5] (n - l.length) (fun gk v wr => ∃ (k c : Nat) (A : Option Addr), k ≤ n - l.length ∧ gk = n - l.length - k ∧ v = .slice A (l.length + k) c ∧ wr.ownsRow w.heap.size 21 1 (.slice A (l.length + k) c) (l.length + k) (iv (l ++ List.replicate k 0)) ∧ Below w.heap.size w wr)
  case atStart => exact ⟨0, k1, A1, Nat.zero_le _, rfl, rfl, by simpa using hown1, hb1⟩
  case round =>
    clear hown1 hb1
    obtain ⟨k, c', A', hk, rfl, rfl, hown, hb⟩ := hrel
    have hb0 : w.heap.size ≤ wr.heap.size := hb.size
    by_cases hlt : k < n - l.length
    · go_wp2_with (at_builtin
                   refine wpList_append_sl _ rfl (.tmp 12) (.tmp 13) _ rfl w.heap.size 21 _ 4 Try.underlying34 int32E (.slice A' (l.length + k) c') (l.length + k) (iv (l ++ List.replicate k 0)) rfl (hown.alloc _) _ _ 1 1 [.int .i32 0] rfl (Sl.one wr _ _) rfl (by simp [Value.oneCell']) (by omega) (by unfold maxLen; omega) (by simp; omega) ?_
                   intro v4 w4 hown4 hg4 hat4
                   obtain ⟨A4, c4, rfl, hc4⟩ := own_slice hown4)
      go_roundg (n - l.length - (k + 1))
      case rel => exact ⟨k + 1, c4, A4, by omega, rfl, rfl, by rw [← pad_step]; exact hown4, below_append hb hb0 _ hown (Nat.le_refl _) hg4⟩
      case measure => omega
    · obtain rfl : k = n - l.length := by omega
      go_wp2
      go_ret
      exact Made.mk hown rfl hb
end Go.Proofs.Ytaamlidflfdjkaa.lone
/-
  The contract of the document's own Dist.
-/
namespace Go.Proofs.Ytaamlidflfdjkaa.lone
open Go.RowKit law bytes dist
set_option linter.unusedVariables false

/-- new memory that reads as N numbers -/
def Nums (N : Nat) (l : List Int) (w : World) (e : Ending) (w' : World) : Prop := ∃ A c, e = .returned (.slice A N c) ∧ Sl w' w'.heap.size A (iv l) ∧ Below w.heap.size w w'
theorem pad_nums (A : Option Addr) (c n N : Nat) (l : List Int) (hl : l.length ≤ 1048576) (hn : n ≤ 1048576) (w : World) (hs : Sl w w.heap.size A (iv l)) (hN : max l.length n = N) :
    Calls Try.prog 43 #[.slice A l.length c, .int .i64 n] w (Nums N (padL l n) w) := by
  refine (pad_any A c n l hl hn w hs).mono ?_
  rintro e w' ⟨A', c', rfl, hown, hb⟩
  refine ⟨A', c', by rw [iv_length, padL_length, hN], ?_, hb⟩
  exact Sl.of_own hown
theorem step_pos {a b : List Int} (ha : Bd a) (hb : Bd b) {k : Nat} (hk : k < 1048576) (h : nm b k ≤ nm a k) : wrap64 (nm a k - nm b k) = nm a k - nm b k ∧ wrap64 (dk a b k + (nm a k - nm b k)) = dk a b (k + 1) := by
  have h1 := dk_nonneg a b k
  have h2 := dk_le ha hb k
  have h3 := nm_bd ha k
  have h4 := nm_bd hb k
  have h5 : (k : Int) * 4294967295 ≤ 1048576 * 4294967295 := Int.mul_le_mul_of_nonneg_right (by omega) (by omega)
  rw [dk_succ, gp_pos h]
  exact ⟨w64 _ (by omega), w64 _ (by omega)⟩
theorem step_neg {a b : List Int} (ha : Bd a) (hb : Bd b) {k : Nat} (hk : k < 1048576) (h : nm a k ≤ nm b k) : wrap64 (nm b k - nm a k) = nm b k - nm a k ∧ wrap64 (dk a b k + (nm b k - nm a k)) = dk a b (k + 1) := by
  have h1 := dk_nonneg a b k
  have h2 := dk_le ha hb k
  have h3 := nm_bd ha k
  have h4 := nm_bd hb k
  have h5 : (k : Int) * 4294967295 ≤ 1048576 * 4294967295 := Int.mul_le_mul_of_nonneg_right (by omega) (by omega)
  rw [dk_succ, gp_neg h]
  exact ⟨w64 _ (by omega), w64 _ (by omega)⟩

set_option maxHeartbeats 1600000 in
theorem rdist_any (A1 A2 : Option Addr) (c1 c2 : Nat) (a b : List Int) (ha : Bd a) (hb : Bd b) (hla : a.length ≤ 1048576) (hlb : b.length ≤ 1048576) (w : World) (s1 : Sl w w.heap.size A1 (iv a)) (s2 : Sl w w.heap.size A2 (iv b)) :
    Calls Try.prog 34 #[.slice A1 a.length c1, .slice A2 b.length c2] w (Gives (.int .i64 (D a b)) w) := by
  obtain ⟨N, hN⟩ : ∃ N, mx a b = N := ⟨_, rfl⟩
  have hN2 : N ≤ 1048576 := by rw [← hN]; unfold mx; omega
  have HP := Lib.hid (pad_nums A1 c1 b.length N a hla hlb w s1 hN)
  have hD : D a b = dk a b N := by unfold D; rw [hN]
  have hl1 : (padL a b.length).length = N := by rw [padL_length]; exact hN
  have hl2 : (padL b N).length = N := by rw [padL_length]; unfold mx at hN; omega
  have hmx : max b.length N = N := by unfold mx at hN; omega
  clear hN
  rw [hD]
  clear hD
  go_enter Try.func34, Try.ntmps34
  go_wp2_with (fail)
  refine HP.out.mono ?_
  rintro e w1 ⟨A3, c3, rfl, t1, hb1⟩
  have HP2 := Lib.hid (pad_nums A2 c2 N N b hlb hN2 w1 (s2.on hb1) hmx)
  clear hmx
  go_wp2_with (fail)
  refine HP2.out.mono ?_
  rintro e w2 ⟨A4, c4, rfl, t2, hb2⟩
  have t1 := t1.on hb2
  have hB := hb1.trans (hb2.mono hb1.size)
  clear HP HP2 hb1 hb2 s1 s2
  generalize hp : padL a b.length = p at t1 hl1
  generalize hq : padL b N = q at t2 hl2
  have hpn : ∀ j, nm p j = nm a j := fun j => by rw [← hp, padL_nm]
  have hqn : ∀ j, nm q j = nm b j := fun j => by rw [← hq, padL_nm]
  have HPN := Lib.hid hpn
  have HQN := Lib.hid hqn
  clear hpn hqn hp hq
  have HT1 := Lib.hid t1
  have HT2 := Lib.hid t2
  clear t1 t2
  go_wp2_with (fail)
  go_loopw [5, 6] (fun s i wr => ∃ k j : Nat, k ≤ N ∧ i = .int .i64 k ∧ s = .int .i64 (dk a b k) ∧ wr = w2.drewN j) (fun _ i _ => N - (intOf i).toNat)
  case atStart => exact ⟨0, 0, Nat.zero_le _, rfl, rfl, rfl⟩
  case round =>
    obtain ⟨k, j, hk, rfl, rfl, rfl⟩ := hrel
    by_cases hlt : k < N
    · obtain ⟨ad1, e1, _, q1⟩ := Sl.nm HT1.out (by rw [hl1]; exact hlt)
      obtain ⟨ad2, e2, _, q2⟩ := Sl.nm HT2.out (by rw [hl2]; exact hlt)
      rw [HPN.out] at q1
      rw [HQN.out] at q2
      subst e1 e2
      obtain ⟨x1, x2⟩ := nm_bd ha k
      obtain ⟨y1, y2⟩ := nm_bd hb k
      by_cases hgt : nm b k < nm a k
      · obtain ⟨z1, z2⟩ := step_pos ha hb (by omega : k < 1048576) (by omega)
        go_wp2_with (fail)
        go_quiet (fail)
        go_wp2_with (fail)
        go_quiet (fail)
        go_wp2_with (fail)
        go_roundw
        case rel => exact ⟨k + 1, _, by omega, by go_num, by rw [z2], rfl⟩
        case measure => simp [intOf]; omega
      · obtain ⟨z1, z2⟩ := step_neg ha hb (by omega : k < 1048576) (by omega)
        go_wp2_with (fail)
        go_quiet (fail)
        go_wp2_with (fail)
        go_quiet (fail)
        go_wp2_with (fail)
        go_roundw
        case rel => exact ⟨k + 1, _, by omega, by go_num, by rw [z2], rfl⟩
        case measure => simp [intOf]; omega
    · obtain rfl : k = N := by omega
      go_wp2_with (fail)
      go_ret
      exact ⟨rfl, below_drewN hB _⟩
end Go.Proofs.Ytaamlidflfdjkaa.lone
