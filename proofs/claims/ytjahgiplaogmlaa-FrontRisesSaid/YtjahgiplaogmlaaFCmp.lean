/-
  Entries (how low, which node, which number): cells, order; the contracts of cmp.Compare of ints and of numbers, front.isNode, front.compare; Heap.compare at entries, of any order that tells an int and leaves what there was.
-/
import Derived.Test.YtjahgiplaogmlaaGLib
import Derived.Test.YtjahgiplaogmlaaHeapM
import Derived.Test.YtjahgiplaogmlaaChecked
import Derived.Lib.Hide
import Derived.BigQuiet
import Derived.WalkMore
import Derived.RegionCalls
import Derived.Deep.RegionWith
import Derived.Deep.RegionHeld3
import Derived.Shelf.Abstract
import Derived.Defers
import Derived.Recover
import Derived.Deep.LoopGhost
import Derived.WalkSpells
namespace Go.Proofs.Ytjahgiplaogmlaa.fro
open Go.RowKit law bytes only flat heapM Go.Sort Go.Shelf
set_option linter.unusedVariables false

/-- an entry: how low, which node (a thing: below 0), which number -/
abbrev Ent := Int × Int × Int
def ec (x : Ent) : List Value := [.int .i64 x.1, .int .i64 x.2.1, .int .u64 x.2.2]
theorem ec_len (x : Ent) : (ec x).length = 3 := rfl
/-- an entry as a value -/
def tE (x : Ent) : Value := .agg #[.int .i64 x.1, .int .i64 x.2.1, .int .u64 x.2.2]
theorem entE : ElemK Try.prog 44 3 24 := elemK_mk (z := .agg #[.int .i64 0, .int .i64 0, .int .u64 0]) (by kernel_rfl) rfl
def lf {α : Type} (cf : α → α → Int) (x y : α) : Bool := decide (cf x y < 0)
/-- an order: a function value that tells cf of values, in whatever world, and leaves what there was -/
def Ordr {α : Type} (K : Nat) (E : α → Value) (cf : α → α → Int) : Prop := ∀ (W : World) (x y : α), Calls Try.prog K #[E x, E y] W fun e w' => e = .returned (.int .i64 (cf x y)) ∧ Below W.heap.size W w'

/-! ### which is ahead -/
def cmpI (x y : Int) : Int := if x < y then -1 else if y < x then 1 else 0
/-- is it a node? -/
def nd (x : Ent) : Bool := decide (0 ≤ x.2.1)
/-- what compare tells -/
def ce (x y : Ent) : Int := if cmpI x.1 y.1 ≠ 0 then cmpI x.1 y.1 else if (nd x && nd y) = true then cmpI x.2.1 y.2.1 else if nd x = true then -1 else if nd y = true then 1 else cmpI x.2.2 y.2.2
/-- which is ahead, in one -/
def Ah (x y : Ent) : Prop := x.1 < y.1 ∨ (x.1 = y.1 ∧ ((0 ≤ x.2.1 ∧ 0 ≤ y.2.1 ∧ x.2.1 < y.2.1) ∨ (0 ≤ x.2.1 ∧ y.2.1 < 0) ∨ (x.2.1 < 0 ∧ y.2.1 < 0 ∧ x.2.2 < y.2.2)))
theorem cmpI_neg (x y : Int) : cmpI x y < 0 ↔ x < y := by
  unfold cmpI
  by_cases h : x < y
  · simp [h]
  · by_cases h2 : y < x <;> simp [h, h2]
theorem cmpI_zero (x y : Int) : cmpI x y = 0 ↔ x = y := by
  unfold cmpI
  by_cases h : x < y
  · simp [h]; omega
  · by_cases h2 : y < x
    · simp [h, h2]; omega
    · simp [h, h2]; omega
theorem ce_neg (x y : Ent) : ce x y < 0 ↔ Ah x y := by
  unfold ce Ah nd
  by_cases h0 : cmpI x.1 y.1 = 0
  · have e := (cmpI_zero _ _).1 h0
    rw [if_neg (by simp [h0])]
    by_cases h1 : 0 ≤ x.2.1
    · by_cases h2 : 0 ≤ y.2.1
      · rw [if_pos (by simp [h1, h2]), cmpI_neg]; omega
      · rw [if_neg (by simp [h2]), if_pos (by simp [h1])]; omega
    · by_cases h2 : 0 ≤ y.2.1
      · rw [if_neg (by simp [h1]), if_neg (by simp [h1]), if_pos (by simp [h2])]; omega
      · rw [if_neg (by simp [h1]), if_neg (by simp [h1]), if_neg (by simp [h2]), cmpI_neg]; omega
  · have e : x.1 ≠ y.1 := fun e => h0 ((cmpI_zero _ _).2 e)
    rw [if_pos h0, cmpI_neg]; omega
theorem lt_iff (x y : Ent) : lf ce x y = true ↔ Ah x y := by rw [lf, decide_eq_true_iff, ce_neg]
theorem nlt_iff (x y : Ent) : lf ce x y = false ↔ ¬ Ah x y := by rw [← lt_iff]; simp
theorem swo : SWO (lf ce) where
  irrefl x := by rw [nlt_iff]; unfold Ah; omega
  trans x y z h1 h2 := by rw [lt_iff] at *; unfold Ah at *; omega
  ntrans x y z h1 h2 := by rw [nlt_iff] at *; unfold Ah at *; omega

/-! ### contracts -/
theorem nanI_any (x : Int) (w : World) : Calls Try.prog 32 #[.int .i64 x] w fun e w' => e = .returned (.bool false) ∧ w = w' := by
  go_enter Try.func32, Try.ntmps32
  go_wp2
  go_ret
  exact ⟨ret_bool (by simp), rfl⟩
theorem nanU_any (x : Int) (w : World) : Calls Try.prog 33 #[.int .u64 x] w fun e w' => e = .returned (.bool false) ∧ w = w' := by
  go_enter Try.func33, Try.ntmps33
  go_wp2
  go_ret
  exact ⟨ret_bool (by simp), rfl⟩
theorem cmp64_any (x y : Int) (w : World) : Calls Try.prog 26 #[.int .i64 x, .int .i64 y] w fun e w' => e = .returned (.int .i64 (cmpI x y)) ∧ w = w' := by
  have hC : cmpI x y = if x < y then -1 else if x > y then 1 else 0 := rfl
  by_cases h1 : x < y
  · rw [if_pos h1] at hC
    have HC := Lib.hid hC
    have d1 : decide (x < y) = true := decide_eq_true h1
    clear hC h1
    go_enter Try.func26, Try.ntmps26
    go_wp2_with (go_at_call 32; (with_reducible refine (nanI_any _ _).mono ?_); rintro e w' ⟨rfl, rfl⟩)
    go_ret
    exact ⟨by rw [HC.out]; rfl, rfl⟩
  rw [if_neg h1] at hC
  have d1 : decide (x < y) = false := decide_eq_false h1
  by_cases h2 : y < x
  · rw [if_pos h2] at hC
    have HC := Lib.hid hC
    have d2 : decide (y < x) = true := decide_eq_true h2
    clear hC h1 h2
    go_enter Try.func26, Try.ntmps26
    go_wp2_with (go_at_call 32; (with_reducible refine (nanI_any _ _).mono ?_); rintro e w' ⟨rfl, rfl⟩)
    go_ret
    exact ⟨by rw [HC.out]; rfl, rfl⟩
  rw [if_neg h2] at hC
  have HC := Lib.hid hC
  have d2 : decide (y < x) = false := decide_eq_false h2
  clear hC h1 h2
  go_enter Try.func26, Try.ntmps26
  go_wp2_with (go_at_call 32; (with_reducible refine (nanI_any _ _).mono ?_); rintro e w' ⟨rfl, rfl⟩)
  go_ret
  exact ⟨by rw [HC.out]; rfl, rfl⟩
theorem cmpU_any (x y : Int) (w : World) : Calls Try.prog 27 #[.int .u64 x, .int .u64 y] w fun e w' => e = .returned (.int .i64 (cmpI x y)) ∧ w = w' := by
  have hC : cmpI x y = if x < y then -1 else if x > y then 1 else 0 := rfl
  by_cases h1 : x < y
  · rw [if_pos h1] at hC
    have HC := Lib.hid hC
    have d1 : decide (x < y) = true := decide_eq_true h1
    clear hC h1
    go_enter Try.func27, Try.ntmps27
    go_wp2_with (go_at_call 33; (with_reducible refine (nanU_any _ _).mono ?_); rintro e w' ⟨rfl, rfl⟩)
    go_ret
    exact ⟨by rw [HC.out]; rfl, rfl⟩
  rw [if_neg h1] at hC
  have d1 : decide (x < y) = false := decide_eq_false h1
  by_cases h2 : y < x
  · rw [if_pos h2] at hC
    have HC := Lib.hid hC
    have d2 : decide (y < x) = true := decide_eq_true h2
    clear hC h1 h2
    go_enter Try.func27, Try.ntmps27
    go_wp2_with (go_at_call 33; (with_reducible refine (nanU_any _ _).mono ?_); rintro e w' ⟨rfl, rfl⟩)
    go_ret
    exact ⟨by rw [HC.out]; rfl, rfl⟩
  rw [if_neg h2] at hC
  have HC := Lib.hid hC
  have d2 : decide (y < x) = false := decide_eq_false h2
  clear hC h1 h2
  go_enter Try.func27, Try.ntmps27
  go_wp2_with (go_at_call 33; (with_reducible refine (nanU_any _ _).mono ?_); rintro e w' ⟨rfl, rfl⟩)
  go_ret
  exact ⟨by rw [HC.out]; rfl, rfl⟩
theorem isNode_any (x : Ent) (w : World) : Calls Try.prog 23 #[tE x] w fun e w' => e = .returned (.bool (nd x)) ∧ Below w.heap.size w w' := by
  unfold tE nd
  have hB : Below w.heap.size w (w.alloc (.cells #[.int .i64 x.1, .int .i64 x.2.1, .int .u64 x.2.2] 44)) := (Below.refl _ _).alloc (Nat.le_refl _) _
  have HB := Lib.hid hB
  clear hB
  go_enter Try.func23, Try.ntmps23
  go_wp2_with (fail)
  go_ret
  exact ⟨rfl, HB.out⟩
set_option maxRecDepth 100000 in
set_option maxHeartbeats 1600000 in
theorem order_any (x y : Ent) (w : World) : Calls Try.prog 20 #[tE x, tE y] w fun e w' => e = .returned (.int .i64 (ce x y)) ∧ Below w.heap.size w w' := by
  have HD : Hid (ce x y = if cmpI x.1 y.1 ≠ 0 then cmpI x.1 y.1 else if (nd x && nd y) = true then cmpI x.2.1 y.2.1 else if nd x = true then -1 else if nd y = true then 1 else cmpI x.2.2 y.2.2) := Lib.hid rfl
  have HC : Hid (∀ W, Calls Try.prog 26 #[.int .i64 x.1, .int .i64 y.1] W fun e w' => e = .returned (.int .i64 (cmpI x.1 y.1)) ∧ W = w') := Lib.hid fun W => cmp64_any _ _ W
  have HN : Hid (∀ W, Calls Try.prog 26 #[.int .i64 x.2.1, .int .i64 y.2.1] W fun e w' => e = .returned (.int .i64 (cmpI x.2.1 y.2.1)) ∧ W = w') := Lib.hid fun W => cmp64_any _ _ W
  have HU : Hid (∀ W, Calls Try.prog 27 #[.int .u64 x.2.2, .int .u64 y.2.2] W fun e w' => e = .returned (.int .i64 (cmpI x.2.2 y.2.2)) ∧ W = w') := Lib.hid fun W => cmpU_any _ _ W
  obtain ⟨V, hV⟩ : ∃ V, V = (w.alloc (.cells #[.int .i64 x.1, .int .i64 x.2.1, .int .u64 x.2.2] 44)).alloc (.cells #[.int .i64 y.1, .int .i64 y.2.1, .int .u64 y.2.2] 44) := ⟨_, rfl⟩
  have hb : Below w.heap.size w V := by rw [hV]; exact ((Below.refl _ _).alloc (Nat.le_refl _) _).alloc (by simp) _
  have b1 : Blk V w.heap.size 44 #[.int .i64 x.1, .int .i64 x.2.1, .int .u64 x.2.2] := by rw [hV]; exact (Blk.new w _ _).alloc _
  have b2 : Blk V (w.heap.size + 1) 44 #[.int .i64 y.1, .int .i64 y.2.1, .int .u64 y.2.2] := by
    rw [hV]
    have := Blk.new (w.alloc (.cells #[.int .i64 x.1, .int .i64 x.2.1, .int .u64 x.2.2] 44)) 44 #[.int .i64 y.1, .int .i64 y.2.1, .int .u64 y.2.2]
    rwa [show (w.alloc (.cells #[.int .i64 x.1, .int .i64 x.2.1, .int .u64 x.2.2] 44)).heap.size = w.heap.size + 1 by simp] at this
  have HS : Hid (∀ W, Below V.heap.size V W → W.cell? ⟨w.heap.size, 0, none⟩ = some (.int .i64 x.1) ∧ W.cell? ⟨w.heap.size, 1, none⟩ = some (.int .i64 x.2.1) ∧ W.cell? ⟨w.heap.size, 2, none⟩ = some (.int .u64 x.2.2) ∧ W.cell? ⟨w.heap.size + 1, 0, none⟩ = some (.int .i64 y.1) ∧ W.cell? ⟨w.heap.size + 1, 1, none⟩ = some (.int .i64 y.2.1) ∧ W.cell? ⟨w.heap.size + 1, 2, none⟩ = some (.int .u64 y.2.2)) := Lib.hid fun W hW =>
    ⟨(b1.below hW b1.lt).cell 0, (b1.below hW b1.lt).cell 1, (b1.below hW b1.lt).cell 2, (b2.below hW b2.lt).cell 0, (b2.below hW b2.lt).cell 1, (b2.below hW b2.lt).cell 2⟩
  have HX : Hid (∀ W, Below V.heap.size V W → Calls Try.prog 23 #[tE x] W fun e w' => e = .returned (.bool (nd x)) ∧ Below V.heap.size V w') := Lib.hid fun W hW => (isNode_any x W).mono fun e w' ⟨he, h⟩ => ⟨he, hW.trans (h.mono hW.size)⟩
  have HY : Hid (∀ W, Below V.heap.size V W → Calls Try.prog 23 #[tE y] W fun e w' => e = .returned (.bool (nd y)) ∧ Below V.heap.size V w') := Lib.hid fun W hW => (isNode_any y W).mono fun e w' ⟨he, h⟩ => ⟨he, hW.trans (h.mono hW.size)⟩
  have HB : Hid (∀ W, Below V.heap.size V W → Below w.heap.size w W) := Lib.hid fun W hW => hb.trans (hW.mono hb.size)
  have HV := Lib.hid hV
  obtain ⟨q0, q1, q2, q3, q4, q5⟩ := HS.out V (Below.refl _ _)
  clear hV hb b1 b2
  unfold tE at HX HY ⊢
  generalize cmpI x.1 y.1 = r at HD HC
  generalize cmpI x.2.1 y.2.1 = s at HD HN
  generalize cmpI x.2.2 y.2.2 = t at HD HU
  by_cases h0 : r = 0
  · have d0 : (r != 0) = false := by simp [h0]
    have d1 : ¬ (r ≠ 0) := by simp [h0]
    subst h0
    cases hx : nd x with
    | true =>
      rw [hx] at HX
      cases hy : nd y with
      | true =>
        rw [hy] at HY
        have HE : Hid (ce x y = s) := Lib.hid (by rw [HD.out]; simp [hx, hy])
        clear HD d1 hx hy HU
        go_enter Try.func20, Try.ntmps20
        go_wp2_with (fail)
        rw [← HV.out]
        go_wp2_with (go_at_call 26; (first | (with_reducible refine (HC.out _).mono ?_) | (with_reducible refine (HN.out _).mono ?_)); rintro e w' ⟨rfl, rfl⟩)
        refine (HX.out _ (Below.refl _ _)).mono ?_
        rintro e w2 ⟨rfl, hb2⟩
        obtain ⟨p0, p1, p2, p3, p4, p5⟩ := HS.out w2 hb2
        go_wp2_with (fail)
        refine (HY.out _ hb2).mono ?_
        rintro e w3 ⟨rfl, hb3⟩
        obtain ⟨r0, r1, r2, r3, r4, r5⟩ := HS.out w3 hb3
        clear hb2 p0 p1 p2 p3 p4 p5
        go_wp2_with (go_at_call 26; (first | (with_reducible refine (HN.out _).mono ?_)); rintro e w' ⟨rfl, rfl⟩)
        go_ret
        exact ⟨by rw [HE.out]; rfl, HB.out _ hb3⟩
      | false =>
        rw [hy] at HY
        have HE : Hid (ce x y = -1) := Lib.hid (by rw [HD.out]; simp [hx, hy])
        clear HD d1 hx hy HU HN
        go_enter Try.func20, Try.ntmps20
        go_wp2_with (fail)
        rw [← HV.out]
        go_wp2_with (go_at_call 26; (with_reducible refine (HC.out _).mono ?_); rintro e w' ⟨rfl, rfl⟩)
        refine (HX.out _ (Below.refl _ _)).mono ?_
        rintro e w2 ⟨rfl, hb2⟩
        obtain ⟨p0, p1, p2, p3, p4, p5⟩ := HS.out w2 hb2
        go_wp2_with (fail)
        refine (HY.out _ hb2).mono ?_
        rintro e w3 ⟨rfl, hb3⟩
        obtain ⟨r0, r1, r2, r3, r4, r5⟩ := HS.out w3 hb3
        clear hb2 p0 p1 p2 p3 p4 p5
        go_wp2_with (fail)
        refine (HX.out _ hb3).mono ?_
        rintro e w4 ⟨rfl, hb4⟩
        go_wp2_with (fail)
        go_ret
        exact ⟨by rw [HE.out]; rfl, HB.out _ hb4⟩
    | false =>
      rw [hx] at HX
      cases hy : nd y with
      | true =>
        rw [hy] at HY
        have HE : Hid (ce x y = 1) := Lib.hid (by rw [HD.out]; simp [hx, hy])
        clear HD d1 hx hy HU HN
        go_enter Try.func20, Try.ntmps20
        go_wp2_with (fail)
        rw [← HV.out]
        go_wp2_with (go_at_call 26; (with_reducible refine (HC.out _).mono ?_); rintro e w' ⟨rfl, rfl⟩)
        refine (HX.out _ (Below.refl _ _)).mono ?_
        rintro e w2 ⟨rfl, hb2⟩
        obtain ⟨p0, p1, p2, p3, p4, p5⟩ := HS.out w2 hb2
        go_wp2_with (fail)
        refine (HX.out _ hb2).mono ?_
        rintro e w3 ⟨rfl, hb3⟩
        obtain ⟨r0, r1, r2, r3, r4, r5⟩ := HS.out w3 hb3
        clear hb2 p0 p1 p2 p3 p4 p5
        go_wp2_with (fail)
        refine (HY.out _ hb3).mono ?_
        rintro e w4 ⟨rfl, hb4⟩
        go_wp2_with (fail)
        go_ret
        exact ⟨by rw [HE.out]; rfl, HB.out _ hb4⟩
      | false =>
        rw [hy] at HY
        have HE : Hid (ce x y = t) := Lib.hid (by rw [HD.out]; simp [hx, hy])
        clear HD d1 hx hy HN
        go_enter Try.func20, Try.ntmps20
        go_wp2_with (fail)
        rw [← HV.out]
        go_wp2_with (go_at_call 26; (with_reducible refine (HC.out _).mono ?_); rintro e w' ⟨rfl, rfl⟩)
        refine (HX.out _ (Below.refl _ _)).mono ?_
        rintro e w2 ⟨rfl, hb2⟩
        obtain ⟨p0, p1, p2, p3, p4, p5⟩ := HS.out w2 hb2
        go_wp2_with (fail)
        refine (HX.out _ hb2).mono ?_
        rintro e w3 ⟨rfl, hb3⟩
        obtain ⟨r0, r1, r2, r3, r4, r5⟩ := HS.out w3 hb3
        clear hb2 p0 p1 p2 p3 p4 p5
        go_wp2_with (fail)
        refine (HY.out _ hb3).mono ?_
        rintro e w4 ⟨rfl, hb4⟩
        obtain ⟨p0, p1, p2, p3, p4, p5⟩ := HS.out w4 hb4
        clear hb3 r0 r1 r2 r3 r4 r5
        go_wp2_with (go_at_call 27; (with_reducible refine (HU.out _).mono ?_); rintro e w' ⟨rfl, rfl⟩)
        go_ret
        exact ⟨by rw [HE.out]; rfl, HB.out _ hb4⟩
  · have d0 : (r != 0) = true := by simpa using h0
    have d1 : (r == 0) = false := by simpa using h0
    have HE : Hid (ce x y = r) := Lib.hid (by rw [HD.out, if_pos h0])
    clear HD h0 HN HU HX HY
    go_enter Try.func20, Try.ntmps20
    go_wp2_with (fail)
    rw [← HV.out]
    go_wp2_with (go_at_call 26; (with_reducible refine (HC.out _).mono ?_); rintro e w' ⟨rfl, rfl⟩)
    go_ret
    exact ⟨by rw [HE.out]; rfl, HB.out _ (Below.refl _ _)⟩
theorem order_enters : Enters Try.prog 20 := enters_of Try.func20 (by kernel_rfl) rfl
theorem order_tells : Ordr (α := Ent) 20 tE ce := fun W x y => order_any x y W
theorem idle_ent (p : Addr) (w : World) :
    CallsD Try.prog 36 #[.pointer (some p)] .returning w fun e u' w' => e = .returned (.tuple #[]) ∧ u' = .returning ∧ w' = w := by
  refine callsD_of_wpS Try.func36 rfl fun c₀ cs hu => ?_
  apply wpS_seq
  apply wpS_region
  simp [wpOpsS, go_sem, recoverD, hu, Try.ntmps36, Exit.thenS]
  refine wpS_cond (t := false) (by simp [Act.eval, Array.replicate]) ?_
  simp only [Bool.false_eq_true, if_false]
  refine wpS_of_wp (wp_skip ?_)
  cases c₀
  simp_all [bodyPostS, results, Try.results36]

/-- what compare's memory holds: the heap's order, both things, what is told -/
def CmpS (hb b : Nat) (K : Nat) (x y : Ent) (W : World) : Prop :=
  W.cell? ⟨hb, 0, none⟩ = some (.func (.func K) #[] #[]) ∧ W.cell? ⟨b, 0, none⟩ = some (.int .i64 x.1) ∧ W.cell? ⟨b, 1, none⟩ = some (.int .i64 x.2.1) ∧ W.cell? ⟨b, 2, none⟩ = some (.int .u64 x.2.2) ∧ W.cell? ⟨b + 1, 0, none⟩ = some (.int .i64 y.1) ∧ W.cell? ⟨b + 1, 1, none⟩ = some (.int .i64 y.2.1) ∧ W.cell? ⟨b + 1, 2, none⟩ = some (.int .u64 y.2.2) ∧ W.cell? ⟨b + 1 + 1, 0, none⟩ = some (.int .i64 0) ∧ W.frozen? ⟨b + 1 + 1, 0, none⟩ = false
set_option maxRecDepth 100000 in
set_option maxHeartbeats 1600000 in
theorem compare_ent (K hb : Nat) (v : Value) (cf : Ent → Ent → Int) (hK : Enters Try.prog K) (x y : Ent) (w : World) (hs : Blk w hb 59 #[.func (.func K) #[] #[], v]) (hO : Ordr K tE cf) :
    Calls Try.prog 34 #[.pointer (some ⟨hb, 0, none⟩), tE x, tE y] w fun e w' => e = .returned (.int .i64 (cf x y)) ∧ Below w.heap.size w w' := by
  have hmf : ∀ (fn : Fn) (first cap : Array Value) (w : World), (Instr.makeFunc fn first cap).run Try.prog w = .ok (.func fn first cap) w := fun _ _ _ _ => rfl
  obtain ⟨V, hV⟩ : ∃ V, V = ((w.alloc (.cells #[.int .i64 x.1, .int .i64 x.2.1, .int .u64 x.2.2] 44)).alloc (.cells #[.int .i64 y.1, .int .i64 y.2.1, .int .u64 y.2.2] 44)).alloc (.cells #[.int .i64 0] 3) := ⟨_, rfl⟩
  have hbV : Below w.heap.size w V := by rw [hV]; exact (((Below.refl _ _).alloc (Nat.le_refl _) _).alloc (by simp) _).alloc (by simp; omega) _
  have b1 : Blk V w.heap.size 44 #[.int .i64 x.1, .int .i64 x.2.1, .int .u64 x.2.2] := by rw [hV]; exact ((Blk.new w _ _).alloc _).alloc _
  have b2 : Blk V (w.heap.size + 1) 44 #[.int .i64 y.1, .int .i64 y.2.1, .int .u64 y.2.2] := by
    rw [hV]
    have := Blk.new (w.alloc (.cells #[.int .i64 x.1, .int .i64 x.2.1, .int .u64 x.2.2] 44)) 44 #[.int .i64 y.1, .int .i64 y.2.1, .int .u64 y.2.2]
    rw [show (w.alloc (.cells #[.int .i64 x.1, .int .i64 x.2.1, .int .u64 x.2.2] 44)).heap.size = w.heap.size + 1 by simp] at this
    exact this.alloc _
  have b3 : Blk V (w.heap.size + 2) 3 #[.int .i64 0] := by
    rw [hV]
    have := Blk.new ((w.alloc (.cells #[.int .i64 x.1, .int .i64 x.2.1, .int .u64 x.2.2] 44)).alloc (.cells #[.int .i64 y.1, .int .i64 y.2.1, .int .u64 y.2.2] 44)) 3 #[.int .i64 0]
    rwa [show ((w.alloc (.cells #[.int .i64 x.1, .int .i64 x.2.1, .int .u64 x.2.2] 44)).alloc (.cells #[.int .i64 y.1, .int .i64 y.2.1, .int .u64 y.2.2] 44)).heap.size = w.heap.size + 2 by simp] at this
  have hsV := hs.below hbV hs.lt
  have hS : ∀ W, Below V.heap.size V W → CmpS hb w.heap.size K x y W := fun W hW =>
    ⟨(hsV.below hW hsV.lt).cell 0, (b1.below hW b1.lt).cell 0, (b1.below hW b1.lt).cell 1, (b1.below hW b1.lt).cell 2, (b2.below hW b2.lt).cell 0, (b2.below hW b2.lt).cell 1, (b2.below hW b2.lt).cell 2, (b3.below hW b3.lt).cell 0, (b3.below hW b3.lt).frozen 0⟩
  have hC : ∀ W, Below V.heap.size V W → Calls Try.prog K #[tE x, tE y] W fun e w' => e = .returned (.int .i64 (cf x y)) ∧ Below V.heap.size V w' := fun W hW => (hO W x y).mono fun e w' ⟨he, h⟩ => ⟨he, hW.trans (h.mono hW.size)⟩
  have hE : ∀ W r, Below V.heap.size V W → Below w.heap.size w (W.setCell ⟨w.heap.size + 1 + 1, 0, none⟩ r) := fun W r hW => (hbV.trans (hW.mono hbV.size)).setCell (p := ⟨w.heap.size + 1 + 1, 0, none⟩) (by simp only; omega) _
  have hS2 : ∀ (W : World) r, Below V.heap.size V W → (W.setCell ⟨w.heap.size + 1 + 1, 0, none⟩ r).cell? ⟨hb, 0, none⟩ = some (.func (.func K) #[] #[]) ∧ (W.setCell ⟨w.heap.size + 1 + 1, 0, none⟩ r).cell? ⟨w.heap.size, 0, none⟩ = some (.int .i64 x.1) ∧ (W.setCell ⟨w.heap.size + 1 + 1, 0, none⟩ r).cell? ⟨w.heap.size, 1, none⟩ = some (.int .i64 x.2.1) ∧ (W.setCell ⟨w.heap.size + 1 + 1, 0, none⟩ r).cell? ⟨w.heap.size, 2, none⟩ = some (.int .u64 x.2.2) ∧ (W.setCell ⟨w.heap.size + 1 + 1, 0, none⟩ r).cell? ⟨w.heap.size + 1, 0, none⟩ = some (.int .i64 y.1) ∧ (W.setCell ⟨w.heap.size + 1 + 1, 0, none⟩ r).cell? ⟨w.heap.size + 1, 1, none⟩ = some (.int .i64 y.2.1) ∧ (W.setCell ⟨w.heap.size + 1 + 1, 0, none⟩ r).cell? ⟨w.heap.size + 1, 2, none⟩ = some (.int .u64 y.2.2) := fun W r hW =>
    have hl := hs.lt
    ⟨((hsV.below hW hsV.lt).far (p := ⟨w.heap.size + 1 + 1, 0, none⟩) (by simp; omega) _).cell 0, ((b1.below hW b1.lt).far (p := ⟨w.heap.size + 1 + 1, 0, none⟩) (by simp; omega) _).cell 0, ((b1.below hW b1.lt).far (p := ⟨w.heap.size + 1 + 1, 0, none⟩) (by simp; omega) _).cell 1, ((b1.below hW b1.lt).far (p := ⟨w.heap.size + 1 + 1, 0, none⟩) (by simp; omega) _).cell 2, ((b2.below hW b2.lt).far (p := ⟨w.heap.size + 1 + 1, 0, none⟩) (by simp) _).cell 0, ((b2.below hW b2.lt).far (p := ⟨w.heap.size + 1 + 1, 0, none⟩) (by simp) _).cell 1, ((b2.below hW b2.lt).far (p := ⟨w.heap.size + 1 + 1, 0, none⟩) (by simp) _).cell 2⟩
  have hS1 : ∀ W, Below V.heap.size V W → W.cell? ⟨hb, 0, none⟩ = some (.func (.func K) #[] #[]) ∧ W.cell? ⟨w.heap.size, 0, none⟩ = some (.int .i64 x.1) ∧ W.cell? ⟨w.heap.size, 1, none⟩ = some (.int .i64 x.2.1) ∧ W.cell? ⟨w.heap.size, 2, none⟩ = some (.int .u64 x.2.2) ∧ W.cell? ⟨w.heap.size + 1, 0, none⟩ = some (.int .i64 y.1) ∧ W.cell? ⟨w.heap.size + 1, 1, none⟩ = some (.int .i64 y.2.1) ∧ W.cell? ⟨w.heap.size + 1, 2, none⟩ = some (.int .u64 y.2.2) := fun W hW =>
    have h := hS W hW
    ⟨h.1, h.2.1, h.2.2.1, h.2.2.2.1, h.2.2.2.2.1, h.2.2.2.2.2.1, h.2.2.2.2.2.2.1⟩
  have HS1 := Lib.hid hS1
  have HS2 := Lib.hid hS2
  have HC := Lib.hid hC
  have HS := Lib.hid hS
  have HE := Lib.hid hE
  clear hO hs hbV b1 b2 b3 hsV hC hS hE hS1 hS2
  have hK' : ∀ (args : Array Value) (w : World), (callFunc K args).run Try.prog w = .ok (.enter K args) w := hK
  clear hK
  unfold tE at HC ⊢
  generalize cf x y = r at HC ⊢
  go_enter_defers Try.func34, Try.ntmps34
  go_wp2_with (fail)
  rw [← hV]
  clear hV
  obtain ⟨q0, q1, q2, q3, q4, q5, q6, q7, q8⟩ := HS.out V (Below.refl _ _)
  generalize hbz : w.heap.size = b at HS HS1 HS2 HE q0 q1 q2 q3 q4 q5 q6 q7 q8 ⊢
  have HBZ := Lib.hid hbz
  clear hbz
  go_region_held3 (fun W => W.cell? ⟨hb, 0, none⟩ = some (.func (.func K) #[] #[]) ∧ W.cell? ⟨b, 0, none⟩ = some (.int .i64 x.1) ∧ W.cell? ⟨b, 1, none⟩ = some (.int .i64 x.2.1) ∧ W.cell? ⟨b, 2, none⟩ = some (.int .u64 x.2.2) ∧ W.cell? ⟨b + 1, 0, none⟩ = some (.int .i64 y.1) ∧ W.cell? ⟨b + 1, 1, none⟩ = some (.int .i64 y.2.1) ∧ W.cell? ⟨b + 1, 2, none⟩ = some (.int .u64 y.2.2)) ((first | (refine HS2.out _ _ ?_; repeat' (first | (with_reducible exact Below.refl _ _) | (with_reducible assumption) | (with_reducible refine Below.drew ?_) | (with_reducible refine below_drewN' ?_ _))) | (refine HS1.out _ ?_; repeat' (first | (with_reducible exact Below.refl _ _) | (with_reducible assumption) | (with_reducible refine Below.drew ?_) | (with_reducible refine below_drewN' ?_ _)))))
    (first
      | ((with_reducible refine (HC.out _ (by repeat' (first | (with_reducible exact Below.refl _ _) | (with_reducible assumption) | (with_reducible refine Below.drew ?_) | (with_reducible refine below_drewN' ?_ _)))).mono ?_); rintro e w2 ⟨rfl, hb2⟩; have t0 := (HS.out _ hb2).2.2.2.2.2.2.2.1; have tf := (HS.out _ hb2).2.2.2.2.2.2.2.2))
  have HE2 := Lib.hid (HE.out w2 (.int .i64 r) hb2)
  have t1 : (w2.setCell ⟨b + 1 + 1, 0, none⟩ (.int .i64 r)).cell? ⟨b + 1 + 1, 0, none⟩ = some (.int .i64 r) := World.cell?_setCell_same _ _ _ t0
  clear t0 tf q0 q1 q2 q3 q4 q5 q6 q7 q8 HE HS HS1 HS2 HC
  go_wp2_with (fail)
  refine leaves_cons (f := 36) (args := #[.pointer (some ⟨b + 1 + 1, 0, none⟩)]) (by simp) (by simp [go_sem]) ?_
  refine (idle_ent ⟨b + 1 + 1, 0, none⟩ _).mono ?_
  rintro e u' w'' ⟨rfl, rfl, rfl⟩
  simp [Leaves, settle, results, Try.results34, go_sem]
  rw [t1]
  exact ⟨_, rfl, rfl, by rw [HBZ.out]; exact HE2.out⟩
end Go.Proofs.Ytjahgiplaogmlaa.fro
