/-
  Several texts in one.
-/
import Derived.Test.YtpmjpolnoaigoaaGreatGLib
import Derived.Test.YtpmjpolnoaigoaaGreatHeapM
import Derived.Test.YtpmjpolnoaigoaaGreatChecked
import Derived.Lib.Hide
import Derived.BigQuiet
import Derived.WalkMore
import Derived.RegionCalls
import Derived.Deep.RegionWith
import Derived.Deep.RegionHeld3
import Derived.Shelf.Abstract
import Derived.Defers
import Derived.Recover
import Derived.Deep.LoopGhost
import Derived.WalkSpells
import Derived.Deep.RegionLaw
/-
  Entries (how low, which node, which number): cells, order; the contracts of cmp.Compare of ints and of numbers, front.isNode, front.compare; Heap.compare at entries, of any order that tells an int and leaves what there was.
-/
namespace Go.Proofs.YtpmjpolnoaigoaaGreat.fro
open Go.RowKit law bytes only flat heapM Go.Sort Go.Shelf
set_option linter.unusedVariables false

/-- an entry: how low, which node (a thing: below 0), which number -/
abbrev Ent := Int × Int × Int
def ec (x : Ent) : List Value := [.int .i64 x.1, .int .i64 x.2.1, .int .u64 x.2.2]
theorem ec_len (x : Ent) : (ec x).length = 3 := rfl
/-- an entry as a value -/
def tE (x : Ent) : Value := .agg #[.int .i64 x.1, .int .i64 x.2.1, .int .u64 x.2.2]
theorem entE : ElemK Tryz.prog 130 3 24 := elemK_mk (z := .agg #[.int .i64 0, .int .i64 0, .int .u64 0]) (by kernel_rfl) rfl
def lf {α : Type} (cf : α → α → Int) (x y : α) : Bool := decide (cf x y < 0)
/-- an order: a function value that tells cf of values, in whatever world, and leaves what there was -/
def Ordr {α : Type} (K : Nat) (E : α → Value) (cf : α → α → Int) : Prop := ∀ (W : World) (x y : α), Calls Tryz.prog K #[E x, E y] W fun e w' => e = .returned (.int .i64 (cf x y)) ∧ Below W.heap.size W w'

/-! ### which is ahead -/
def cmpI (x y : Int) : Int := if x < y then -1 else if y < x then 1 else 0
/-- is it a node? -/
def nd (x : Ent) : Bool := decide (0 ≤ x.2.1)
/-- what compare tells -/
def ce (x y : Ent) : Int := if cmpI x.1 y.1 ≠ 0 then cmpI x.1 y.1 else if (nd x && nd y) = true then cmpI x.2.1 y.2.1 else if nd x = true then -1 else if nd y = true then 1 else cmpI x.2.2 y.2.2
/-- which is ahead, in one -/
def Ah (x y : Ent) : Prop := x.1 < y.1 ∨ (x.1 = y.1 ∧ ((0 ≤ x.2.1 ∧ 0 ≤ y.2.1 ∧ x.2.1 < y.2.1) ∨ (0 ≤ x.2.1 ∧ y.2.1 < 0) ∨ (x.2.1 < 0 ∧ y.2.1 < 0 ∧ x.2.2 < y.2.2)))
theorem cmpI_neg (x y : Int) : cmpI x y < 0 ↔ x < y := by
  unfold cmpI
  by_cases h : x < y
  · simp [h]
  · by_cases h2 : y < x <;> simp [h, h2]
theorem cmpI_zero (x y : Int) : cmpI x y = 0 ↔ x = y := by
  unfold cmpI
  by_cases h : x < y
  · simp [h]; omega
  · by_cases h2 : y < x
    · simp [h, h2]; omega
    · simp [h, h2]; omega
theorem ce_neg (x y : Ent) : ce x y < 0 ↔ Ah x y := by
  unfold ce Ah nd
  by_cases h0 : cmpI x.1 y.1 = 0
  · have e := (cmpI_zero _ _).1 h0
    rw [if_neg (by simp [h0])]
    by_cases h1 : 0 ≤ x.2.1
    · by_cases h2 : 0 ≤ y.2.1
      · rw [if_pos (by simp [h1, h2]), cmpI_neg]; omega
      · rw [if_neg (by simp [h2]), if_pos (by simp [h1])]; omega
    · by_cases h2 : 0 ≤ y.2.1
      · rw [if_neg (by simp [h1]), if_neg (by simp [h1]), if_pos (by simp [h2])]; omega
      · rw [if_neg (by simp [h1]), if_neg (by simp [h1]), if_neg (by simp [h2]), cmpI_neg]; omega
  · have e : x.1 ≠ y.1 := fun e => h0 ((cmpI_zero _ _).2 e)
    rw [if_pos h0, cmpI_neg]; omega
theorem lt_iff (x y : Ent) : lf ce x y = true ↔ Ah x y := by rw [lf, decide_eq_true_iff, ce_neg]
theorem nlt_iff (x y : Ent) : lf ce x y = false ↔ ¬ Ah x y := by rw [← lt_iff]; simp
theorem swo : SWO (lf ce) where
  irrefl x := by rw [nlt_iff]; unfold Ah; omega
  trans x y z h1 h2 := by rw [lt_iff] at *; unfold Ah at *; omega
  ntrans x y z h1 h2 := by rw [nlt_iff] at *; unfold Ah at *; omega

/-! ### contracts -/
theorem nanI_any (x : Int) (w : World) : Calls Tryz.prog 190 #[.int .i64 x] w fun e w' => e = .returned (.bool false) ∧ w = w' := by
  go_enter Tryz.func190, Tryz.ntmps190
  go_wp2
  go_ret
  exact ⟨ret_bool (by simp), rfl⟩
theorem nanU_any (x : Int) (w : World) : Calls Tryz.prog 178 #[.int .u64 x] w fun e w' => e = .returned (.bool false) ∧ w = w' := by
  go_enter Tryz.func178, Tryz.ntmps178
  go_wp2
  go_ret
  exact ⟨ret_bool (by simp), rfl⟩
theorem cmp64_any (x y : Int) (w : World) : Calls Tryz.prog 162 #[.int .i64 x, .int .i64 y] w fun e w' => e = .returned (.int .i64 (cmpI x y)) ∧ w = w' := by
  have hC : cmpI x y = if x < y then -1 else if x > y then 1 else 0 := rfl
  by_cases h1 : x < y
  · rw [if_pos h1] at hC
    have HC := Lib.hid hC
    have d1 : decide (x < y) = true := decide_eq_true h1
    clear hC h1
    go_enter Tryz.func162, Tryz.ntmps162
    go_wp2_with (go_at_call 190; (with_reducible refine (nanI_any _ _).mono ?_); rintro e w' ⟨rfl, rfl⟩)
    go_ret
    exact ⟨by rw [HC.out]; rfl, rfl⟩
  rw [if_neg h1] at hC
  have d1 : decide (x < y) = false := decide_eq_false h1
  by_cases h2 : y < x
  · rw [if_pos h2] at hC
    have HC := Lib.hid hC
    have d2 : decide (y < x) = true := decide_eq_true h2
    clear hC h1 h2
    go_enter Tryz.func162, Tryz.ntmps162
    go_wp2_with (go_at_call 190; (with_reducible refine (nanI_any _ _).mono ?_); rintro e w' ⟨rfl, rfl⟩)
    go_ret
    exact ⟨by rw [HC.out]; rfl, rfl⟩
  rw [if_neg h2] at hC
  have HC := Lib.hid hC
  have d2 : decide (y < x) = false := decide_eq_false h2
  clear hC h1 h2
  go_enter Tryz.func162, Tryz.ntmps162
  go_wp2_with (go_at_call 190; (with_reducible refine (nanI_any _ _).mono ?_); rintro e w' ⟨rfl, rfl⟩)
  go_ret
  exact ⟨by rw [HC.out]; rfl, rfl⟩
theorem cmpU_any (x y : Int) (w : World) : Calls Tryz.prog 147 #[.int .u64 x, .int .u64 y] w fun e w' => e = .returned (.int .i64 (cmpI x y)) ∧ w = w' := by
  have hC : cmpI x y = if x < y then -1 else if x > y then 1 else 0 := rfl
  by_cases h1 : x < y
  · rw [if_pos h1] at hC
    have HC := Lib.hid hC
    have d1 : decide (x < y) = true := decide_eq_true h1
    clear hC h1
    go_enter Tryz.func147, Tryz.ntmps147
    go_wp2_with (go_at_call 178; (with_reducible refine (nanU_any _ _).mono ?_); rintro e w' ⟨rfl, rfl⟩)
    go_ret
    exact ⟨by rw [HC.out]; rfl, rfl⟩
  rw [if_neg h1] at hC
  have d1 : decide (x < y) = false := decide_eq_false h1
  by_cases h2 : y < x
  · rw [if_pos h2] at hC
    have HC := Lib.hid hC
    have d2 : decide (y < x) = true := decide_eq_true h2
    clear hC h1 h2
    go_enter Tryz.func147, Tryz.ntmps147
    go_wp2_with (go_at_call 178; (with_reducible refine (nanU_any _ _).mono ?_); rintro e w' ⟨rfl, rfl⟩)
    go_ret
    exact ⟨by rw [HC.out]; rfl, rfl⟩
  rw [if_neg h2] at hC
  have HC := Lib.hid hC
  have d2 : decide (y < x) = false := decide_eq_false h2
  clear hC h1 h2
  go_enter Tryz.func147, Tryz.ntmps147
  go_wp2_with (go_at_call 178; (with_reducible refine (nanU_any _ _).mono ?_); rintro e w' ⟨rfl, rfl⟩)
  go_ret
  exact ⟨by rw [HC.out]; rfl, rfl⟩
theorem isNode_any (x : Ent) (w : World) : Calls Tryz.prog 141 #[tE x] w fun e w' => e = .returned (.bool (nd x)) ∧ Below w.heap.size w w' := by
  unfold tE nd
  have hB : Below w.heap.size w (w.alloc (.cells #[.int .i64 x.1, .int .i64 x.2.1, .int .u64 x.2.2] 130)) := (Below.refl _ _).alloc (Nat.le_refl _) _
  have HB := Lib.hid hB
  clear hB
  go_enter Tryz.func141, Tryz.ntmps141
  go_wp2_with (fail)
  go_ret
  exact ⟨rfl, HB.out⟩
set_option maxRecDepth 100000 in
set_option maxHeartbeats 1600000 in
theorem order_any (x y : Ent) (w : World) : Calls Tryz.prog 118 #[tE x, tE y] w fun e w' => e = .returned (.int .i64 (ce x y)) ∧ Below w.heap.size w w' := by
  have HD : Hid (ce x y = if cmpI x.1 y.1 ≠ 0 then cmpI x.1 y.1 else if (nd x && nd y) = true then cmpI x.2.1 y.2.1 else if nd x = true then -1 else if nd y = true then 1 else cmpI x.2.2 y.2.2) := Lib.hid rfl
  have HC : Hid (∀ W, Calls Tryz.prog 162 #[.int .i64 x.1, .int .i64 y.1] W fun e w' => e = .returned (.int .i64 (cmpI x.1 y.1)) ∧ W = w') := Lib.hid fun W => cmp64_any _ _ W
  have HN : Hid (∀ W, Calls Tryz.prog 162 #[.int .i64 x.2.1, .int .i64 y.2.1] W fun e w' => e = .returned (.int .i64 (cmpI x.2.1 y.2.1)) ∧ W = w') := Lib.hid fun W => cmp64_any _ _ W
  have HU : Hid (∀ W, Calls Tryz.prog 147 #[.int .u64 x.2.2, .int .u64 y.2.2] W fun e w' => e = .returned (.int .i64 (cmpI x.2.2 y.2.2)) ∧ W = w') := Lib.hid fun W => cmpU_any _ _ W
  obtain ⟨V, hV⟩ : ∃ V, V = (w.alloc (.cells #[.int .i64 x.1, .int .i64 x.2.1, .int .u64 x.2.2] 130)).alloc (.cells #[.int .i64 y.1, .int .i64 y.2.1, .int .u64 y.2.2] 130) := ⟨_, rfl⟩
  have hb : Below w.heap.size w V := by rw [hV]; exact ((Below.refl _ _).alloc (Nat.le_refl _) _).alloc (by simp) _
  have b1 : Blk V w.heap.size 130 #[.int .i64 x.1, .int .i64 x.2.1, .int .u64 x.2.2] := by rw [hV]; exact (Blk.new w _ _).alloc _
  have b2 : Blk V (w.heap.size + 1) 130 #[.int .i64 y.1, .int .i64 y.2.1, .int .u64 y.2.2] := by
    rw [hV]
    have := Blk.new (w.alloc (.cells #[.int .i64 x.1, .int .i64 x.2.1, .int .u64 x.2.2] 130)) 130 #[.int .i64 y.1, .int .i64 y.2.1, .int .u64 y.2.2]
    rwa [show (w.alloc (.cells #[.int .i64 x.1, .int .i64 x.2.1, .int .u64 x.2.2] 130)).heap.size = w.heap.size + 1 by simp] at this
  have HS : Hid (∀ W, Below V.heap.size V W → W.cell? ⟨w.heap.size, 0, none⟩ = some (.int .i64 x.1) ∧ W.cell? ⟨w.heap.size, 1, none⟩ = some (.int .i64 x.2.1) ∧ W.cell? ⟨w.heap.size, 2, none⟩ = some (.int .u64 x.2.2) ∧ W.cell? ⟨w.heap.size + 1, 0, none⟩ = some (.int .i64 y.1) ∧ W.cell? ⟨w.heap.size + 1, 1, none⟩ = some (.int .i64 y.2.1) ∧ W.cell? ⟨w.heap.size + 1, 2, none⟩ = some (.int .u64 y.2.2)) := Lib.hid fun W hW =>
    ⟨(b1.below hW b1.lt).cell 0, (b1.below hW b1.lt).cell 1, (b1.below hW b1.lt).cell 2, (b2.below hW b2.lt).cell 0, (b2.below hW b2.lt).cell 1, (b2.below hW b2.lt).cell 2⟩
  have HX : Hid (∀ W, Below V.heap.size V W → Calls Tryz.prog 141 #[tE x] W fun e w' => e = .returned (.bool (nd x)) ∧ Below V.heap.size V w') := Lib.hid fun W hW => (isNode_any x W).mono fun e w' ⟨he, h⟩ => ⟨he, hW.trans (h.mono hW.size)⟩
  have HY : Hid (∀ W, Below V.heap.size V W → Calls Tryz.prog 141 #[tE y] W fun e w' => e = .returned (.bool (nd y)) ∧ Below V.heap.size V w') := Lib.hid fun W hW => (isNode_any y W).mono fun e w' ⟨he, h⟩ => ⟨he, hW.trans (h.mono hW.size)⟩
  have HB : Hid (∀ W, Below V.heap.size V W → Below w.heap.size w W) := Lib.hid fun W hW => hb.trans (hW.mono hb.size)
  have HV := Lib.hid hV
  obtain ⟨q0, q1, q2, q3, q4, q5⟩ := HS.out V (Below.refl _ _)
  clear hV hb b1 b2
  unfold tE at HX HY ⊢
  generalize cmpI x.1 y.1 = r at HD HC
  generalize cmpI x.2.1 y.2.1 = s at HD HN
  generalize cmpI x.2.2 y.2.2 = t at HD HU
  by_cases h0 : r = 0
  · have d0 : (r != 0) = false := by simp [h0]
    have d1 : ¬ (r ≠ 0) := by simp [h0]
    subst h0
    cases hx : nd x with
    | true =>
      rw [hx] at HX
      cases hy : nd y with
      | true =>
        rw [hy] at HY
        have HE : Hid (ce x y = s) := Lib.hid (by rw [HD.out]; simp [hx, hy])
        clear HD d1 hx hy HU
        go_enter Tryz.func118, Tryz.ntmps118
        go_wp2_with (fail)
        rw [← HV.out]
        go_wp2_with (go_at_call 162; (first | (with_reducible refine (HC.out _).mono ?_) | (with_reducible refine (HN.out _).mono ?_)); rintro e w' ⟨rfl, rfl⟩)
        refine (HX.out _ (Below.refl _ _)).mono ?_
        rintro e w2 ⟨rfl, hb2⟩
        obtain ⟨p0, p1, p2, p3, p4, p5⟩ := HS.out w2 hb2
        go_wp2_with (fail)
        refine (HY.out _ hb2).mono ?_
        rintro e w3 ⟨rfl, hb3⟩
        obtain ⟨r0, r1, r2, r3, r4, r5⟩ := HS.out w3 hb3
        clear hb2 p0 p1 p2 p3 p4 p5
        go_wp2_with (go_at_call 162; (first | (with_reducible refine (HN.out _).mono ?_)); rintro e w' ⟨rfl, rfl⟩)
        go_ret
        exact ⟨by rw [HE.out]; rfl, HB.out _ hb3⟩
      | false =>
        rw [hy] at HY
        have HE : Hid (ce x y = -1) := Lib.hid (by rw [HD.out]; simp [hx, hy])
        clear HD d1 hx hy HU HN
        go_enter Tryz.func118, Tryz.ntmps118
        go_wp2_with (fail)
        rw [← HV.out]
        go_wp2_with (go_at_call 162; (with_reducible refine (HC.out _).mono ?_); rintro e w' ⟨rfl, rfl⟩)
        refine (HX.out _ (Below.refl _ _)).mono ?_
        rintro e w2 ⟨rfl, hb2⟩
        obtain ⟨p0, p1, p2, p3, p4, p5⟩ := HS.out w2 hb2
        go_wp2_with (fail)
        refine (HY.out _ hb2).mono ?_
        rintro e w3 ⟨rfl, hb3⟩
        obtain ⟨r0, r1, r2, r3, r4, r5⟩ := HS.out w3 hb3
        clear hb2 p0 p1 p2 p3 p4 p5
        go_wp2_with (fail)
        refine (HX.out _ hb3).mono ?_
        rintro e w4 ⟨rfl, hb4⟩
        go_wp2_with (fail)
        go_ret
        exact ⟨by rw [HE.out]; rfl, HB.out _ hb4⟩
    | false =>
      rw [hx] at HX
      cases hy : nd y with
      | true =>
        rw [hy] at HY
        have HE : Hid (ce x y = 1) := Lib.hid (by rw [HD.out]; simp [hx, hy])
        clear HD d1 hx hy HU HN
        go_enter Tryz.func118, Tryz.ntmps118
        go_wp2_with (fail)
        rw [← HV.out]
        go_wp2_with (go_at_call 162; (with_reducible refine (HC.out _).mono ?_); rintro e w' ⟨rfl, rfl⟩)
        refine (HX.out _ (Below.refl _ _)).mono ?_
        rintro e w2 ⟨rfl, hb2⟩
        obtain ⟨p0, p1, p2, p3, p4, p5⟩ := HS.out w2 hb2
        go_wp2_with (fail)
        refine (HX.out _ hb2).mono ?_
        rintro e w3 ⟨rfl, hb3⟩
        obtain ⟨r0, r1, r2, r3, r4, r5⟩ := HS.out w3 hb3
        clear hb2 p0 p1 p2 p3 p4 p5
        go_wp2_with (fail)
        refine (HY.out _ hb3).mono ?_
        rintro e w4 ⟨rfl, hb4⟩
        go_wp2_with (fail)
        go_ret
        exact ⟨by rw [HE.out]; rfl, HB.out _ hb4⟩
      | false =>
        rw [hy] at HY
        have HE : Hid (ce x y = t) := Lib.hid (by rw [HD.out]; simp [hx, hy])
        clear HD d1 hx hy HN
        go_enter Tryz.func118, Tryz.ntmps118
        go_wp2_with (fail)
        rw [← HV.out]
        go_wp2_with (go_at_call 162; (with_reducible refine (HC.out _).mono ?_); rintro e w' ⟨rfl, rfl⟩)
        refine (HX.out _ (Below.refl _ _)).mono ?_
        rintro e w2 ⟨rfl, hb2⟩
        obtain ⟨p0, p1, p2, p3, p4, p5⟩ := HS.out w2 hb2
        go_wp2_with (fail)
        refine (HX.out _ hb2).mono ?_
        rintro e w3 ⟨rfl, hb3⟩
        obtain ⟨r0, r1, r2, r3, r4, r5⟩ := HS.out w3 hb3
        clear hb2 p0 p1 p2 p3 p4 p5
        go_wp2_with (fail)
        refine (HY.out _ hb3).mono ?_
        rintro e w4 ⟨rfl, hb4⟩
        obtain ⟨p0, p1, p2, p3, p4, p5⟩ := HS.out w4 hb4
        clear hb3 r0 r1 r2 r3 r4 r5
        go_wp2_with (go_at_call 147; (with_reducible refine (HU.out _).mono ?_); rintro e w' ⟨rfl, rfl⟩)
        go_ret
        exact ⟨by rw [HE.out]; rfl, HB.out _ hb4⟩
  · have d0 : (r != 0) = true := by simpa using h0
    have d1 : (r == 0) = false := by simpa using h0
    have HE : Hid (ce x y = r) := Lib.hid (by rw [HD.out, if_pos h0])
    clear HD h0 HN HU HX HY
    go_enter Tryz.func118, Tryz.ntmps118
    go_wp2_with (fail)
    rw [← HV.out]
    go_wp2_with (go_at_call 162; (with_reducible refine (HC.out _).mono ?_); rintro e w' ⟨rfl, rfl⟩)
    go_ret
    exact ⟨by rw [HE.out]; rfl, HB.out _ (Below.refl _ _)⟩
theorem order_enters : Enters Tryz.prog 118 := enters_of Tryz.func118 (by kernel_rfl) rfl
theorem order_tells : Ordr (α := Ent) 118 tE ce := fun W x y => order_any x y W
theorem idle_ent (p : Addr) (w : World) :
    CallsD Tryz.prog 220 #[.pointer (some p)] .returning w fun e u' w' => e = .returned (.tuple #[]) ∧ u' = .returning ∧ w' = w := by
  refine callsD_of_wpS Tryz.func220 rfl fun c₀ cs hu => ?_
  apply wpS_seq
  apply wpS_region
  simp [wpOpsS, go_sem, recoverD, hu, Tryz.ntmps220, Exit.thenS]
  refine wpS_cond (t := false) (by simp [Act.eval, Array.replicate]) ?_
  simp only [Bool.false_eq_true, if_false]
  refine wpS_of_wp (wp_skip ?_)
  cases c₀
  simp_all [bodyPostS, results, Tryz.results220]

/-- what compare's memory holds: the heap's order, both things, what is told -/
def CmpS (hb b : Nat) (K : Nat) (x y : Ent) (W : World) : Prop :=
  W.cell? ⟨hb, 0, none⟩ = some (.func (.func K) #[] #[]) ∧ W.cell? ⟨b, 0, none⟩ = some (.int .i64 x.1) ∧ W.cell? ⟨b, 1, none⟩ = some (.int .i64 x.2.1) ∧ W.cell? ⟨b, 2, none⟩ = some (.int .u64 x.2.2) ∧ W.cell? ⟨b + 1, 0, none⟩ = some (.int .i64 y.1) ∧ W.cell? ⟨b + 1, 1, none⟩ = some (.int .i64 y.2.1) ∧ W.cell? ⟨b + 1, 2, none⟩ = some (.int .u64 y.2.2) ∧ W.cell? ⟨b + 1 + 1, 0, none⟩ = some (.int .i64 0) ∧ W.frozen? ⟨b + 1 + 1, 0, none⟩ = false
set_option maxRecDepth 100000 in
set_option maxHeartbeats 1600000 in
theorem compare_ent (K hb : Nat) (v : Value) (cf : Ent → Ent → Int) (hK : Enters Tryz.prog K) (x y : Ent) (w : World) (hs : Blk w hb 220 #[.func (.func K) #[] #[], v]) (hO : Ordr K tE cf) :
    Calls Tryz.prog 191 #[.pointer (some ⟨hb, 0, none⟩), tE x, tE y] w fun e w' => e = .returned (.int .i64 (cf x y)) ∧ Below w.heap.size w w' := by
  have hmf : ∀ (fn : Fn) (first cap : Array Value) (w : World), (Instr.makeFunc fn first cap).run Tryz.prog w = .ok (.func fn first cap) w := fun _ _ _ _ => rfl
  obtain ⟨V, hV⟩ : ∃ V, V = ((w.alloc (.cells #[.int .i64 x.1, .int .i64 x.2.1, .int .u64 x.2.2] 130)).alloc (.cells #[.int .i64 y.1, .int .i64 y.2.1, .int .u64 y.2.2] 130)).alloc (.cells #[.int .i64 0] 3) := ⟨_, rfl⟩
  have hbV : Below w.heap.size w V := by rw [hV]; exact (((Below.refl _ _).alloc (Nat.le_refl _) _).alloc (by simp) _).alloc (by simp; omega) _
  have b1 : Blk V w.heap.size 130 #[.int .i64 x.1, .int .i64 x.2.1, .int .u64 x.2.2] := by rw [hV]; exact ((Blk.new w _ _).alloc _).alloc _
  have b2 : Blk V (w.heap.size + 1) 130 #[.int .i64 y.1, .int .i64 y.2.1, .int .u64 y.2.2] := by
    rw [hV]
    have := Blk.new (w.alloc (.cells #[.int .i64 x.1, .int .i64 x.2.1, .int .u64 x.2.2] 130)) 130 #[.int .i64 y.1, .int .i64 y.2.1, .int .u64 y.2.2]
    rw [show (w.alloc (.cells #[.int .i64 x.1, .int .i64 x.2.1, .int .u64 x.2.2] 130)).heap.size = w.heap.size + 1 by simp] at this
    exact this.alloc _
  have b3 : Blk V (w.heap.size + 2) 3 #[.int .i64 0] := by
    rw [hV]
    have := Blk.new ((w.alloc (.cells #[.int .i64 x.1, .int .i64 x.2.1, .int .u64 x.2.2] 130)).alloc (.cells #[.int .i64 y.1, .int .i64 y.2.1, .int .u64 y.2.2] 130)) 3 #[.int .i64 0]
    rwa [show ((w.alloc (.cells #[.int .i64 x.1, .int .i64 x.2.1, .int .u64 x.2.2] 130)).alloc (.cells #[.int .i64 y.1, .int .i64 y.2.1, .int .u64 y.2.2] 130)).heap.size = w.heap.size + 2 by simp] at this
  have hsV := hs.below hbV hs.lt
  have hS : ∀ W, Below V.heap.size V W → CmpS hb w.heap.size K x y W := fun W hW =>
    ⟨(hsV.below hW hsV.lt).cell 0, (b1.below hW b1.lt).cell 0, (b1.below hW b1.lt).cell 1, (b1.below hW b1.lt).cell 2, (b2.below hW b2.lt).cell 0, (b2.below hW b2.lt).cell 1, (b2.below hW b2.lt).cell 2, (b3.below hW b3.lt).cell 0, (b3.below hW b3.lt).frozen 0⟩
  have hC : ∀ W, Below V.heap.size V W → Calls Tryz.prog K #[tE x, tE y] W fun e w' => e = .returned (.int .i64 (cf x y)) ∧ Below V.heap.size V w' := fun W hW => (hO W x y).mono fun e w' ⟨he, h⟩ => ⟨he, hW.trans (h.mono hW.size)⟩
  have hE : ∀ W r, Below V.heap.size V W → Below w.heap.size w (W.setCell ⟨w.heap.size + 1 + 1, 0, none⟩ r) := fun W r hW => (hbV.trans (hW.mono hbV.size)).setCell (p := ⟨w.heap.size + 1 + 1, 0, none⟩) (by simp only; omega) _
  have hS2 : ∀ (W : World) r, Below V.heap.size V W → (W.setCell ⟨w.heap.size + 1 + 1, 0, none⟩ r).cell? ⟨hb, 0, none⟩ = some (.func (.func K) #[] #[]) ∧ (W.setCell ⟨w.heap.size + 1 + 1, 0, none⟩ r).cell? ⟨w.heap.size, 0, none⟩ = some (.int .i64 x.1) ∧ (W.setCell ⟨w.heap.size + 1 + 1, 0, none⟩ r).cell? ⟨w.heap.size, 1, none⟩ = some (.int .i64 x.2.1) ∧ (W.setCell ⟨w.heap.size + 1 + 1, 0, none⟩ r).cell? ⟨w.heap.size, 2, none⟩ = some (.int .u64 x.2.2) ∧ (W.setCell ⟨w.heap.size + 1 + 1, 0, none⟩ r).cell? ⟨w.heap.size + 1, 0, none⟩ = some (.int .i64 y.1) ∧ (W.setCell ⟨w.heap.size + 1 + 1, 0, none⟩ r).cell? ⟨w.heap.size + 1, 1, none⟩ = some (.int .i64 y.2.1) ∧ (W.setCell ⟨w.heap.size + 1 + 1, 0, none⟩ r).cell? ⟨w.heap.size + 1, 2, none⟩ = some (.int .u64 y.2.2) := fun W r hW =>
    have hl := hs.lt
    ⟨((hsV.below hW hsV.lt).far (p := ⟨w.heap.size + 1 + 1, 0, none⟩) (by simp; omega) _).cell 0, ((b1.below hW b1.lt).far (p := ⟨w.heap.size + 1 + 1, 0, none⟩) (by simp; omega) _).cell 0, ((b1.below hW b1.lt).far (p := ⟨w.heap.size + 1 + 1, 0, none⟩) (by simp; omega) _).cell 1, ((b1.below hW b1.lt).far (p := ⟨w.heap.size + 1 + 1, 0, none⟩) (by simp; omega) _).cell 2, ((b2.below hW b2.lt).far (p := ⟨w.heap.size + 1 + 1, 0, none⟩) (by simp) _).cell 0, ((b2.below hW b2.lt).far (p := ⟨w.heap.size + 1 + 1, 0, none⟩) (by simp) _).cell 1, ((b2.below hW b2.lt).far (p := ⟨w.heap.size + 1 + 1, 0, none⟩) (by simp) _).cell 2⟩
  have hS1 : ∀ W, Below V.heap.size V W → W.cell? ⟨hb, 0, none⟩ = some (.func (.func K) #[] #[]) ∧ W.cell? ⟨w.heap.size, 0, none⟩ = some (.int .i64 x.1) ∧ W.cell? ⟨w.heap.size, 1, none⟩ = some (.int .i64 x.2.1) ∧ W.cell? ⟨w.heap.size, 2, none⟩ = some (.int .u64 x.2.2) ∧ W.cell? ⟨w.heap.size + 1, 0, none⟩ = some (.int .i64 y.1) ∧ W.cell? ⟨w.heap.size + 1, 1, none⟩ = some (.int .i64 y.2.1) ∧ W.cell? ⟨w.heap.size + 1, 2, none⟩ = some (.int .u64 y.2.2) := fun W hW =>
    have h := hS W hW
    ⟨h.1, h.2.1, h.2.2.1, h.2.2.2.1, h.2.2.2.2.1, h.2.2.2.2.2.1, h.2.2.2.2.2.2.1⟩
  have HS1 := Lib.hid hS1
  have HS2 := Lib.hid hS2
  have HC := Lib.hid hC
  have HS := Lib.hid hS
  have HE := Lib.hid hE
  clear hO hs hbV b1 b2 b3 hsV hC hS hE hS1 hS2
  have hK' : ∀ (args : Array Value) (w : World), (callFunc K args).run Tryz.prog w = .ok (.enter K args) w := hK
  clear hK
  unfold tE at HC ⊢
  generalize cf x y = r at HC ⊢
  go_enter_defers Tryz.func191, Tryz.ntmps191
  go_wp2_with (fail)
  rw [← hV]
  clear hV
  obtain ⟨q0, q1, q2, q3, q4, q5, q6, q7, q8⟩ := HS.out V (Below.refl _ _)
  generalize hbz : w.heap.size = b at HS HS1 HS2 HE q0 q1 q2 q3 q4 q5 q6 q7 q8 ⊢
  have HBZ := Lib.hid hbz
  clear hbz
  go_region_held3 (fun W => W.cell? ⟨hb, 0, none⟩ = some (.func (.func K) #[] #[]) ∧ W.cell? ⟨b, 0, none⟩ = some (.int .i64 x.1) ∧ W.cell? ⟨b, 1, none⟩ = some (.int .i64 x.2.1) ∧ W.cell? ⟨b, 2, none⟩ = some (.int .u64 x.2.2) ∧ W.cell? ⟨b + 1, 0, none⟩ = some (.int .i64 y.1) ∧ W.cell? ⟨b + 1, 1, none⟩ = some (.int .i64 y.2.1) ∧ W.cell? ⟨b + 1, 2, none⟩ = some (.int .u64 y.2.2)) ((first | (refine HS2.out _ _ ?_; repeat' (first | (with_reducible exact Below.refl _ _) | (with_reducible assumption) | (with_reducible refine Below.drew ?_) | (with_reducible refine below_drewN' ?_ _))) | (refine HS1.out _ ?_; repeat' (first | (with_reducible exact Below.refl _ _) | (with_reducible assumption) | (with_reducible refine Below.drew ?_) | (with_reducible refine below_drewN' ?_ _)))))
    (first
      | ((with_reducible refine (HC.out _ (by repeat' (first | (with_reducible exact Below.refl _ _) | (with_reducible assumption) | (with_reducible refine Below.drew ?_) | (with_reducible refine below_drewN' ?_ _)))).mono ?_); rintro e w2 ⟨rfl, hb2⟩; have t0 := (HS.out _ hb2).2.2.2.2.2.2.2.1; have tf := (HS.out _ hb2).2.2.2.2.2.2.2.2))
  have HE2 := Lib.hid (HE.out w2 (.int .i64 r) hb2)
  have t1 : (w2.setCell ⟨b + 1 + 1, 0, none⟩ (.int .i64 r)).cell? ⟨b + 1 + 1, 0, none⟩ = some (.int .i64 r) := World.cell?_setCell_same _ _ _ t0
  clear t0 tf q0 q1 q2 q3 q4 q5 q6 q7 q8 HE HS HS1 HS2 HC
  go_wp2_with (fail)
  refine leaves_cons (f := 220) (args := #[.pointer (some ⟨b + 1 + 1, 0, none⟩)]) (by simp) (by simp [go_sem]) ?_
  refine (idle_ent ⟨b + 1 + 1, 0, none⟩ _).mono ?_
  rintro e u' w'' ⟨rfl, rfl, rfl⟩
  simp [Leaves, settle, results, Tryz.results191, go_sem]
  rw [t1]
  exact ⟨_, rfl, rfl, by rw [HBZ.out]; exact HE2.out⟩
end Go.Proofs.YtpmjpolnoaigoaaGreat.fro
/-
  A row of entries; the contract of Heap.rise at entries.
-/
namespace Go.Proofs.YtpmjpolnoaigoaaGreat.fro
open Go.RowKit law bytes only flat heapM Go.Sort Go.Shelf
set_option linter.unusedVariables false

/-- a row of entries of the call's own -/
def ERow (w : World) (base g c : Nat) (d : Array Ent) : Prop := FRow ec 3 130 w base g c d
section
variable {w w' : World} {base g c : Nat} {d : Array Ent}
theorem ERow.lt (h : ERow w base g c d) : g < w.heap.size := FRow.lt h
theorem ERow.c1 (h : ERow w base g c d) (i : Nat) (hi : i < d.size) : w.cell? ⟨g, i * 3, none⟩ = some (.int .i64 d[i]!.1) := FRow.cell h ec_len i 0 hi (by decide)
theorem ERow.c2 (h : ERow w base g c d) (i : Nat) (hi : i < d.size) : w.cell? ⟨g, i * 3 + 1, none⟩ = some (.int .i64 d[i]!.2.1) := FRow.cell h ec_len i 1 hi (by decide)
theorem ERow.c3 (h : ERow w base g c d) (i : Nat) (hi : i < d.size) : w.cell? ⟨g, i * 3 + 2, none⟩ = some (.int .u64 d[i]!.2.2) := FRow.cell h ec_len i 2 hi (by decide)
theorem ERow.frozen (h : ERow w base g c d) (i : Nat) : w.frozen? ⟨g, i, none⟩ = false := FRow.frozen h i
theorem ERow.only {S : Nat → Prop} (h : ERow w base g c d) (k : Only S w w') (hg : ¬ S g) : ERow w' base g c d := FRow.only h k hg
theorem ERow.below {B : Nat} (h : ERow w base g c d) (k : Below B w w') (hB : w.heap.size ≤ B) : ERow w' base g c d := FRow.below h k hB
theorem ERow.drew_ (h : ERow w base g c d) : ERow w.drew base g c d := h
theorem ERow.set (h : ERow w base g c d) (i : Nat) (x : Ent) (hi : i < d.size) : ERow (((w.setCell ⟨g, i * 3, none⟩ (.int .i64 x.1)).setCell ⟨g, i * 3 + 1, none⟩ (.int .i64 x.2.1)).setCell ⟨g, i * 3 + 2, none⟩ (.int .u64 x.2.2)) base g c (d.setIfInBounds i x) := FRow.set_ h ec_len i x hi
theorem ERow.swap (h : ERow w base g c d) (i j : Nat) (hi : i < d.size) (hj : j < d.size) : ERow ((((((w.setCell ⟨g, i * 3, none⟩ (.int .i64 d[j]!.1)).setCell ⟨g, i * 3 + 1, none⟩ (.int .i64 d[j]!.2.1)).setCell ⟨g, i * 3 + 2, none⟩ (.int .u64 d[j]!.2.2)).setCell ⟨g, j * 3, none⟩ (.int .i64 d[i]!.1)).setCell ⟨g, j * 3 + 1, none⟩ (.int .i64 d[i]!.2.1)).setCell ⟨g, j * 3 + 2, none⟩ (.int .u64 d[i]!.2.2)) base g c (swp d i j) := by
  unfold swp
  exact (h.set i d[j]! hi).set j d[i]! (by simpa using hj)
end
set_option maxRecDepth 100000 in
set_option maxHeartbeats 1600000 in
theorem rise_ent (K hb : Nat) (v : Value) (cf : Ent → Ent → Int) (hK : Enters Tryz.prog K) (hO : Ordr K tE cf) (hS : SWO (lf cf)) (base g c : Nat) (d : Array Ent) (w : World)
    (hs : Blk w hb 220 #[.func (.func K) #[] #[], v]) (hr : ERow w base g c d) (hne : hb ≠ g) (h0 : 0 < d.size) (hU : Up (lf cf) d (d.size - 1)) (hsz : d.size < 4611686018427387904) :
    Calls Tryz.prog 163 #[.pointer (some ⟨hb, 0, none⟩), .slice (some ⟨g, 0, none⟩) d.size c] w fun e w' =>
      e = .returned (.tuple #[]) ∧ Only (· = g) w w' ∧ ∃ d', d'.size = d.size ∧ d'.toList.Perm d.toList ∧ Heap (lf cf) d' ∧ ERow w' base g c d' := by
  have HC : Hid (∀ (W : World) (x y : Ent), Only (· = g) w W → Calls Tryz.prog 191 #[.pointer (some ⟨hb, 0, none⟩), tE x, tE y] W fun e w' => e = .returned (.int .i64 (cf x y)) ∧ Below W.heap.size W w') :=
    Lib.hid fun W x y hW => compare_ent K hb v cf hK x y W (Blk.only hs hW hne) hO
  clear hK hO hs
  have i0 : IntKind.i64.wrap ((d.size : Int) - 1) = (d.size : Int) - 1 := by rw [IntKind.wrap_i64]; omega
  go_enter Tryz.func163, Tryz.ntmps163
  go_wp2_with (fail)
  go_loopg [4, 5] (d.size - 1) (fun gk s4 s5 wr => ∃ (a : Nat) (d' : Array Ent), a = gk ∧ s4 = .int .i64 a ∧ a < d.size ∧ d'.size = d.size ∧ Up (lf cf) d' a ∧ d'.toList.Perm d.toList ∧ ERow wr base g c d' ∧ Only (· = g) w wr)
  case atStart => exact ⟨d.size - 1, d, rfl, by go_num, by omega, rfl, hU, List.Perm.refl _, hr, Only.refl _ _⟩
  case round =>
    obtain ⟨a, d', rfl, rfl, ha, hds, hU', hp, hr', ho⟩ := hrel
    by_cases h0 : a = 0
    · subst h0
      go_wp2_with (fail)
      go_end0
      exact ⟨rfl, ho, d', hds, hp, hU'.stop (.inl rfl), hr'⟩
    · obtain ⟨p, hpp⟩ : ∃ p, p = (a - 1) / 2 := ⟨_, rfl⟩
      have i1 : (0 : Int) < (a : Int) := by omega
      have i2 : IntKind.i64.wrap ((a : Int) - 1) = ((a - 1 : Nat) : Int) := by rw [IntKind.wrap_i64]; omega
      have i3 : ((a - 1 : Nat) : Int) / 2 = (p : Int) := by rw [hpp]; omega
      have i4 : (a : Int) < (d.size : Int) := by omega
      have i5 : (p : Int) < (d.size : Int) := by omega
      have HS : Hid (∀ W, Below wr.heap.size wr W → W.cell? ⟨g, a * 3, none⟩ = some (.int .i64 d'[a]!.1) ∧ W.cell? ⟨g, a * 3 + 1, none⟩ = some (.int .i64 d'[a]!.2.1) ∧ W.cell? ⟨g, a * 3 + 2, none⟩ = some (.int .u64 d'[a]!.2.2) ∧ W.cell? ⟨g, p * 3, none⟩ = some (.int .i64 d'[p]!.1) ∧ W.cell? ⟨g, p * 3 + 1, none⟩ = some (.int .i64 d'[p]!.2.1) ∧ W.cell? ⟨g, p * 3 + 2, none⟩ = some (.int .u64 d'[p]!.2.2)) := Lib.hid fun W hW =>
        ⟨(hr'.below hW (Nat.le_refl _)).c1 a (by omega), (hr'.below hW (Nat.le_refl _)).c2 a (by omega), (hr'.below hW (Nat.le_refl _)).c3 a (by omega), (hr'.below hW (Nat.le_refl _)).c1 p (by omega), (hr'.below hW (Nat.le_refl _)).c2 p (by omega), (hr'.below hW (Nat.le_refl _)).c3 p (by omega)⟩
      have HC2 : Hid (∀ W, Below wr.heap.size wr W → Calls Tryz.prog 191 #[.pointer (some ⟨hb, 0, none⟩), tE d'[a]!, tE d'[p]!] W fun e w' => e = .returned (.int .i64 (cf d'[a]! d'[p]!)) ∧ Below wr.heap.size wr w') :=
        Lib.hid fun W hW => (HC.out W _ _ (ho.on hW)).mono fun e w' ⟨he, hb'⟩ => ⟨he, hW.trans (hb'.mono hW.size)⟩
      have HR := Lib.hid hr'
      have HO := Lib.hid ho
      have HU2 := Lib.hid hU'
      have HP := Lib.hid hp
      have hl : lf cf d'[a]! d'[p]! = decide (cf d'[a]! d'[p]! < 0) := rfl
      clear hr' ho hU' hU hr hp
      obtain ⟨q0, q1, q2, q3, q4, q5⟩ := HS.out wr (Below.refl _ _)
      generalize hx : d'[a]! = x at hl q0 q1 q2 q3 q4 q5 HS HC2
      generalize hy : d'[p]! = y at hl q0 q1 q2 q3 q4 q5 HS HC2
      generalize cf x y = r at hl HC2
      unfold tE at HC2
      have HX := Lib.hid hx
      have HY := Lib.hid hy
      have HL := Lib.hid hl
      have HPP := Lib.hid hpp
      clear hx hy hl hpp
      by_cases hrr : r < 0
      · have hrd : decide (0 ≤ r) = false := decide_eq_false (by omega)
        go_wp2_with (fail)
        go_region_held3 (fun W => W.cell? ⟨g, a * 3, none⟩ = some (.int .i64 x.1) ∧ W.cell? ⟨g, a * 3 + 1, none⟩ = some (.int .i64 x.2.1) ∧ W.cell? ⟨g, a * 3 + 2, none⟩ = some (.int .u64 x.2.2) ∧ W.cell? ⟨g, p * 3, none⟩ = some (.int .i64 y.1) ∧ W.cell? ⟨g, p * 3 + 1, none⟩ = some (.int .i64 y.2.1) ∧ W.cell? ⟨g, p * 3 + 2, none⟩ = some (.int .u64 y.2.2)) ((refine HS.out _ ?_; repeat' (first | (with_reducible exact Below.refl _ _) | (with_reducible assumption) | (with_reducible refine Below.drew ?_) | (with_reducible refine below_drewN' ?_ _))))
          (first
            | (go_at_call 191; (with_reducible refine (HC2.out _ (by repeat' (first | (with_reducible exact Below.refl _ _) | (with_reducible assumption) | (with_reducible refine Below.drew ?_) | (with_reducible refine below_drewN' ?_ _)))).mono ?_); rintro e w2 ⟨rfl, hb2⟩))
        have HR2 := Lib.hid (HR.out.below hb2 (Nat.le_refl _))
        have HO2 := Lib.hid (HO.out.on hb2)
        obtain ⟨q0, q1, q2, q3, q4, q5⟩ := HS.out w2 hb2
        have f0 := HR2.out.frozen (a * 3)
        have f1 := HR2.out.frozen (a * 3 + 1)
        have f2 := HR2.out.frozen (a * 3 + 2)
        have f3 := HR2.out.frozen (p * 3)
        have f4 := HR2.out.frozen (p * 3 + 1)
        have f5 := HR2.out.frozen (p * 3 + 2)
        clear hb2 HC2 HS HR
        go_wp2_with (fail)
        go_region
        have hx := HX.out
        have hy := HY.out
        have hl := HL.out
        have hpp := HPP.out
        have hl2 : lf cf x y = true := by rw [hl]; exact decide_eq_true hrr
        subst hx hy hpp
        have HRS := Lib.hid (HR2.out.swap a ((a - 1) / 2) (by omega) (by omega)).drew_
        have HOS : Hid (Only (· = g) w ((((((w2.setCell ⟨g, a * 3, none⟩ (.int .i64 d'[(a - 1) / 2]!.1)).setCell ⟨g, a * 3 + 1, none⟩ (.int .i64 d'[(a - 1) / 2]!.2.1)).setCell ⟨g, a * 3 + 2, none⟩ (.int .u64 d'[(a - 1) / 2]!.2.2)).setCell ⟨g, (a - 1) / 2 * 3, none⟩ (.int .i64 d'[a]!.1)).setCell ⟨g, (a - 1) / 2 * 3 + 1, none⟩ (.int .i64 d'[a]!.2.1)).setCell ⟨g, (a - 1) / 2 * 3 + 2, none⟩ (.int .u64 d'[a]!.2.2)).drew) := Lib.hid (((((((HO2.out.setCell (.inl rfl) _).setCell (.inl rfl) _).setCell (.inl rfl) _).setCell (.inl rfl) _).setCell (.inl rfl) _).setCell (.inl rfl) _).drew)
        go_wp2_with (fail)
        go_roundg ((a - 1) / 2)
        case measure => omega
        case rel => exact ⟨(a - 1) / 2, swp d' a ((a - 1) / 2), rfl, rfl, by omega, by rw [size_swp]; exact hds, HU2.out.step hS (by omega) (by omega) hl2, (swp_perm d' _ _ (by omega) (by omega)).trans HP.out, HRS.out, HOS.out⟩
      · have hrd : decide (0 ≤ r) = true := decide_eq_true (by omega)
        go_wp2_with (fail)
        go_region_held3 (fun W => W.cell? ⟨g, a * 3, none⟩ = some (.int .i64 x.1) ∧ W.cell? ⟨g, a * 3 + 1, none⟩ = some (.int .i64 x.2.1) ∧ W.cell? ⟨g, a * 3 + 2, none⟩ = some (.int .u64 x.2.2) ∧ W.cell? ⟨g, p * 3, none⟩ = some (.int .i64 y.1) ∧ W.cell? ⟨g, p * 3 + 1, none⟩ = some (.int .i64 y.2.1) ∧ W.cell? ⟨g, p * 3 + 2, none⟩ = some (.int .u64 y.2.2)) ((refine HS.out _ ?_; repeat' (first | (with_reducible exact Below.refl _ _) | (with_reducible assumption) | (with_reducible refine Below.drew ?_) | (with_reducible refine below_drewN' ?_ _))))
          (first
            | (go_at_call 191; (with_reducible refine (HC2.out _ (by repeat' (first | (with_reducible exact Below.refl _ _) | (with_reducible assumption) | (with_reducible refine Below.drew ?_) | (with_reducible refine below_drewN' ?_ _)))).mono ?_); rintro e w2 ⟨rfl, hb2⟩))
        go_wp2_with (fail)
        refine bodyPost_ret (results_none rfl _ _ _) rfl ?_
        have hx := HX.out
        have hy := HY.out
        have hl := HL.out
        have hpp := HPP.out
        have hl2 : lf cf x y = false := by rw [hl]; exact decide_eq_false (by omega)
        subst hx hy hpp
        exact ⟨rfl, HO.out.on hb2, d', hds, HP.out, HU2.out.stop (.inr hl2), HR.out.below hb2 (Nat.le_refl _)⟩
end Go.Proofs.YtpmjpolnoaigoaaGreat.fro
/-
  The contract of Heap.sink at entries.
-/
namespace Go.Proofs.YtpmjpolnoaigoaaGreat.fro
open Go.RowKit law bytes only flat heapM Go.Sort Go.Shelf
set_option linter.unusedVariables false

set_option maxRecDepth 100000 in
set_option maxHeartbeats 3200000 in
theorem sink_ent (K hb : Nat) (v : Value) (cf : Ent → Ent → Int) (hK : Enters Tryz.prog K) (hO : Ordr K tE cf) (hS : SWO (lf cf)) (base g c : Nat) (d : Array Ent) (w : World)
    (hs : Blk w hb 220 #[.func (.func K) #[] #[], v]) (hr : ERow w base g c d) (hne : hb ≠ g) (hD : Down (lf cf) d 0) (hsz : d.size < 2305843009213693952) :
    Calls Tryz.prog 174 #[.pointer (some ⟨hb, 0, none⟩), .slice (some ⟨g, 0, none⟩) d.size c] w fun e w' =>
      e = .returned (.tuple #[]) ∧ Only (· = g) w w' ∧ ∃ d', d'.size = d.size ∧ d'.toList.Perm d.toList ∧ Heap (lf cf) d' ∧ ERow w' base g c d' := by
  have HC : Hid (∀ (W : World) (x y : Ent), Only (· = g) w W → Calls Tryz.prog 191 #[.pointer (some ⟨hb, 0, none⟩), tE x, tE y] W fun e w' => e = .returned (.int .i64 (cf x y)) ∧ Below W.heap.size W w') :=
    Lib.hid fun W x y hW => compare_ent K hb v cf hK x y W (Blk.only hs hW hne) hO
  clear hK hO hs
  go_enter Tryz.func174, Tryz.ntmps174
  go_wp2_with (fail)
  go_loopg [4, 5, 6] d.size (fun gk s4 s5 s6 wr => ∃ (a : Nat) (d' : Array Ent), gk = d.size - a ∧ s4 = .int .i64 a ∧ a ≤ d.size ∧ d'.size = d.size ∧ Down (lf cf) d' a ∧ d'.toList.Perm d.toList ∧ ERow wr base g c d' ∧ Only (· = g) w wr)
  case atStart => exact ⟨0, d, rfl, rfl, by omega, rfl, hD, List.Perm.refl _, hr, Only.refl _ _⟩
  case round =>
    obtain ⟨a, d', rfl, rfl, ha, hds, hD', hp, hr', ho⟩ := hrel
    obtain ⟨w0, hw0⟩ : ∃ w0, w0 = wr := ⟨_, rfl⟩
    subst hw0
    clear hr hD
    obtain ⟨t, ht⟩ : ∃ t, t = 2 * a := ⟨_, rfl⟩
    obtain ⟨t1, ht1⟩ : ∃ t1, t1 = 2 * a + 1 := ⟨_, rfl⟩
    obtain ⟨t2, ht2⟩ : ∃ t2, t2 = 2 * a + 2 := ⟨_, rfl⟩
    have i1 : IntKind.i64.wrap (2 * (a : Int)) = (t : Int) := by rw [IntKind.wrap_i64]; omega
    have i2 : IntKind.i64.wrap ((t : Int) + 1) = (t1 : Int) := by rw [IntKind.wrap_i64]; omega
    have i3 : IntKind.i64.wrap ((t : Int) + 2) = (t2 : Int) := by rw [IntKind.wrap_i64]; omega
    have HT1 := Lib.hid ht1
    have HT2 := Lib.hid ht2
    clear ht ht1 ht2
    go_wp2_with (fail)
    go_loopg [5, 6] (2 * a + 3 - (2 * a + 1)) (fun gk s5 s6 wr => ∃ f b : Nat, gk = 2 * a + 3 - b ∧ s5 = .int .i64 f ∧ s6 = .int .i64 b ∧ 2 * a + 1 ≤ b ∧ b ≤ 2 * a + 3 ∧ Kid (lf cf) d' a f b ∧ ERow wr base g c d' ∧ Only (· = g) w wr)
    case atStart => exact ⟨a, 2 * a + 1, rfl, rfl, by rw [HT1.out], by omega, by omega, Kid.start _ _ _, hr', ho⟩
    case round =>
      clear hr' ho
      obtain ⟨f, b, rfl, rfl, rfl, hb1, hb2, hk, hr', ho⟩ := hrel
      by_cases hlt : b ≤ 2 * a + 2 ∧ b < d.size
      · obtain ⟨hlt1, hlt2⟩ := hlt
        have j1 : decide ((b : Int) ≤ (t2 : Int)) = true := decide_eq_true (by rw [HT2.out]; omega)
        have j2 : decide ((b : Int) < (d.size : Int)) = true := decide_eq_true (by omega)
        have j3 : decide (b ≤ t2) = true := decide_eq_true (by rw [HT2.out]; omega)
        have j4 : decide (b < d.size) = true := decide_eq_true (by omega)
        have hf : f < d.size := by
          rcases hk.1 with e | ⟨_, _, e, _⟩
          · omega
          · omega
        have j5 : (b : Int) < (d.size : Int) := by omega
        have j6 : (f : Int) < (d.size : Int) := by omega
        have j7 : IntKind.i64.wrap ((b : Int) + 1) = ((b + 1 : Nat) : Int) := by rw [IntKind.wrap_i64]; omega
        have HS2 : Hid (∀ W, Below wr.heap.size wr W → W.cell? ⟨g, b * 3, none⟩ = some (.int .i64 d'[b]!.1) ∧ W.cell? ⟨g, b * 3 + 1, none⟩ = some (.int .i64 d'[b]!.2.1) ∧ W.cell? ⟨g, b * 3 + 2, none⟩ = some (.int .u64 d'[b]!.2.2) ∧ W.cell? ⟨g, f * 3, none⟩ = some (.int .i64 d'[f]!.1) ∧ W.cell? ⟨g, f * 3 + 1, none⟩ = some (.int .i64 d'[f]!.2.1) ∧ W.cell? ⟨g, f * 3 + 2, none⟩ = some (.int .u64 d'[f]!.2.2)) := Lib.hid fun W hW =>
          ⟨(hr'.below hW (Nat.le_refl _)).c1 b (by omega), (hr'.below hW (Nat.le_refl _)).c2 b (by omega), (hr'.below hW (Nat.le_refl _)).c3 b (by omega), (hr'.below hW (Nat.le_refl _)).c1 f (by omega), (hr'.below hW (Nat.le_refl _)).c2 f (by omega), (hr'.below hW (Nat.le_refl _)).c3 f (by omega)⟩
        have HC2 : Hid (∀ W, Below wr.heap.size wr W → Calls Tryz.prog 191 #[.pointer (some ⟨hb, 0, none⟩), tE d'[b]!, tE d'[f]!] W fun e w' => e = .returned (.int .i64 (cf d'[b]! d'[f]!)) ∧ Below wr.heap.size wr w') :=
          Lib.hid fun W hW => (HC.out W _ _ (ho.on hW)).mono fun e w' ⟨he, hb'⟩ => ⟨he, hW.trans (hb'.mono hW.size)⟩
        have HR := Lib.hid hr'
        have HO := Lib.hid ho
        have HK := Lib.hid hk
        have HD := Lib.hid hD'
        have HP := Lib.hid hp
        have hl : lf cf d'[b]! d'[f]! = decide (cf d'[b]! d'[f]! < 0) := rfl
        clear hr' ho hk hD' hp
        obtain ⟨q0, q1, q2, q3, q4, q5⟩ := HS2.out wr (Below.refl _ _)
        generalize hx : d'[b]! = x at hl q0 q1 q2 q3 q4 q5 HS2 HC2
        generalize hy : d'[f]! = y at hl q0 q1 q2 q3 q4 q5 HS2 HC2
        generalize cf x y = r at hl HC2
        unfold tE at HC2
        have HX := Lib.hid hx
        have HY := Lib.hid hy
        have HL := Lib.hid hl
        clear hx hy hl
        obtain ⟨o, hd⟩ : ∃ o, decide (r < 0) = o := ⟨_, rfl⟩
        rw [hd] at HL
        go_wp2_with (fail)
        go_region_held3 (fun W => W.cell? ⟨g, b * 3, none⟩ = some (.int .i64 x.1) ∧ W.cell? ⟨g, b * 3 + 1, none⟩ = some (.int .i64 x.2.1) ∧ W.cell? ⟨g, b * 3 + 2, none⟩ = some (.int .u64 x.2.2) ∧ W.cell? ⟨g, f * 3, none⟩ = some (.int .i64 y.1) ∧ W.cell? ⟨g, f * 3 + 1, none⟩ = some (.int .i64 y.2.1) ∧ W.cell? ⟨g, f * 3 + 2, none⟩ = some (.int .u64 y.2.2)) ((refine HS2.out _ ?_; repeat' (first | (with_reducible exact Below.refl _ _) | (with_reducible assumption) | (with_reducible refine Below.drew ?_) | (with_reducible refine below_drewN' ?_ _))))
          (first
            | (go_at_call 191; (with_reducible refine (HC2.out _ (by repeat' (first | (with_reducible exact Below.refl _ _) | (with_reducible assumption) | (with_reducible refine Below.drew ?_) | (with_reducible refine below_drewN' ?_ _)))).mono ?_); rintro e w2 ⟨rfl, hb2⟩))
        have HR2 := Lib.hid (HR.out.below hb2 (Nat.le_refl _))
        have HO2 := Lib.hid (HO.out.on hb2)
        have hx := HX.out
        have hy := HY.out
        have hl := HL.out
        subst hx hy
        clear hb2 HC2 HS2 HR q0 q1 q2 q3 q4 q5 HX HY HL
        cases o with
        | true =>
          have HK2 := Lib.hid (HK.out.yes hS hb1 (by omega) hl)
          clear hl hd
          go_wp2_with (fail)
          go_roundg (2 * a + 3 - (b + 1))
          case measure => omega
          case rel => exact ⟨b, b + 1, rfl, rfl, rfl, by omega, by omega, HK2.out, HR2.out, HO2.out⟩
        | false =>
          have HK2 := Lib.hid (HK.out.no hl)
          clear hl hd
          go_wp2_with (fail)
          go_roundg (2 * a + 3 - (b + 1))
          case measure => omega
          case rel => exact ⟨f, b + 1, rfl, rfl, rfl, by omega, by omega, HK2.out, HR2.out, HO2.out⟩
      · have hend : b = 2 * a + 3 ∨ d'.size ≤ b := by omega
        have HR2 := Lib.hid hr'
        have HO2 := Lib.hid ho
        have HK := Lib.hid hk
        have HD := Lib.hid hD'
        have HP := Lib.hid hp
        have HE := Lib.hid hend
        have j0 : (decide ((b : Int) ≤ (t2 : Int)) && decide ((b : Int) < (d.size : Int))) = false := by
          rw [HT2.out]
          by_cases e : b ≤ 2 * a + 2
          · rw [decide_eq_false (p := (b : Int) < (d.size : Int)) (by omega)]; simp
          · rw [decide_eq_false (p := (b : Int) ≤ ((2 * a + 2 : Nat) : Int)) (by omega)]; simp
        clear hr' ho hk hD' hp hend
        by_cases e : f = a
        · have k0 : ((f : Int) == (a : Int)) = true := by rw [e]; simp
          have HH := Lib.hid (HK.out.stop HE.out HD.out e)
          by_cases e2 : b ≤ 2 * a + 2
          · have j1 : (b : Int) ≤ (t2 : Int) := by rw [HT2.out]; omega
            have j2 : ¬ (b : Int) < (d.size : Int) := by omega
            go_wp2_with (fail)
            refine bodyPost_ret (results_none rfl _ _ _) rfl ?_
            exact ⟨rfl, HO2.out, d', hds, HP.out, HH.out, HR2.out⟩
          · have j1 : ¬ (b : Int) ≤ (t2 : Int) := by rw [HT2.out]; omega
            go_wp2_with (fail)
            refine bodyPost_ret (results_none rfl _ _ _) rfl ?_
            exact ⟨rfl, HO2.out, d', hds, HP.out, HH.out, HR2.out⟩
        · have k0 : ((f : Int) == (a : Int)) = false := by rw [beq_eq_false_iff_ne]; omega
          have HH := Lib.hid (HK.out.step hS HE.out hb2 HD.out e)
          obtain ⟨m1, m2, m3⟩ := HK.out.place hb2 e
          have j6 : (f : Int) < (d.size : Int) := by omega
          have j7 : (a : Int) < (d.size : Int) := by omega
          have q0 := HR2.out.c1 a (by omega)
          have q1 := HR2.out.c2 a (by omega)
          have q2 := HR2.out.c3 a (by omega)
          have q3 := HR2.out.c1 f (by omega)
          have q4 := HR2.out.c2 f (by omega)
          have q5 := HR2.out.c3 f (by omega)
          have f0 := HR2.out.frozen (a * 3)
          have f1 := HR2.out.frozen (a * 3 + 1)
          have f2 := HR2.out.frozen (a * 3 + 2)
          have f3 := HR2.out.frozen (f * 3)
          have f4 := HR2.out.frozen (f * 3 + 1)
          have f5 := HR2.out.frozen (f * 3 + 2)
          have HRS := Lib.hid (HR2.out.swap a f (by omega) (by omega)).drew_
          have HOS : Hid (Only (· = g) w ((((((wr.setCell ⟨g, a * 3, none⟩ (.int .i64 d'[f]!.1)).setCell ⟨g, a * 3 + 1, none⟩ (.int .i64 d'[f]!.2.1)).setCell ⟨g, a * 3 + 2, none⟩ (.int .u64 d'[f]!.2.2)).setCell ⟨g, f * 3, none⟩ (.int .i64 d'[a]!.1)).setCell ⟨g, f * 3 + 1, none⟩ (.int .i64 d'[a]!.2.1)).setCell ⟨g, f * 3 + 2, none⟩ (.int .u64 d'[a]!.2.2)).drew) := Lib.hid (((((((HO2.out.setCell (.inl rfl) _).setCell (.inl rfl) _).setCell (.inl rfl) _).setCell (.inl rfl) _).setCell (.inl rfl) _).setCell (.inl rfl) _).drew)
          have HP2 := Lib.hid ((swp_perm d' a f (by omega) (by omega)).trans HP.out)
          generalize d'[a]! = x at q0 q1 q2 HRS HOS
          generalize d'[f]! = y at q3 q4 q5 HRS HOS
          by_cases e2 : b ≤ 2 * a + 2
          · have j1 : (b : Int) ≤ (t2 : Int) := by rw [HT2.out]; omega
            have j2 : ¬ (b : Int) < (d.size : Int) := by omega
            go_wp2_with (fail)
            go_region
            go_wp2_with (fail)
            go_roundg (d.size - f)
            case measure => omega
            case rel => exact ⟨f, swp d' a f, rfl, rfl, by omega, by rw [size_swp]; exact hds, HH.out, HP2.out, HRS.out, HOS.out⟩
          · have j1 : ¬ (b : Int) ≤ (t2 : Int) := by rw [HT2.out]; omega
            go_wp2_with (fail)
            go_region
            go_wp2_with (fail)
            go_roundg (d.size - f)
            case measure => omega
            case rel => exact ⟨f, swp d' a f, rfl, rfl, by omega, by rw [size_swp]; exact hds, HH.out, HP2.out, HRS.out, HOS.out⟩
end Go.Proofs.YtpmjpolnoaigoaaGreat.fro
/-
  A heap of entries in memory; the contracts of New, Len, Top, Push.
-/
namespace Go.Proofs.YtpmjpolnoaigoaaGreat.fro
open Go.RowKit law bytes only flat heapM Go.Sort Go.Shelf
set_option linter.unusedVariables false

/-- what a heap's methods may turn -/
def Mine (hb : Nat) (v : Value) (i : Nat) : Prop := i = hb ∨ v.ownBlock = some i
/-- where a heap's row lies behind a method: as before, or in new memory -/
def Moved (w : World) (v v' : Value) : Prop := v'.ownBlock = v.ownBlock ∨ ∃ g, v'.ownBlock = some g ∧ w.heap.size ≤ g
/-- a heap of entries at block hb: its order, its row -/
def EHp (w : World) (base hb : Nat) (v : Value) (K : Nat) (d : Array Ent) : Prop :=
  Blk w hb 220 #[.func (.func K) #[] #[], v] ∧ w.ownsRow base 130 3 v d.size (d.toList.flatMap ec) ∧ v.ownBlock ≠ some hb
section
variable {w w' : World} {base hb : Nat} {v : Value} {K : Nat} {d : Array Ent}
theorem EHp.lt (h : EHp w base hb v K d) : hb < w.heap.size := h.1.lt
theorem EHp.below {B : Nat} (h : EHp w base hb v K d) (k : Below B w w') (hB : w.heap.size ≤ B) : EHp w' base hb v K d := ⟨h.1.below k (Nat.lt_of_lt_of_le h.1.lt hB), own_below h.2.1 k hB, h.2.2⟩
theorem EHp.only {S : Nat → Prop} (h : EHp w base hb v K d) (k : Only S w w') (hS : ∀ i, Mine hb v i → ¬ S i) : EHp w' base hb v K d :=
  ⟨Blk.only h.1 k (hS hb (.inl rfl)), own_only h.2.1 k fun g e => hS g (.inr e), h.2.2⟩
theorem EHp.form (h : EHp w base hb v K d) (h0 : 0 < d.size) : ∃ g c, v = .slice (some ⟨g, 0, none⟩) d.size c ∧ ERow w base g c d ∧ hb ≠ g := by
  obtain ⟨g, c, rfl, _⟩ := own_form h.2.1 h0
  exact ⟨g, c, rfl, h.2.1, fun e => h.2.2 (by rw [e]; rfl)⟩
theorem EHp.slice (h : EHp w base hb v K d) : ∃ A c, v = .slice A d.size c := by
  obtain ⟨A, c, e, _⟩ := own_slice h.2.1
  exact ⟨A, c, e⟩
end
theorem new_ent (K base : Nat) (w : World) (hB : base ≤ w.heap.size) : Calls Tryz.prog 117 #[.func (.func K) #[] #[]] w fun e w' =>
    e = .returned (.pointer (some ⟨w.heap.size, 0, none⟩)) ∧ Below w.heap.size w w' ∧ EHp w' base w.heap.size (.slice none 0 0) K #[] := by
  have hb : Below w.heap.size w (w.alloc (.cells #[.func (.func K) #[] #[], .slice none 0 0] 220)) := (Below.refl _ _).alloc (Nat.le_refl _) _
  have hm : EHp (w.alloc (.cells #[.func (.func K) #[] #[], .slice none 0 0] 220)) base w.heap.size (.slice none 0 0) K #[] := ⟨Blk.new _ _ _, World.ownsRow_nil _ _ _ _, by simp [Value.ownBlock]⟩
  have HM := Lib.hid hm
  have HB := Lib.hid hb
  clear hm hb
  go_enter Tryz.func117, Tryz.ntmps117
  go_wp2_with (fail)
  go_ret
  exact ⟨rfl, HB.out, HM.out⟩
theorem len_ent {w : World} {base hb : Nat} {v : Value} {K : Nat} {d : Array Ent} (h : EHp w base hb v K d) : Calls Tryz.prog 214 #[.pointer (some ⟨hb, 0, none⟩)] w fun e w' => e = .returned (.int .i64 d.size) ∧ w = w' := by
  obtain ⟨A, c, rfl⟩ := h.slice
  have c1 : w.cell? ⟨hb, 1, none⟩ = some (.slice A d.size c) := h.1.cell 1
  clear h
  go_enter Tryz.func214, Tryz.ntmps214
  go_wp2_with (fail)
  go_ret
  exact ⟨rfl, rfl⟩
/-- what Top tells of entries -/
def topE (d : Array Ent) : Value := if d.size = 0 then .tuple #[tE (0, 0, 0), .bool false] else .tuple #[tE d[0]!, .bool true]
set_option maxRecDepth 100000 in
set_option maxHeartbeats 1600000 in
theorem top_ent {w : World} {base hb : Nat} {v : Value} {K : Nat} {d : Array Ent} (h : EHp w base hb v K d) : Calls Tryz.prog 173 #[.pointer (some ⟨hb, 0, none⟩)] w fun e w' => e = .returned (topE d) ∧ Below w.heap.size w w' := by
  unfold topE tE
  have hb1 : Below w.heap.size w (w.alloc (.cells #[.int .i64 0, .int .i64 0, .int .u64 0] 130)) := (Below.refl _ _).alloc (Nat.le_refl _) _
  have h1 := h.below hb1 (Nat.le_refl _)
  have HL := Lib.hid (len_ent h1)
  by_cases h0 : d.size = 0
  · rw [if_pos h0]
    rw [h0] at HL
    clear h h1
    go_enter Tryz.func173, Tryz.ntmps173
    go_wp2_with (go_at_call 214; (with_reducible refine HL.out.mono ?_); rintro e w' ⟨rfl, rfl⟩)
    obtain ⟨V, hV⟩ : ∃ V, V = (w.alloc (.cells #[.int .i64 0, .int .i64 0, .int .u64 0] 130)).alloc (.cells #[.int .i64 0, .int .i64 0, .int .u64 0] 130) := ⟨_, rfl⟩
    have hbl : Blk V w.heap.size 130 #[.int .i64 0, .int .i64 0, .int .u64 0] := by rw [hV]; exact (Blk.new w _ _).alloc _
    have z0 : V.cell? ⟨w.heap.size, 0, none⟩ = some (.int .i64 0) := hbl.cell 0
    have z1 : V.cell? ⟨w.heap.size, 1, none⟩ = some (.int .i64 0) := hbl.cell 1
    have z2 : V.cell? ⟨w.heap.size, 2, none⟩ = some (.int .u64 0) := hbl.cell 2
    have hB : Below w.heap.size w V := by rw [hV]; exact hb1.alloc (by simp) _
    rw [← hV]
    clear hV hbl
    refine bodyPost_ret (v := .tuple #[.agg #[.int .i64 0, .int .i64 0, .int .u64 0], .bool false]) (by simp [results, Tryz.results173, go_sem, z0, z1, z2]) rfl ?_
    exact ⟨rfl, hB⟩
  · rw [if_neg h0]
    obtain ⟨g, c, rfl, hr, -⟩ := h1.form (by omega)
    have c1 : (w.alloc (.cells #[.int .i64 0, .int .i64 0, .int .u64 0] 130)).cell? ⟨hb, 1, none⟩ = some (.slice (some ⟨g, 0, none⟩) d.size c) := h1.1.cell 1
    have q0 := hr.c1 0 (by omega)
    have q1 := hr.c2 0 (by omega)
    have q2 := hr.c3 0 (by omega)
    simp only [Nat.zero_mul, Nat.zero_add] at q0 q1 q2
    have i0 : ((d.size : Int) == 0) = false := by rw [beq_eq_false_iff_ne]; omega
    have i1 : (0 : Int) < (d.size : Int) := by omega
    generalize d[0]! = x at q0 q1 q2 ⊢
    clear h h1 hr
    go_enter Tryz.func173, Tryz.ntmps173
    go_wp2_with (go_at_call 214; (with_reducible refine HL.out.mono ?_); rintro e w' ⟨rfl, rfl⟩)
    obtain ⟨V, hV⟩ : ∃ V, V = w.alloc (.cells #[.int .i64 x.1, .int .i64 x.2.1, .int .u64 x.2.2] 130) := ⟨_, rfl⟩
    have hbl : Blk V w.heap.size 130 #[.int .i64 x.1, .int .i64 x.2.1, .int .u64 x.2.2] := by rw [hV]; exact Blk.new w _ _
    have z0 : V.cell? ⟨w.heap.size, 0, none⟩ = some (.int .i64 x.1) := hbl.cell 0
    have z1 : V.cell? ⟨w.heap.size, 1, none⟩ = some (.int .i64 x.2.1) := hbl.cell 1
    have z2 : V.cell? ⟨w.heap.size, 2, none⟩ = some (.int .u64 x.2.2) := hbl.cell 2
    have hB : Below w.heap.size w V := by rw [hV]; exact (Below.refl _ _).alloc (Nat.le_refl _) _
    rw [← hV]
    clear hV hbl
    refine bodyPost_ret (v := .tuple #[.agg #[.int .i64 x.1, .int .i64 x.2.1, .int .u64 x.2.2], .bool true]) (by simp [results, Tryz.results173, go_sem, z0, z1, z2]) rfl ?_
    exact ⟨rfl, hB⟩
theorem pc_push (d : Array Ent) (x : Ent) : (d.push x).toList.flatMap ec = d.toList.flatMap ec ++ ec x := by simp
theorem pc_one (x : Ent) : ∀ u ∈ ec x, u.oneCell' = true := by simp [ec, Value.oneCell']
set_option maxRecDepth 100000 in
set_option maxHeartbeats 3200000 in
theorem push_ent {base hb : Nat} {v : Value} {K : Nat} {d : Array Ent} (cf : Ent → Ent → Int) (hK : Enters Tryz.prog K) (hO : Ordr K tE cf) (hS : SWO (lf cf)) (x : Ent) (w : World) (h : EHp w base hb v K d) (hH : Heap (lf cf) d) (hB : base ≤ w.heap.size) (hsz : (d.size + 1) * 24 ≤ 140737488355328) :
    Calls Tryz.prog 119 #[.pointer (some ⟨hb, 0, none⟩), tE x] w fun e w' =>
      e = .returned (.tuple #[]) ∧ Only (Mine hb v) w w' ∧ ∃ v' d', EHp w' base hb v' K d' ∧ Heap (lf cf) d' ∧ d'.toList.Perm (x :: d.toList) ∧ Moved w v v' := by
  have ep : (d.push x).size = d.size + 1 := by simp
  have hR := fun g c W v => rise_ent K hb v cf hK hO hS base g c (d.push x) W
  rw [ep] at hR
  have hU := Up.push hH x
  have hpu : (d.push x).toList.Perm (x :: d.toList) := by
    rw [Array.toList_push]
    exact List.perm_append_comm (l₁ := d.toList) (l₂ := [x])
  have hlt := h.lt
  obtain ⟨A0, c0, rfl⟩ := h.slice
  obtain ⟨hs0, hown0, hne⟩ := h
  obtain ⟨v, hv⟩ : ∃ v, v = Value.slice A0 d.size c0 := ⟨_, rfl⟩
  rw [← hv] at hs0 hown0 hne ⊢
  obtain ⟨w1, hw1⟩ : ∃ w1, w1 = w.alloc (.cells #[.int .i64 x.1, .int .i64 x.2.1, .int .u64 x.2.2] 130) := ⟨_, rfl⟩
  have ho1 : Only (Mine hb v) w w1 := by rw [hw1]; exact Only.alloc (Only.refl _ _) _
  have hs : Blk w1 hb 220 #[.func (.func K) #[] #[], v] := by rw [hw1]; exact hs0.alloc _
  have hown : w1.ownsRow base 130 3 v d.size (d.toList.flatMap ec) := by rw [hw1]; exact hown0.alloc _
  have hx : Blk w1 w.heap.size 130 #[.int .i64 x.1, .int .i64 x.2.1, .int .u64 x.2.2] := by rw [hw1]; exact Blk.new w _ _
  have hz : w1.heap.size = w.heap.size + 1 := by rw [hw1]; simp
  have c1 : w1.cell? ⟨hb, 1, none⟩ = some v := hs.cell 1
  have x0 : w1.cell? ⟨w.heap.size, 0, none⟩ = some (.int .i64 x.1) := hx.cell 0
  have x1 : w1.cell? ⟨w.heap.size, 1, none⟩ = some (.int .i64 x.2.1) := hx.cell 1
  have x2 : w1.cell? ⟨w.heap.size, 2, none⟩ = some (.int .u64 x.2.2) := hx.cell 2
  clear hs0
  unfold tE
  go_enter Tryz.func119, Tryz.ntmps119
  go_wp2_with (fail)
  rw [← hw1]
  go_wp2_with (fail)
  have c2 : (w1.alloc (.cells #[.int .i64 x.1, .int .i64 x.2.1, .int .u64 x.2.2] 130)).cell? ⟨hb, 1, none⟩ = some v := (hs.alloc (.cells #[.int .i64 x.1, .int .i64 x.2.1, .int .u64 x.2.2] 130)).cell 1
  have c3 : w1.drew.cell? ⟨hb, 1, none⟩ = some v := hs.cell 1
  rw [hv] at c1 c2 c3
  clear hw1
  have HBN : Hid (Blk ((w1.drewN 1).alloc (.cells #[.int .i64 x.1, .int .i64 x.2.1, .int .u64 x.2.2] 130)) w1.heap.size 130 (ec x).toArray) := Lib.hid (Blk.new (w1.drewN 1) _ _)
  have HOWN : Hid (w1.ownsRow base 130 3 (.slice A0 d.size c0) d.size (d.toList.flatMap ec)) := Lib.hid (hv ▸ hown)
  have HGR : Hid (∀ w2, ((w1.drewN 1).alloc (.cells #[.int .i64 x.1, .int .i64 x.2.1, .int .u64 x.2.2] 130)).grownBy w2 (Value.slice A0 d.size c0).ownBlock → Blk w2 hb 220 #[.func (.func K) #[] #[], .slice A0 d.size c0] ∧ Only (Mine hb v) w w2) := Lib.hid fun w2 hg1 =>
    ⟨(Blk.alloc (w := w1.drewN 1) (hv ▸ hs) (.cells #[.int .i64 x.1, .int .i64 x.2.1, .int .u64 x.2.2] 130)).grown hg1 (fun e => hne (by rw [hv]; exact e.symm)), (ho1.drewN 1).alloc _ |>.trans (Only.of_grown hg1 (S := fun i => v.ownBlock = some i) fun g e => .inl (by rw [hv]; exact e)) fun i e => .inl (.inr e)⟩
  have HBS : Hid (base ≤ ((w1.drewN 1).alloc (.cells #[.int .i64 x.1, .int .i64 x.2.1, .int .u64 x.2.2] 130)).heap.size) := Lib.hid (by simp; omega)
  have HV := Lib.hid hv
  have HZ := Lib.hid hz
  clear hs hv hown hx hz hown0
  go_region_law (refine step_append_k _ (by rfl) _ _ _ (by rfl) base 130 3 24 Tryz.underlying127 entE (by decide) (.slice A0 d.size c0) d.size (d.toList.flatMap ec) (by rfl) (World.ownsRow.alloc (w := w1.drewN 1) HOWN.out _) w1.heap.size 1 (ec x) 130 HBN.out (by rfl) rfl (pc_one x) (by omega) (by unfold maxLen; omega) HBS.out ?_; intro v1 w2 hown1 hg1 hat1; obtain ⟨g1, k1, rfl, hgb, hgl, hk1⟩ := own_form hown1 (Nat.succ_pos _); have hd1 := (HGR.out w2 hg1).1.cell 1; have hf1 := (HGR.out w2 hg1).1.frozen 1; simp only [List.getElem?_toArray, List.getElem?_cons_succ, List.getElem?_cons_zero] at hd1)
  all_goals
    obtain ⟨hblk1, ho2⟩ := HGR.out w2 hg1
    have hbg : hb ≠ g1 := fun e => by
      simp only [Value.ownBlock] at hat1
      rcases hat1 with e1 | e1
      · exact hne (by rw [HV.out, e]; exact e1.symm)
      · have := HZ.out
        simp at e1; omega
    have hrow : ERow w2 base g1 k1 (d.push x) := by
      show w2.ownsRow _ _ _ _ _ _
      rw [ep, pc_push]
      exact hown1
    have hs2 := hblk1.set_ 1 (.slice (some ⟨g1, 0, none⟩) (d.size + 1) k1)
    have hrow2 : ERow (w2.setCell ⟨hb, 1, none⟩ (.slice (some ⟨g1, 0, none⟩) (d.size + 1) k1)) base g1 k1 (d.push x) := hrow.only (S := fun i => i = hb) (Only.setCell (S := fun i => i = hb) (p := ⟨hb, 1, none⟩) (Only.refl _ _) (.inl rfl) _) (fun e => hbg e.symm)
    have d1 : (w2.setCell ⟨hb, 1, none⟩ (.slice (some ⟨g1, 0, none⟩) (d.size + 1) k1)).cell? ⟨hb, 1, none⟩ = some (.slice (some ⟨g1, 0, none⟩) (d.size + 1) k1) := hs2.cell 1
    have h1 : Only (Mine hb v) w (w2.setCell ⟨hb, 1, none⟩ (.slice (some ⟨g1, 0, none⟩) (d.size + 1) k1)) := Only.setCell (p := ⟨hb, 1, none⟩) ho2 (.inl (.inl rfl)) _
    have hmv : Moved w v (.slice (some ⟨g1, 0, none⟩) (d.size + 1) k1) := by
      rcases hat1 with e1 | e1
      · exact .inl (by rw [e1, HV.out])
      · exact .inr ⟨_, e1, by have := HZ.out; simp; omega⟩
    have HE : Hid (∀ W, Only (· = g1) (w2.setCell ⟨hb, 1, none⟩ (.slice (some ⟨g1, 0, none⟩) (d.size + 1) k1)) W → Only (Mine hb v) w W ∧ Blk W hb 220 #[.func (.func K) #[] #[], .slice (some ⟨g1, 0, none⟩) (d.size + 1) k1]) := Lib.hid fun W hW =>
      ⟨h1.trans hW fun i e => by
        rcases hmv with e1 | ⟨g, e1, hg⟩
        · exact .inl (.inr (by rw [← e1, e]; rfl))
        · simp only [Value.ownBlock, Option.some.injEq] at e1
          exact .inr (by rw [e, e1]; exact hg), Blk.only hs2 hW hbg⟩
    have HM := Lib.hid hmv
    have HR2 := Lib.hid (hR g1 k1 _ _ hs2 hrow2 hbg (by omega) (by simpa using hU) (by omega))
    have HP := Lib.hid hpu
    have HN := Lib.hid hbg
    clear hs2 hrow2 h1 hmv hR hblk1 hrow hg1 hat1 hown1 hU hpu hbg hgl hgb hne hlt ho2 ho1 hd1 hf1 c1 c2 c3 x0 x1 x2 hK hO
    go_wp2_with (fail)
    refine HR2.out.mono ?_
    rintro e w5 ⟨rfl, ho, d', hd', hp', hH', hr'⟩
    obtain ⟨k1', k2'⟩ := HE.out w5 ho
    go_wp2_with (fail)
    go_end0
    exact ⟨rfl, k1', .slice (some ⟨g1, 0, none⟩) (d.size + 1) k1, d', ⟨k2', by rw [← hd']; exact hr', by simp only [Value.ownBlock]; intro e; exact HN.out (by injection e with e; exact e.symm)⟩, hH', hp'.trans HP.out, HM.out⟩
end Go.Proofs.YtpmjpolnoaigoaaGreat.fro
/-
  The contract of Heap.Pop at entries.
-/
namespace Go.Proofs.YtpmjpolnoaigoaaGreat.fro
open Go.RowKit law bytes only flat heapM Go.Sort Go.Shelf
set_option linter.unusedVariables false

set_option maxRecDepth 100000 in
set_option maxHeartbeats 1600000 in
theorem pop_ent_empty {w : World} {base hb : Nat} {v : Value} {K : Nat} {d : Array Ent} (h : EHp w base hb v K d) (h0 : d.size = 0) : Calls Tryz.prog 140 #[.pointer (some ⟨hb, 0, none⟩)] w fun e w' => e = .returned (.tuple #[tE (0, 0, 0), .bool false]) ∧ Below w.heap.size w w' := by
  have hb1 : Below w.heap.size w (w.alloc (.cells #[.int .i64 0, .int .i64 0, .int .u64 0] 130)) := (Below.refl _ _).alloc (Nat.le_refl _) _
  have HT := top_ent (h.below hb1 (Nat.le_refl _))
  unfold topE tE at HT
  unfold tE
  rw [if_pos h0] at HT
  have HT2 := Lib.hid HT
  clear HT h
  go_enter Tryz.func140, Tryz.ntmps140
  go_wp2_with (fail)
  refine HT2.out.mono ?_
  rintro e w1 ⟨rfl, hb2⟩
  have hz : w.heap.size < w1.heap.size := by have := hb2.size; simp at this; omega
  have hbl0 : Blk w1 w.heap.size 130 #[.int .i64 0, .int .i64 0, .int .u64 0] := (Blk.new w _ _).below hb2 (by simp)
  have hbl : Blk (w1.alloc (.cells #[.int .i64 0, .int .i64 0, .int .u64 0] 130)) w.heap.size 130 #[.int .i64 0, .int .i64 0, .int .u64 0] := hbl0.alloc _
  have hbm : Blk ((w1.setCell ⟨w.heap.size, 0, none⟩ (.int .i64 0)).alloc (.cells #[.int .i64 0, .int .i64 0, .int .u64 0] 130)) w.heap.size 130 #[.int .i64 0, .int .i64 0, .int .u64 0] := (hbl0.set_ 0 _).alloc _
  have hbn : Blk ((((w1.setCell ⟨w.heap.size, 0, none⟩ (.int .i64 0)).setCell ⟨w.heap.size, 1, none⟩ (.int .i64 0)).setCell ⟨w.heap.size, 2, none⟩ (.int .u64 0)).alloc (.cells #[.int .i64 0, .int .i64 0, .int .u64 0] 130)) w.heap.size 130 #[.int .i64 0, .int .i64 0, .int .u64 0] := (((hbl0.set_ 0 _).set_ 1 _).set_ 2 _).alloc _
  have e0 : (w1.alloc (.cells #[.int .i64 0, .int .i64 0, .int .u64 0] 130)).cell? ⟨w.heap.size, 0, none⟩ = some (.int .i64 0) := hbl.cell 0
  have e1 : ((w1.setCell ⟨w.heap.size, 0, none⟩ (.int .i64 0)).alloc (.cells #[.int .i64 0, .int .i64 0, .int .u64 0] 130)).cell? ⟨w.heap.size, 1, none⟩ = some (.int .i64 0) := hbm.cell 1
  have hbo : Blk (((w1.setCell ⟨w.heap.size, 0, none⟩ (.int .i64 0)).setCell ⟨w.heap.size, 1, none⟩ (.int .i64 0)).alloc (.cells #[.int .i64 0, .int .i64 0, .int .u64 0] 130)) w.heap.size 130 #[.int .i64 0, .int .i64 0, .int .u64 0] := ((hbl0.set_ 0 _).set_ 1 _).alloc _
  have e5 : (((w1.setCell ⟨w.heap.size, 0, none⟩ (.int .i64 0)).setCell ⟨w.heap.size, 1, none⟩ (.int .i64 0)).alloc (.cells #[.int .i64 0, .int .i64 0, .int .u64 0] 130)).cell? ⟨w.heap.size, 2, none⟩ = some (.int .u64 0) := hbo.cell 2
  have e6 : (((w1.setCell ⟨w.heap.size, 0, none⟩ (.int .i64 0)).setCell ⟨w.heap.size, 1, none⟩ (.int .i64 0)).alloc (.cells #[.int .i64 0, .int .i64 0, .int .u64 0] 130)).frozen? ⟨w.heap.size, 2, none⟩ = false := hbo.frozen 2
  have e7 : (w1.alloc (.cells #[.int .i64 0, .int .i64 0, .int .u64 0] 130)).frozen? ⟨w.heap.size, 2, none⟩ = false := hbl.frozen 2
  have e2 : (w1.alloc (.cells #[.int .i64 0, .int .i64 0, .int .u64 0] 130)).frozen? ⟨w.heap.size, 0, none⟩ = false := hbl.frozen 0
  have e3 : ((w1.setCell ⟨w.heap.size, 0, none⟩ (.int .i64 0)).alloc (.cells #[.int .i64 0, .int .i64 0, .int .u64 0] 130)).frozen? ⟨w.heap.size, 1, none⟩ = false := hbm.frozen 1
  have e4 : (w1.alloc (.cells #[.int .i64 0, .int .i64 0, .int .u64 0] 130)).frozen? ⟨w.heap.size, 1, none⟩ = false := hbl.frozen 1
  have hB : Below w.heap.size w ((((w1.setCell ⟨w.heap.size, 0, none⟩ (.int .i64 0)).setCell ⟨w.heap.size, 1, none⟩ (.int .i64 0)).setCell ⟨w.heap.size, 2, none⟩ (.int .u64 0)).alloc (.cells #[.int .i64 0, .int .i64 0, .int .u64 0] 130)) := ((((hb1.trans (hb2.mono (by simp))).setCell (p := ⟨w.heap.size, 0, none⟩) (Nat.le_refl _) _).setCell (p := ⟨w.heap.size, 1, none⟩) (Nat.le_refl _) _).setCell (p := ⟨w.heap.size, 2, none⟩) (Nat.le_refl _) _).alloc (by simp; omega) _
  have HB := Lib.hid hB
  have HL := Lib.hid hbn
  clear hB hbn hbm hbo hbl hbl0 hb2 hb1
  go_wp2_with (fail)
  obtain ⟨V, hV⟩ : ∃ V, V = ((((w1.setCell ⟨w.heap.size, 0, none⟩ (.int .i64 0)).setCell ⟨w.heap.size, 1, none⟩ (.int .i64 0)).setCell ⟨w.heap.size, 2, none⟩ (.int .u64 0)).alloc (.cells #[.int .i64 0, .int .i64 0, .int .u64 0] 130)) := ⟨_, rfl⟩
  rw [← hV] at HB HL
  rw [← hV]
  clear hV
  have z0 := HL.out.cell 0
  have z1 := HL.out.cell 1
  have z2 := HL.out.cell 2
  simp only [List.getElem?_toArray, List.getElem?_cons_succ, List.getElem?_cons_zero] at z0 z1 z2
  refine bodyPost_ret (v := .tuple #[.agg #[.int .i64 0, .int .i64 0, .int .u64 0], .bool false]) (by simp [results, Tryz.results140, go_sem, z0, z1, z2]) rfl ?_
  exact ⟨rfl, HB.out⟩
theorem ent_zero : ∀ w : World, (zeroValue 130).run Tryz.prog w = .ok (.agg #[.int .i64 0, .int .i64 0, .int .u64 0]) w := by
  intro w
  have h : (Tryz.prog.info? 130).map (fun i => (i.zero, i.size, i.bytes)) = some (some (.agg #[.int .i64 0, .int .i64 0, .int .u64 0]), 3, 24) := by kernel_rfl
  obtain ⟨i, hi, hz, _⟩ := info_parts h
  simp [zeroValue, typeInfo, hi, hz]
theorem ERow.alloc_ {w : World} {base g c : Nat} {d : Array Ent} (h : ERow w base g c d) (o : Obj) : ERow (w.alloc o) base g c d := World.ownsRow.alloc h o
theorem ec_cut (d : Array Ent) (x : Ent) (h0 : 0 < d.size) : (((d.setIfInBounds 0 d[d.size - 1]!).setIfInBounds (d.size - 1) x).toList.flatMap ec).take ((d.size - 1) * 3) = (cut d).toList.flatMap ec := by
  rw [flat_take ec_len, Array.toList_setIfInBounds, List.take_set, List.set_eq_of_length_le (by simp)]
  unfold cut
  rw [Array.toList_pop, List.dropLast_eq_take]
  simp
theorem ERow.cut {w : World} {base g c : Nat} {d : Array Ent} {x : Ent} (h : ERow w base g c ((d.setIfInBounds 0 d[d.size - 1]!).setIfInBounds (d.size - 1) x)) (h0 : 0 < d.size) : ERow w base g c (heapM.cut d) := by
  have h2 : w.ownsRow base 130 3 (.slice (some ⟨g, 0, none⟩) d.size c) d.size (((d.setIfInBounds 0 d[d.size - 1]!).setIfInBounds (d.size - 1) x).toList.flatMap ec) := by
    have := h
    unfold ERow FRow at this
    simpa using this
  have := own_takeK h2 (d.size - 1) (by omega)
  rw [ec_cut d x h0] at this
  unfold ERow FRow
  rw [cut_size]
  exact this
/-- behind Top: the first one stands in a new block; the last one is put in its place, the last place cleared, the row cut -/
theorem pop_worlds {w1 : World} {base hb g c last : Nat} {K : Nat} {d : Array Ent} {x y : Ent} (hs : Blk w1 hb 220 #[.func (.func K) #[] #[], .slice (some ⟨g, 0, none⟩) d.size c]) (hr : ERow w1 base g c d) (hne : hb ≠ g) (h0 : 0 < d.size) (hl : last = d.size - 1) (hy : d[last]! = y) :
    (Builtin.clear_ #[127] 0 #[.slice (some ⟨g, last * 3, none⟩) (d.size - last) (c - last)]).run Tryz.prog ((((w1.setCell ⟨g, 0, none⟩ (.int .i64 y.1)).setCell ⟨g, 1, none⟩ (.int .i64 y.2.1)).setCell ⟨g, 2, none⟩ (.int .u64 y.2.2)).alloc (.cells #[.int .i64 x.1, .int .i64 x.2.1, .int .u64 x.2.2] 130)) = .ok (.tuple #[]) (((((((w1.setCell ⟨g, 0, none⟩ (.int .i64 y.1)).setCell ⟨g, 1, none⟩ (.int .i64 y.2.1)).setCell ⟨g, 2, none⟩ (.int .u64 y.2.2)).setCell ⟨g, last * 3, none⟩ (.int .i64 0)).setCell ⟨g, last * 3 + 1, none⟩ (.int .i64 0)).setCell ⟨g, last * 3 + 2, none⟩ (.int .u64 0)).alloc (.cells #[.int .i64 x.1, .int .i64 x.2.1, .int .u64 x.2.2] 130)) ∧
    ((w1.setCell ⟨g, 0, none⟩ (.int .i64 y.1)).alloc (.cells #[.int .i64 x.1, .int .i64 x.2.1, .int .u64 x.2.2] 130)).cell? ⟨g, 1, none⟩ = some (.int .i64 d[0]!.2.1) ∧ (∀ i, ((w1.setCell ⟨g, 0, none⟩ (.int .i64 y.1)).alloc (.cells #[.int .i64 x.1, .int .i64 x.2.1, .int .u64 x.2.2] 130)).frozen? ⟨g, i, none⟩ = false) ∧ (((w1.setCell ⟨g, 0, none⟩ (.int .i64 y.1)).setCell ⟨g, 1, none⟩ (.int .i64 y.2.1)).alloc (.cells #[.int .i64 x.1, .int .i64 x.2.1, .int .u64 x.2.2] 130)).cell? ⟨g, 2, none⟩ = some (.int .u64 d[0]!.2.2) ∧ (∀ i, (((w1.setCell ⟨g, 0, none⟩ (.int .i64 y.1)).setCell ⟨g, 1, none⟩ (.int .i64 y.2.1)).alloc (.cells #[.int .i64 x.1, .int .i64 x.2.1, .int .u64 x.2.2] 130)).frozen? ⟨g, i, none⟩ = false) ∧
    (((((((w1.setCell ⟨g, 0, none⟩ (.int .i64 y.1)).setCell ⟨g, 1, none⟩ (.int .i64 y.2.1)).setCell ⟨g, 2, none⟩ (.int .u64 y.2.2)).setCell ⟨g, last * 3, none⟩ (.int .i64 0)).setCell ⟨g, last * 3 + 1, none⟩ (.int .i64 0)).setCell ⟨g, last * 3 + 2, none⟩ (.int .u64 0)).alloc (.cells #[.int .i64 x.1, .int .i64 x.2.1, .int .u64 x.2.2] 130)).cell? ⟨hb, 1, none⟩ = some (.slice (some ⟨g, 0, none⟩) d.size c) ∧ (((((((w1.setCell ⟨g, 0, none⟩ (.int .i64 y.1)).setCell ⟨g, 1, none⟩ (.int .i64 y.2.1)).setCell ⟨g, 2, none⟩ (.int .u64 y.2.2)).setCell ⟨g, last * 3, none⟩ (.int .i64 0)).setCell ⟨g, last * 3 + 1, none⟩ (.int .i64 0)).setCell ⟨g, last * 3 + 2, none⟩ (.int .u64 0)).alloc (.cells #[.int .i64 x.1, .int .i64 x.2.1, .int .u64 x.2.2] 130)).frozen? ⟨hb, 1, none⟩ = false ∧
    Blk ((((((((w1.setCell ⟨g, 0, none⟩ (.int .i64 y.1)).setCell ⟨g, 1, none⟩ (.int .i64 y.2.1)).setCell ⟨g, 2, none⟩ (.int .u64 y.2.2)).setCell ⟨g, last * 3, none⟩ (.int .i64 0)).setCell ⟨g, last * 3 + 1, none⟩ (.int .i64 0)).setCell ⟨g, last * 3 + 2, none⟩ (.int .u64 0)).setCell ⟨hb, 1, none⟩ (.slice (some ⟨g, 0, none⟩) last c)).alloc (.cells #[.int .i64 x.1, .int .i64 x.2.1, .int .u64 x.2.2] 130)) hb 220 #[.func (.func K) #[] #[], .slice (some ⟨g, 0, none⟩) last c] ∧ ERow ((((((((w1.setCell ⟨g, 0, none⟩ (.int .i64 y.1)).setCell ⟨g, 1, none⟩ (.int .i64 y.2.1)).setCell ⟨g, 2, none⟩ (.int .u64 y.2.2)).setCell ⟨g, last * 3, none⟩ (.int .i64 0)).setCell ⟨g, last * 3 + 1, none⟩ (.int .i64 0)).setCell ⟨g, last * 3 + 2, none⟩ (.int .u64 0)).setCell ⟨hb, 1, none⟩ (.slice (some ⟨g, 0, none⟩) last c)).alloc (.cells #[.int .i64 x.1, .int .i64 x.2.1, .int .u64 x.2.2] 130)) base g c (heapM.cut d) ∧
    Only (Mine hb (.slice (some ⟨g, 0, none⟩) d.size c)) w1 ((((((((w1.setCell ⟨g, 0, none⟩ (.int .i64 y.1)).setCell ⟨g, 1, none⟩ (.int .i64 y.2.1)).setCell ⟨g, 2, none⟩ (.int .u64 y.2.2)).setCell ⟨g, last * 3, none⟩ (.int .i64 0)).setCell ⟨g, last * 3 + 1, none⟩ (.int .i64 0)).setCell ⟨g, last * 3 + 2, none⟩ (.int .u64 0)).setCell ⟨hb, 1, none⟩ (.slice (some ⟨g, 0, none⟩) last c)).alloc (.cells #[.int .i64 x.1, .int .i64 x.2.1, .int .u64 x.2.2] 130)) ∧ Blk ((((((((w1.setCell ⟨g, 0, none⟩ (.int .i64 y.1)).setCell ⟨g, 1, none⟩ (.int .i64 y.2.1)).setCell ⟨g, 2, none⟩ (.int .u64 y.2.2)).setCell ⟨g, last * 3, none⟩ (.int .i64 0)).setCell ⟨g, last * 3 + 1, none⟩ (.int .i64 0)).setCell ⟨g, last * 3 + 2, none⟩ (.int .u64 0)).setCell ⟨hb, 1, none⟩ (.slice (some ⟨g, 0, none⟩) last c)).alloc (.cells #[.int .i64 x.1, .int .i64 x.2.1, .int .u64 x.2.2] 130)) w1.heap.size 130 #[.int .i64 x.1, .int .i64 x.2.1, .int .u64 x.2.2] := by
  have hgl := hr.lt
  have hhl := hs.lt
  have e2 : d.size - last = 1 := by omega
  have r1 : ERow (((w1.setCell ⟨g, 0, none⟩ (.int .i64 y.1)).setCell ⟨g, 1, none⟩ (.int .i64 y.2.1)).setCell ⟨g, 2, none⟩ (.int .u64 y.2.2)) base g c (d.setIfInBounds 0 y) := by
    have := hr.set 0 y h0
    simpa using this
  have r2 : ERow ((((((w1.setCell ⟨g, 0, none⟩ (.int .i64 y.1)).setCell ⟨g, 1, none⟩ (.int .i64 y.2.1)).setCell ⟨g, 2, none⟩ (.int .u64 y.2.2)).setCell ⟨g, last * 3, none⟩ (.int .i64 0)).setCell ⟨g, last * 3 + 1, none⟩ (.int .i64 0)).setCell ⟨g, last * 3 + 2, none⟩ (.int .u64 0)) base g c ((d.setIfInBounds 0 y).setIfInBounds last (0, 0, 0)) := r1.set last (0, 0, 0) (by simp; omega)
  have o1 : Only (Mine hb (.slice (some ⟨g, 0, none⟩) d.size c)) w1 ((((((w1.setCell ⟨g, 0, none⟩ (.int .i64 y.1)).setCell ⟨g, 1, none⟩ (.int .i64 y.2.1)).setCell ⟨g, 2, none⟩ (.int .u64 y.2.2)).setCell ⟨g, last * 3, none⟩ (.int .i64 0)).setCell ⟨g, last * 3 + 1, none⟩ (.int .i64 0)).setCell ⟨g, last * 3 + 2, none⟩ (.int .u64 0)) := Only.setCell (p := ⟨g, last * 3 + 2, none⟩) (Only.setCell (p := ⟨g, last * 3 + 1, none⟩) (Only.setCell (p := ⟨g, last * 3, none⟩) (Only.setCell (p := ⟨g, 2, none⟩) (Only.setCell (p := ⟨g, 1, none⟩) (Only.setCell (p := ⟨g, 0, none⟩) (Only.refl _ _) (.inl (.inr rfl)) _) (.inl (.inr rfl)) _) (.inl (.inr rfl)) _) (.inl (.inr rfl)) _) (.inl (.inr rfl)) _) (.inl (.inr rfl)) _
  have og : Only (· = g) w1 ((((((w1.setCell ⟨g, 0, none⟩ (.int .i64 y.1)).setCell ⟨g, 1, none⟩ (.int .i64 y.2.1)).setCell ⟨g, 2, none⟩ (.int .u64 y.2.2)).setCell ⟨g, last * 3, none⟩ (.int .i64 0)).setCell ⟨g, last * 3 + 1, none⟩ (.int .i64 0)).setCell ⟨g, last * 3 + 2, none⟩ (.int .u64 0)) := Only.setCell (S := (· = g)) (p := ⟨g, last * 3 + 2, none⟩) (Only.setCell (S := (· = g)) (p := ⟨g, last * 3 + 1, none⟩) (Only.setCell (S := (· = g)) (p := ⟨g, last * 3, none⟩) (Only.setCell (S := (· = g)) (p := ⟨g, 2, none⟩) (Only.setCell (S := (· = g)) (p := ⟨g, 1, none⟩) (Only.setCell (S := (· = g)) (p := ⟨g, 0, none⟩) (Only.refl _ _) (.inl rfl) _) (.inl rfl) _) (.inl rfl) _) (.inl rfl) _) (.inl rfl) _) (.inl rfl) _
  have s2 := Blk.only hs og hne
  have s3 := s2.set_ 1 (.slice (some ⟨g, 0, none⟩) last c)
  have hcm : ((((((w1.setCell ⟨g, 0, none⟩ (.int .i64 y.1)).setCell ⟨g, 1, none⟩ (.int .i64 y.2.1)).setCell ⟨g, 2, none⟩ (.int .u64 y.2.2)).setCell ⟨g, last * 3, none⟩ (.int .i64 0)).setCell ⟨g, last * 3 + 1, none⟩ (.int .i64 0)).setCell ⟨g, last * 3 + 2, none⟩ (.int .u64 0)).alloc (.cells #[.int .i64 x.1, .int .i64 x.2.1, .int .u64 x.2.2] 130) = ((((w1.setCell ⟨g, 0, none⟩ (.int .i64 y.1)).setCell ⟨g, 1, none⟩ (.int .i64 y.2.1)).setCell ⟨g, 2, none⟩ (.int .u64 y.2.2)).alloc (.cells #[.int .i64 x.1, .int .i64 x.2.1, .int .u64 x.2.2] 130)).setCells g (last * 3) [.int .i64 0, .int .i64 0, .int .u64 0] := by
    show _ = ((((((w1.setCell ⟨g, 0, none⟩ (.int .i64 y.1)).setCell ⟨g, 1, none⟩ (.int .i64 y.2.1)).setCell ⟨g, 2, none⟩ (.int .u64 y.2.2)).alloc (.cells #[.int .i64 x.1, .int .i64 x.2.1, .int .u64 x.2.2] 130)).setCell ⟨g, last * 3, none⟩ _).setCell ⟨g, last * 3 + 1, none⟩ _).setCell ⟨g, last * 3 + 2, none⟩ _
    rw [World.setCell_alloc_past _ _ _ _ (by simp [World.setCell]; exact hgl), World.setCell_alloc_past _ _ _ _ (by simp [World.setCell]; exact hgl), World.setCell_alloc_past _ _ _ _ (by simp [World.setCell]; exact hgl)]
  refine ⟨?_, ?_, ?_, ?_, ?_, ?_, ?_, ?_, ?_, ?_, ?_⟩
  · rw [e2, hcm]
    exact run_clear_k (P := Tryz.prog) ((((w1.setCell ⟨g, 0, none⟩ (.int .i64 y.1)).setCell ⟨g, 1, none⟩ (.int .i64 y.2.1)).setCell ⟨g, 2, none⟩ (.int .u64 y.2.2)).alloc (.cells #[.int .i64 x.1, .int .i64 x.2.1, .int .u64 x.2.2] 130)) 127 130 0 (.agg #[.int .i64 0, .int .i64 0, .int .u64 0]) Tryz.underlying127 ent_zero (by simp [Value.cells, Value.oneCell']) g (last * 3) (c - last)
      (fun j hj => by
        have hj2 : j < 3 := hj
        have := FRow.cell (r1.alloc_ (.cells #[.int .i64 x.1, .int .i64 x.2.1, .int .u64 x.2.2] 130)) ec_len last j (by simp; omega) hj2
        rw [this]
        simp [ec, hj2]) (fun j hj => (r1.alloc_ (.cells #[.int .i64 x.1, .int .i64 x.2.1, .int .u64 x.2.2] 130)).frozen _)
  · have b := hr.c2 0 h0
    simp only [Nat.zero_mul, Nat.zero_add] at b
    rw [World.cell?_alloc_lt _ _ _ (by simp [World.setCell]; exact hgl), World.cell?_setCell_other _ _ _ _ (by simp)]
    exact b
  · intro i
    have := hr.frozen i
    rw [World.frozen?_alloc_past _ _ _ (by simp [World.setCell]; exact hgl), World.frozen?_setCell]
    exact this
  · have b := hr.c3 0 h0
    simp only [Nat.zero_mul, Nat.zero_add] at b
    rw [World.cell?_alloc_lt _ _ _ (by simp [World.setCell]; exact hgl), World.cell?_setCell_other _ _ _ _ (by simp), World.cell?_setCell_other _ _ _ _ (by simp)]
    exact b
  · intro i
    have := hr.frozen i
    rw [World.frozen?_alloc_past _ _ _ (by simp [World.setCell]; exact hgl), World.frozen?_setCell, World.frozen?_setCell]
    exact this
  · exact (s2.alloc (.cells #[.int .i64 x.1, .int .i64 x.2.1, .int .u64 x.2.2] 130)).cell 1
  · exact (s2.alloc (.cells #[.int .i64 x.1, .int .i64 x.2.1, .int .u64 x.2.2] 130)).frozen 1
  · exact s3.alloc _
  · refine ERow.alloc_ (ERow.only (S := fun i => i = hb) ?_ (Only.setCell (S := fun i => i = hb) (p := ⟨hb, 1, none⟩) (Only.refl _ _) (.inl rfl) _) (fun e => hne e.symm)) _
    have r3 := r2
    rw [← hy, hl] at r3
    have := ERow.cut (x := (0, 0, 0)) r3 h0
    rw [← hl, hy] at this
    exact this
  · exact (Only.setCell (p := ⟨hb, 1, none⟩) o1 (.inl (.inl rfl)) _).alloc _
  · have := Blk.new (((((((w1.setCell ⟨g, 0, none⟩ (.int .i64 y.1)).setCell ⟨g, 1, none⟩ (.int .i64 y.2.1)).setCell ⟨g, 2, none⟩ (.int .u64 y.2.2)).setCell ⟨g, last * 3, none⟩ (.int .i64 0)).setCell ⟨g, last * 3 + 1, none⟩ (.int .i64 0)).setCell ⟨g, last * 3 + 2, none⟩ (.int .u64 0)).setCell ⟨hb, 1, none⟩ (.slice (some ⟨g, 0, none⟩) last c)) 130 #[.int .i64 x.1, .int .i64 x.2.1, .int .u64 x.2.2]
    rwa [show (((((((w1.setCell ⟨g, 0, none⟩ (.int .i64 y.1)).setCell ⟨g, 1, none⟩ (.int .i64 y.2.1)).setCell ⟨g, 2, none⟩ (.int .u64 y.2.2)).setCell ⟨g, last * 3, none⟩ (.int .i64 0)).setCell ⟨g, last * 3 + 1, none⟩ (.int .i64 0)).setCell ⟨g, last * 3 + 2, none⟩ (.int .u64 0)).setCell ⟨hb, 1, none⟩ (.slice (some ⟨g, 0, none⟩) last c)).heap.size = w1.heap.size by simp] at this
set_option maxRecDepth 100000 in
set_option maxHeartbeats 800000 in
theorem pop_ent {base hb : Nat} {v : Value} {K : Nat} {d : Array Ent} (cf : Ent → Ent → Int) (hK : Enters Tryz.prog K) (hO : Ordr K tE cf) (hS : SWO (lf cf)) (w : World) (h : EHp w base hb v K d) (hH : Heap (lf cf) d) (h0 : 0 < d.size) (hsz : d.size < 2305843009213693952) :
    Calls Tryz.prog 140 #[.pointer (some ⟨hb, 0, none⟩)] w fun e w' =>
      e = .returned (.tuple #[tE d[0]!, .bool true]) ∧ Only (Mine hb v) w w' ∧ ∃ v' d', EHp w' base hb v' K d' ∧ Heap (lf cf) d' ∧ (d[0]! :: d'.toList).Perm d.toList ∧ v'.ownBlock = v.ownBlock := by
  have hb1 : Below w.heap.size w (w.alloc (.cells #[.int .i64 0, .int .i64 0, .int .u64 0] 130)) := (Below.refl _ _).alloc (Nat.le_refl _) _
  have h1 := h.below hb1 (Nat.le_refl _)
  have HT := top_ent h1
  unfold topE tE at HT
  rw [if_neg (by omega)] at HT
  have HT2 := Lib.hid HT
  have hl1 : Blk (w.alloc (.cells #[.int .i64 0, .int .i64 0, .int .u64 0] 130)) w.heap.size 130 #[.int .i64 0, .int .i64 0, .int .u64 0] := Blk.new _ _ _
  have hhl := h.lt
  obtain ⟨g, c, rfl, hr, hne⟩ := h1.form h0
  obtain ⟨hs, -, -⟩ := h1
  have hgw : g < w.heap.size := (own_lt h.2.1 (g := g) rfl).2
  have hR := fun W v => sink_ent K hb v cf hK hO hS base g c (cut d) W
  rw [cut_size] at hR
  have HR := Lib.hid hR
  have HCD := Lib.hid (cut_down hH)
  have HCP := Lib.hid (cut_perm h0)
  have hcap := own_cap hr
  obtain ⟨last, hlast⟩ : ∃ last, last = d.size - 1 := ⟨_, rfl⟩
  have i0 : IntKind.i64.wrap ((d.size : Int) - 1) = (last : Int) := by rw [IntKind.wrap_i64]; omega
  have i1 : (0 : Int) < (d.size : Int) := by omega
  have i2 : (last : Int) < (d.size : Int) := by omega
  have i3 : (last : Int) ≤ (d.size : Int) := by omega
  have i5 : (last : Int) ≤ (c : Int) := by omega
  have hnc : ¬ c = last := by omega
  have hnd : decide (c = last) = false := decide_eq_false hnc
  obtain ⟨x, hx⟩ : ∃ x, d[0]! = x := ⟨_, rfl⟩
  obtain ⟨y, hy⟩ : ∃ y, d[last]! = y := ⟨_, rfl⟩
  have hpw := fun (w1 : World) (hs : Blk w1 hb 220 #[.func (.func K) #[] #[], .slice (some ⟨g, 0, none⟩) d.size c]) (hr : ERow w1 base g c d) => pop_worlds (w1 := w1) (base := base) (x := x) (y := y) hs hr hne h0 hlast hy
  have hq := fun (w1 : World) (hr : ERow w1 base g c d) => And.intro (hr.c1 0 h0) (And.intro (hr.c1 last (by omega)) (And.intro (hr.c2 last (by omega)) (And.intro (hr.c3 last (by omega)) hr.frozen)))
  rw [hx] at HT2 HCP hpw hq ⊢
  rw [hy] at hq
  rw [← hlast] at HR
  unfold tE
  have HPW := Lib.hid hpw
  have HQ := Lib.hid hq
  have HHS := Lib.hid hs
  have HHR := Lib.hid hr
  have HHL := Lib.hid hl1
  have HB1 := Lib.hid hb1
  have HX := Lib.hid hx
  have HY := Lib.hid hy
  have HLA := Lib.hid hlast
  clear hx hy hlast HT hR hK hO hpw hq hs hr hl1 hb1 h hcap
  go_enter Tryz.func140, Tryz.ntmps140
  go_wp2_with (fail)
  refine HT2.out.mono ?_
  rintro e w1 ⟨rfl, hb2⟩
  have hs1 := HHS.out.below hb2 (HHS.out.lt)
  have hr1 := HHR.out.below hb2 (Nat.le_refl _)
  have hg1 : g < w1.heap.size := hr1.lt
  have hh1 : hb < w1.heap.size := hs1.lt
  obtain ⟨k1, k2, k3, kA, kB, k4, k5, k6, k7, k8, k9⟩ := HPW.out w1 hs1 hr1
  obtain ⟨q0, q1, q2, qA, q3⟩ := HQ.out (w1.alloc (.cells #[.int .i64 x.1, .int .i64 x.2.1, .int .u64 x.2.2] 130)) (hr1.alloc_ _)
  have q4 : (w1.alloc (.cells #[.int .i64 x.1, .int .i64 x.2.1, .int .u64 x.2.2] 130)).cell? ⟨hb, 1, none⟩ = some (.slice (some ⟨g, 0, none⟩) d.size c) := (hs1.alloc _).cell 1
  have fa := q3 0
  have fb := q3 1
  have fd := q3 2
  have fc := k3 1
  have fe := k3 2
  have ff := kB 2
  have d1 := k6.cell 1
  simp only [List.getElem?_toArray, List.getElem?_cons_succ, List.getElem?_cons_zero] at d1
  simp only [Nat.zero_mul] at q0
  have hbl1 := HHL.out.below hb2 HHL.out.lt
  have hz : w.heap.size < w1.heap.size := hbl1.lt
  have how1 : Only (Mine hb (.slice (some ⟨g, 0, none⟩) d.size c)) w w1 := (Only.of_below HB1.out (Nat.le_refl _) _).on hb2
  obtain ⟨V, hV⟩ : ∃ V, V = (((((((w1.setCell ⟨g, 0, none⟩ (.int .i64 y.1)).setCell ⟨g, 1, none⟩ (.int .i64 y.2.1)).setCell ⟨g, 2, none⟩ (.int .u64 y.2.2)).setCell ⟨g, last * 3, none⟩ (.int .i64 0)).setCell ⟨g, last * 3 + 1, none⟩ (.int .i64 0)).setCell ⟨g, last * 3 + 2, none⟩ (.int .u64 0)).setCell ⟨hb, 1, none⟩ (.slice (some ⟨g, 0, none⟩) last c)).alloc (.cells #[.int .i64 x.1, .int .i64 x.2.1, .int .u64 x.2.2] 130) := ⟨_, rfl⟩
  have HVV := Lib.hid hV
  rw [← hV] at k6 k7 k8 k9
  clear hV
  have hnw : ¬ Mine hb (.slice (some ⟨g, 0, none⟩) d.size c) w.heap.size := fun e => by
    rcases e with e | e
    · omega
    · simp only [Value.ownBlock, Option.some.injEq] at e; omega
  have hbl2 := Blk.only hbl1 k8 hnw
  have hoV := how1.trans k8 fun i e => .inl e
  have HE : Hid (∀ W, Only (· = g) V W → Only (Mine hb (.slice (some ⟨g, 0, none⟩) d.size c)) w W ∧ Blk W hb 220 #[.func (.func K) #[] #[], .slice (some ⟨g, 0, none⟩) last c] ∧ Blk W w.heap.size 130 #[.int .i64 0, .int .i64 0, .int .u64 0] ∧ Blk W w1.heap.size 130 #[.int .i64 x.1, .int .i64 x.2.1, .int .u64 x.2.2]) := Lib.hid fun W hW =>
    ⟨hoV.trans hW fun i e => .inl (.inr (by rw [e]; rfl)), Blk.only k6 hW hne, Blk.only hbl2 hW (by omega), Blk.only k9 hW (by omega)⟩
  have HR2 := Lib.hid (HR.out _ _ k6 k7 hne HCD.out (by omega))
  clear k3 kB k6 k7 k8 k9 q3 hs1 hr1 hb2 hbl1 how1 hnw hbl2 hoV HR
  go_wp2_with (fail)
  rw [← HVV.out]
  clear k1 k2 kA k4 k5 q0 q1 q2 qA q4 fa fb fc fd fe ff d1 HVV
  refine HR2.out.mono ?_
  rintro e w5 ⟨rfl, ho, d', hd', hp', hH', hr'⟩
  obtain ⟨m1, m2, m3, m4⟩ := HE.out w5 ho
  have z0 := m3.cell 0
  have z1 := m3.cell 1
  have z2 := m3.cell 2
  have y0 := m4.cell 0
  have y1 := m4.cell 1
  have y2 := m4.cell 2
  have f0 := m3.frozen 0
  have f1 := m3.frozen 1
  have f2 := m3.frozen 2
  simp only [List.getElem?_toArray, List.getElem?_cons_succ, List.getElem?_cons_zero] at z0 z1 z2 y0 y1 y2
  have hh5 := m2.lt
  have o6 : Only (Mine hb (.slice (some ⟨g, 0, none⟩) d.size c)) w (((w5.setCell ⟨w.heap.size, 0, none⟩ (.int .i64 x.1)).setCell ⟨w.heap.size, 1, none⟩ (.int .i64 x.2.1)).setCell ⟨w.heap.size, 2, none⟩ (.int .u64 x.2.2)) :=
    Only.setCell (p := ⟨w.heap.size, 2, none⟩) (Only.setCell (p := ⟨w.heap.size, 1, none⟩) (Only.setCell (p := ⟨w.heap.size, 0, none⟩) m1 (.inr (Nat.le_refl _)) _) (.inr (Nat.le_refl _)) _) (.inr (Nat.le_refl _)) _
  have b6 := ((m3.set_ 0 (.int .i64 x.1)).set_ 1 (.int .i64 x.2.1)).set_ 2 (.int .u64 x.2.2)
  have h6 : EHp (((w5.setCell ⟨w.heap.size, 0, none⟩ (.int .i64 x.1)).setCell ⟨w.heap.size, 1, none⟩ (.int .i64 x.2.1)).setCell ⟨w.heap.size, 2, none⟩ (.int .u64 x.2.2)) base hb (.slice (some ⟨g, 0, none⟩) last c) K d' := by
    refine EHp.only (S := (· = w.heap.size)) (w := w5) ⟨m2, by rw [← hd']; exact hr', by simp only [Value.ownBlock]; intro e; exact hne (by injection e with e; exact e.symm)⟩ (Only.setCell (S := (· = w.heap.size)) (p := ⟨w.heap.size, 2, none⟩) (Only.setCell (S := (· = w.heap.size)) (p := ⟨w.heap.size, 1, none⟩) (Only.setCell (S := (· = w.heap.size)) (p := ⟨w.heap.size, 0, none⟩) (Only.refl _ _) (.inl rfl) _) (.inl rfl) _) (.inl rfl) _) fun i e => ?_
    rcases e with e | e
    · omega
    · simp only [Value.ownBlock, Option.some.injEq] at e; omega
  have k3 : (x :: d'.toList).Perm d.toList := (List.Perm.cons x hp').trans HCP.out
  have w0 : (((w5.setCell ⟨w.heap.size, 0, none⟩ (.int .i64 x.1)).setCell ⟨w.heap.size, 1, none⟩ (.int .i64 x.2.1)).setCell ⟨w.heap.size, 2, none⟩ (.int .u64 x.2.2)).cell? ⟨w.heap.size, 0, none⟩ = some (.int .i64 x.1) := b6.cell 0
  have w1' : (((w5.setCell ⟨w.heap.size, 0, none⟩ (.int .i64 x.1)).setCell ⟨w.heap.size, 1, none⟩ (.int .i64 x.2.1)).setCell ⟨w.heap.size, 2, none⟩ (.int .u64 x.2.2)).cell? ⟨w.heap.size, 1, none⟩ = some (.int .i64 x.2.1) := b6.cell 1
  have w2' : (((w5.setCell ⟨w.heap.size, 0, none⟩ (.int .i64 x.1)).setCell ⟨w.heap.size, 1, none⟩ (.int .i64 x.2.1)).setCell ⟨w.heap.size, 2, none⟩ (.int .u64 x.2.2)).cell? ⟨w.heap.size, 2, none⟩ = some (.int .u64 x.2.2) := b6.cell 2
  have KK := Lib.hid (And.intro o6 (And.intro h6 (And.intro k3 (And.intro w0 (And.intro w1' w2')))))
  clear o6 h6 k3 b6 w0 w1' w2' hp' hr' ho m1 m2 m3 m4 HE
  go_wp2_with (fail)
  obtain ⟨V6, hV6⟩ : ∃ V6, V6 = (((w5.setCell ⟨w.heap.size, 0, none⟩ (.int .i64 x.1)).setCell ⟨w.heap.size, 1, none⟩ (.int .i64 x.2.1)).setCell ⟨w.heap.size, 2, none⟩ (.int .u64 x.2.2)) := ⟨_, rfl⟩
  rw [← hV6] at KK ⊢
  clear hV6
  obtain ⟨o6, h6, k3, w0, w1', w2'⟩ := KK.out
  refine bodyPost_ret (v := .tuple #[.agg #[.int .i64 x.1, .int .i64 x.2.1, .int .u64 x.2.2], .bool true]) (by simp [results, Tryz.results140, go_sem, w0, w1', w2']) rfl ?_
  exact ⟨rfl, o6, _, d', h6, hH', k3, rfl⟩
end Go.Proofs.YtpmjpolnoaigoaaGreat.fro
