/-
  The order of best's heap (hits.Cmp turned round) and Heap.compare at hits, of any order that tells an int and leaves what there was.
-/
import Derived.Test.YtbpahlhmdbahjaaHitC
import Derived.Test.YtbpahlhmdbahjaaHeapM
import Derived.Test.YtbpahlhmdbahjaaHitR
import Derived.Defers
import Derived.Recover
import Derived.Deep.LoopGhost
import Derived.WalkSpells
namespace Go.Proofs.Ytbpahlhmdbahjaa.best
open Go.RowKit law bytes only flat hit heapM Go.Sort Go.Shelf
set_option linter.unusedVariables false

/-- a hit as a value -/
def tE (x : Hit) : Value := .agg #[.int .u64 x.1, .int .i64 x.2]
def lf {α : Type} (cf : α → α → Int) (x y : α) : Bool := decide (cf x y < 0)
/-- an order: a function value that tells cf of values, in whatever world, and leaves what there was -/
def Ordr {α : Type} (K : Nat) (E : α → Value) (cf : α → α → Int) : Prop := ∀ (W : World) (x y : α), Calls Try.prog K #[E x, E y] W fun e w' => e = .returned (.int .i64 (cf x y)) ∧ Below W.heap.size W w'
/-- the order turned round -/
def cB (x y : Hit) : Int := cf y x
theorem cB_lt (x y : Hit) : lf cB x y = lt y x := cf_lt y x
theorem cB_swo : SWO (lf cB) where
  irrefl x := by rw [cB_lt]; exact swo.irrefl x
  trans x y z h1 h2 := by rw [cB_lt] at *; exact swo.trans _ _ _ h2 h1
  ntrans x y z h1 h2 := by rw [cB_lt] at *; exact swo.ntrans _ _ _ h2 h1
set_option maxRecDepth 100000 in
set_option maxHeartbeats 1600000 in
theorem border_any (x y : Hit) (w : World) : Calls Try.prog 16 #[tE x, tE y] w fun e w' => e = .returned (.int .i64 (cB x y)) ∧ Below w.heap.size w w' := by
  unfold tE cB
  have HO : Hid (∀ W, Calls Try.prog 17 #[.agg #[.int .u64 y.1, .int .i64 y.2], .agg #[.int .u64 x.1, .int .i64 x.2]] W fun e w' => e = .returned (.int .i64 (cf y x)) ∧ Below W.heap.size W w') := Lib.hid fun W => cmp_any y x W
  obtain ⟨V, hV⟩ : ∃ V, V = (w.alloc (.cells #[.int .u64 x.1, .int .i64 x.2] 30)).alloc (.cells #[.int .u64 y.1, .int .i64 y.2] 30) := ⟨_, rfl⟩
  have hb : Below w.heap.size w V := by rw [hV]; exact ((Below.refl _ _).alloc (Nat.le_refl _) _).alloc (by simp) _
  have HB := Lib.hid hb
  have HV := Lib.hid hV
  clear hV hb
  generalize cf y x = r at HO ⊢
  go_enter Try.func16, Try.ntmps16
  go_wp2_with (go_at_call 17; (with_reducible refine (HO.out _).mono ?_); rintro e w' ⟨rfl, hb'⟩)
  go_ret
  rw [← HV.out] at hb'
  exact ⟨rfl, HB.out.trans (hb'.mono HB.out.size)⟩
theorem border_enters : Enters Try.prog 16 := enters_of Try.func16 (by kernel_rfl) rfl
theorem border_tells : Ordr (α := Hit) 16 tE cB := fun W x y => border_any x y W
theorem idle_hit (p : Addr) (w : World) :
    CallsD Try.prog 42 #[.pointer (some p)] .returning w fun e u' w' => e = .returned (.tuple #[]) ∧ u' = .returning ∧ w' = w := by
  refine callsD_of_wpS Try.func42 rfl fun c₀ cs hu => ?_
  apply wpS_seq
  apply wpS_region
  simp [wpOpsS, go_sem, recoverD, hu, Try.ntmps42, Exit.thenS]
  refine wpS_cond (t := false) (by simp [Act.eval, Array.replicate]) ?_
  simp only [Bool.false_eq_true, if_false]
  refine wpS_of_wp (wp_skip ?_)
  cases c₀
  simp_all [bodyPostS, results, Try.results42]

/-- what compare's memory holds: the heap's order, both things, what is told -/
def CmpS (hb b : Nat) (K : Nat) (x y : Hit) (W : World) : Prop :=
  W.cell? ⟨hb, 0, none⟩ = some (.func (.func K) #[] #[]) ∧ W.cell? ⟨b, 0, none⟩ = some (.int .u64 x.1) ∧ W.cell? ⟨b, 1, none⟩ = some (.int .i64 x.2) ∧ W.cell? ⟨b + 1, 0, none⟩ = some (.int .u64 y.1) ∧ W.cell? ⟨b + 1, 1, none⟩ = some (.int .i64 y.2) ∧ W.cell? ⟨b + 1 + 1, 0, none⟩ = some (.int .i64 0) ∧ W.frozen? ⟨b + 1 + 1, 0, none⟩ = false
set_option maxRecDepth 100000 in
set_option maxHeartbeats 1600000 in
theorem compare_hit (K hb : Nat) (v : Value) (cf : Hit → Hit → Int) (hK : Enters Try.prog K) (x y : Hit) (w : World) (hs : Blk w hb 51 #[.func (.func K) #[] #[], v]) (hO : Ordr K tE cf) :
    Calls Try.prog 36 #[.pointer (some ⟨hb, 0, none⟩), tE x, tE y] w fun e w' => e = .returned (.int .i64 (cf x y)) ∧ Below w.heap.size w w' := by
  have hmf : ∀ (fn : Fn) (first cap : Array Value) (w : World), (Instr.makeFunc fn first cap).run Try.prog w = .ok (.func fn first cap) w := fun _ _ _ _ => rfl
  obtain ⟨V, hV⟩ : ∃ V, V = ((w.alloc (.cells #[.int .u64 x.1, .int .i64 x.2] 30)).alloc (.cells #[.int .u64 y.1, .int .i64 y.2] 30)).alloc (.cells #[.int .i64 0] 3) := ⟨_, rfl⟩
  have hbV : Below w.heap.size w V := by rw [hV]; exact (((Below.refl _ _).alloc (Nat.le_refl _) _).alloc (by simp) _).alloc (by simp; omega) _
  have b1 : Blk V w.heap.size 30 #[.int .u64 x.1, .int .i64 x.2] := by rw [hV]; exact ((Blk.new w _ _).alloc _).alloc _
  have b2 : Blk V (w.heap.size + 1) 30 #[.int .u64 y.1, .int .i64 y.2] := by
    rw [hV]
    have := Blk.new (w.alloc (.cells #[.int .u64 x.1, .int .i64 x.2] 30)) 30 #[.int .u64 y.1, .int .i64 y.2]
    rw [show (w.alloc (.cells #[.int .u64 x.1, .int .i64 x.2] 30)).heap.size = w.heap.size + 1 by simp] at this
    exact this.alloc _
  have b3 : Blk V (w.heap.size + 2) 3 #[.int .i64 0] := by
    rw [hV]
    have := Blk.new ((w.alloc (.cells #[.int .u64 x.1, .int .i64 x.2] 30)).alloc (.cells #[.int .u64 y.1, .int .i64 y.2] 30)) 3 #[.int .i64 0]
    rwa [show ((w.alloc (.cells #[.int .u64 x.1, .int .i64 x.2] 30)).alloc (.cells #[.int .u64 y.1, .int .i64 y.2] 30)).heap.size = w.heap.size + 2 by simp] at this
  have hsV := hs.below hbV hs.lt
  have hS : ∀ W, Below V.heap.size V W → CmpS hb w.heap.size K x y W := fun W hW =>
    ⟨(hsV.below hW hsV.lt).cell 0, (b1.below hW b1.lt).cell 0, (b1.below hW b1.lt).cell 1, (b2.below hW b2.lt).cell 0, (b2.below hW b2.lt).cell 1, (b3.below hW b3.lt).cell 0, (b3.below hW b3.lt).frozen 0⟩
  have hC : ∀ W, Below V.heap.size V W → Calls Try.prog K #[tE x, tE y] W fun e w' => e = .returned (.int .i64 (cf x y)) ∧ Below V.heap.size V w' := fun W hW => (hO W x y).mono fun e w' ⟨he, h⟩ => ⟨he, hW.trans (h.mono hW.size)⟩
  have hE : ∀ W r, Below V.heap.size V W → Below w.heap.size w (W.setCell ⟨w.heap.size + 1 + 1, 0, none⟩ r) := fun W r hW => (hbV.trans (hW.mono hbV.size)).setCell (p := ⟨w.heap.size + 1 + 1, 0, none⟩) (by simp only; omega) _
  have hS2 : ∀ (W : World) r, Below V.heap.size V W → (W.setCell ⟨w.heap.size + 1 + 1, 0, none⟩ r).cell? ⟨hb, 0, none⟩ = some (.func (.func K) #[] #[]) ∧ (W.setCell ⟨w.heap.size + 1 + 1, 0, none⟩ r).cell? ⟨w.heap.size, 0, none⟩ = some (.int .u64 x.1) ∧ (W.setCell ⟨w.heap.size + 1 + 1, 0, none⟩ r).cell? ⟨w.heap.size, 1, none⟩ = some (.int .i64 x.2) ∧ (W.setCell ⟨w.heap.size + 1 + 1, 0, none⟩ r).cell? ⟨w.heap.size + 1, 0, none⟩ = some (.int .u64 y.1) ∧ (W.setCell ⟨w.heap.size + 1 + 1, 0, none⟩ r).cell? ⟨w.heap.size + 1, 1, none⟩ = some (.int .i64 y.2) := fun W r hW =>
    have hl := hs.lt
    ⟨((hsV.below hW hsV.lt).far (p := ⟨w.heap.size + 1 + 1, 0, none⟩) (by simp; omega) _).cell 0, ((b1.below hW b1.lt).far (p := ⟨w.heap.size + 1 + 1, 0, none⟩) (by simp; omega) _).cell 0, ((b1.below hW b1.lt).far (p := ⟨w.heap.size + 1 + 1, 0, none⟩) (by simp; omega) _).cell 1, ((b2.below hW b2.lt).far (p := ⟨w.heap.size + 1 + 1, 0, none⟩) (by simp) _).cell 0, ((b2.below hW b2.lt).far (p := ⟨w.heap.size + 1 + 1, 0, none⟩) (by simp) _).cell 1⟩
  have hS1 : ∀ W, Below V.heap.size V W → W.cell? ⟨hb, 0, none⟩ = some (.func (.func K) #[] #[]) ∧ W.cell? ⟨w.heap.size, 0, none⟩ = some (.int .u64 x.1) ∧ W.cell? ⟨w.heap.size, 1, none⟩ = some (.int .i64 x.2) ∧ W.cell? ⟨w.heap.size + 1, 0, none⟩ = some (.int .u64 y.1) ∧ W.cell? ⟨w.heap.size + 1, 1, none⟩ = some (.int .i64 y.2) := fun W hW =>
    have h := hS W hW
    ⟨h.1, h.2.1, h.2.2.1, h.2.2.2.1, h.2.2.2.2.1⟩
  have HS1 := Lib.hid hS1
  have HS2 := Lib.hid hS2
  have HC := Lib.hid hC
  have HS := Lib.hid hS
  have HE := Lib.hid hE
  clear hO hs hbV b1 b2 b3 hsV hC hS hE hS1 hS2
  have hK' : ∀ (args : Array Value) (w : World), (callFunc K args).run Try.prog w = .ok (.enter K args) w := hK
  clear hK
  unfold tE at HC ⊢
  generalize cf x y = r at HC ⊢
  go_enter_defers Try.func36, Try.ntmps36
  go_wp2_with (fail)
  rw [← hV]
  clear hV
  obtain ⟨q0, q1, q2, q3, q4, q5, q6⟩ := HS.out V (Below.refl _ _)
  generalize hbz : w.heap.size = b at HS HS1 HS2 HE q0 q1 q2 q3 q4 q5 q6 ⊢
  have HBZ := Lib.hid hbz
  clear hbz
  go_region_held3 (fun W => W.cell? ⟨hb, 0, none⟩ = some (.func (.func K) #[] #[]) ∧ W.cell? ⟨b, 0, none⟩ = some (.int .u64 x.1) ∧ W.cell? ⟨b, 1, none⟩ = some (.int .i64 x.2) ∧ W.cell? ⟨b + 1, 0, none⟩ = some (.int .u64 y.1) ∧ W.cell? ⟨b + 1, 1, none⟩ = some (.int .i64 y.2)) ((first | (refine HS2.out _ _ ?_; repeat' (first | (with_reducible exact Below.refl _ _) | (with_reducible assumption) | (with_reducible refine Below.drew ?_) | (with_reducible refine below_drewN' ?_ _))) | (refine HS1.out _ ?_; repeat' (first | (with_reducible exact Below.refl _ _) | (with_reducible assumption) | (with_reducible refine Below.drew ?_) | (with_reducible refine below_drewN' ?_ _)))))
    (first
      | ((with_reducible refine (HC.out _ (by repeat' (first | (with_reducible exact Below.refl _ _) | (with_reducible assumption) | (with_reducible refine Below.drew ?_) | (with_reducible refine below_drewN' ?_ _)))).mono ?_); rintro e w2 ⟨rfl, hb2⟩; have t0 := (HS.out _ hb2).2.2.2.2.2.1; have tf := (HS.out _ hb2).2.2.2.2.2.2))
  have HE2 := Lib.hid (HE.out w2 (.int .i64 r) hb2)
  have t1 : (w2.setCell ⟨b + 1 + 1, 0, none⟩ (.int .i64 r)).cell? ⟨b + 1 + 1, 0, none⟩ = some (.int .i64 r) := World.cell?_setCell_same _ _ _ t0
  clear t0 tf q0 q1 q2 q3 q4 q5 q6 HE HS HS1 HS2 HC
  go_wp2_with (fail)
  refine leaves_cons (f := 42) (args := #[.pointer (some ⟨b + 1 + 1, 0, none⟩)]) (by simp) (by simp [go_sem]) ?_
  refine (idle_hit ⟨b + 1 + 1, 0, none⟩ _).mono ?_
  rintro e u' w'' ⟨rfl, rfl, rfl⟩
  simp [Leaves, settle, results, Try.results36, go_sem]
  rw [t1]
  exact ⟨_, rfl, rfl, by rw [HBZ.out]; exact HE2.out⟩
end Go.Proofs.Ytbpahlhmdbahjaa.best
