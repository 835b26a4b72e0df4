/-
  The contracts of the law's order of pairs and of Heap.compare at pairs.
-/
import Derived.Test.YtcnncfjplmejhaaHLives
import Derived.Test.YtcnncfjplmejhaaFlat
namespace Go.Proofs.Ytcnncfjplmejhaa.heap
open Go.RowKit law bytes only flat Go.Shelf
set_option linter.unusedVariables false

/-- a pair as a value, as cells -/
def pE (x : Int × Int) : Value := .agg #[.int .i64 x.1, .int .i64 x.2]
def pC (x : Int × Int) : List Value := [.int .i64 x.1, .int .i64 x.2]
theorem pC_len (x : Int × Int) : (pC x).length = 2 := rfl
def cP (x y : Int × Int) : Int := cI x.1 y.1
set_option maxRecDepth 100000 in
set_option maxHeartbeats 1600000 in
theorem porder_any (x y : Int × Int) (w : World) : Calls Try.prog 17 #[pE x, pE y] w fun e w' => e = .returned (.int .i64 (cP x y)) ∧ Below w.heap.size w w' := by
  unfold pE cP
  have HO := fun W => order_any x.1 y.1 W
  obtain ⟨V, hV⟩ : ∃ V, V = (w.alloc (.cells #[.int .i64 x.1, .int .i64 x.2] 42)).alloc (.cells #[.int .i64 y.1, .int .i64 y.2] 42) := ⟨_, rfl⟩
  have hb : Below w.heap.size w V := by rw [hV]; exact ((Below.refl _ _).alloc (Nat.le_refl _) _).alloc (by simp) _
  have HB := Lib.hid hb
  have HV := Lib.hid hV
  clear hV hb
  generalize cI x.1 y.1 = r at HO ⊢
  go_enter Try.func17, Try.ntmps17
  go_wp2_with (go_at_call 7; (with_reducible refine (HO _).mono ?_); rintro e w' ⟨rfl, rfl⟩)
  go_ret
  exact ⟨rfl, by rw [← HV.out]; exact HB.out⟩
theorem idle_pair (p : Addr) (w : World) :
    CallsD Try.prog 43 #[.pointer (some p)] .returning w fun e u' w' => e = .returned (.tuple #[]) ∧ u' = .returning ∧ w' = w := by
  refine callsD_of_wpS Try.func43 rfl fun c₀ cs hu => ?_
  apply wpS_seq
  apply wpS_region
  simp [wpOpsS, go_sem, recoverD, hu, Try.ntmps43, Exit.thenS]
  refine wpS_cond (t := false) (by simp [Act.eval, Array.replicate]) ?_
  simp only [Bool.false_eq_true, if_false]
  refine wpS_of_wp (wp_skip ?_)
  cases c₀
  simp_all [bodyPostS, results, Try.results43]

/-- what compare's memory holds: the heap's order, both things, what is told -/
def CmpS (hb b : Nat) (K : Nat) (x y : Int × Int) (W : World) : Prop :=
  W.cell? ⟨hb, 0, none⟩ = some (.func (.func K) #[] #[]) ∧ W.cell? ⟨b, 0, none⟩ = some (.int .i64 x.1) ∧ W.cell? ⟨b, 1, none⟩ = some (.int .i64 x.2) ∧ W.cell? ⟨b + 1, 0, none⟩ = some (.int .i64 y.1) ∧ W.cell? ⟨b + 1, 1, none⟩ = some (.int .i64 y.2) ∧ W.cell? ⟨b + 1 + 1, 0, none⟩ = some (.int .i64 0) ∧ W.frozen? ⟨b + 1 + 1, 0, none⟩ = false
set_option maxRecDepth 100000 in
set_option maxHeartbeats 1600000 in
theorem compare_pair (K hb : Nat) (v : Value) (cf : Int × Int → Int × Int → Int) (hK : Enters Try.prog K) (x y : Int × Int) (w : World) (hs : Blk w hb 55 #[.func (.func K) #[] #[], v]) (hO : Ordr K pE cf) :
    Calls Try.prog 31 #[.pointer (some ⟨hb, 0, none⟩), pE x, pE y] w fun e w' => e = .returned (.int .i64 (cf x y)) ∧ Below w.heap.size w w' := by
  have hmf : ∀ (fn : Fn) (first cap : Array Value) (w : World), (Instr.makeFunc fn first cap).run Try.prog w = .ok (.func fn first cap) w := fun _ _ _ _ => rfl
  obtain ⟨V, hV⟩ : ∃ V, V = ((w.alloc (.cells #[.int .i64 x.1, .int .i64 x.2] 42)).alloc (.cells #[.int .i64 y.1, .int .i64 y.2] 42)).alloc (.cells #[.int .i64 0] 3) := ⟨_, rfl⟩
  have hbV : Below w.heap.size w V := by rw [hV]; exact (((Below.refl _ _).alloc (Nat.le_refl _) _).alloc (by simp) _).alloc (by simp; omega) _
  have b1 : Blk V w.heap.size 42 #[.int .i64 x.1, .int .i64 x.2] := by rw [hV]; exact ((Blk.new w _ _).alloc _).alloc _
  have b2 : Blk V (w.heap.size + 1) 42 #[.int .i64 y.1, .int .i64 y.2] := by
    rw [hV]
    have := Blk.new (w.alloc (.cells #[.int .i64 x.1, .int .i64 x.2] 42)) 42 #[.int .i64 y.1, .int .i64 y.2]
    rw [show (w.alloc (.cells #[.int .i64 x.1, .int .i64 x.2] 42)).heap.size = w.heap.size + 1 by simp] at this
    exact this.alloc _
  have b3 : Blk V (w.heap.size + 2) 3 #[.int .i64 0] := by
    rw [hV]
    have := Blk.new ((w.alloc (.cells #[.int .i64 x.1, .int .i64 x.2] 42)).alloc (.cells #[.int .i64 y.1, .int .i64 y.2] 42)) 3 #[.int .i64 0]
    rwa [show ((w.alloc (.cells #[.int .i64 x.1, .int .i64 x.2] 42)).alloc (.cells #[.int .i64 y.1, .int .i64 y.2] 42)).heap.size = w.heap.size + 2 by simp] at this
  have hsV := hs.below hbV hs.lt
  have hS : ∀ W, Below V.heap.size V W → CmpS hb w.heap.size K x y W := fun W hW =>
    ⟨(hsV.below hW hsV.lt).cell 0, (b1.below hW b1.lt).cell 0, (b1.below hW b1.lt).cell 1, (b2.below hW b2.lt).cell 0, (b2.below hW b2.lt).cell 1, (b3.below hW b3.lt).cell 0, (b3.below hW b3.lt).frozen 0⟩
  have hC : ∀ W, Below V.heap.size V W → Calls Try.prog K #[pE x, pE y] W fun e w' => e = .returned (.int .i64 (cf x y)) ∧ Below V.heap.size V w' := fun W hW => (hO W x y).mono fun e w' ⟨he, h⟩ => ⟨he, hW.trans (h.mono hW.size)⟩
  have hE : ∀ W r, Below V.heap.size V W → Below w.heap.size w (W.setCell ⟨w.heap.size + 1 + 1, 0, none⟩ r) := fun W r hW => (hbV.trans (hW.mono hbV.size)).setCell (p := ⟨w.heap.size + 1 + 1, 0, none⟩) (by simp only; omega) _
  have hS2 : ∀ (W : World) r, Below V.heap.size V W → (W.setCell ⟨w.heap.size + 1 + 1, 0, none⟩ r).cell? ⟨hb, 0, none⟩ = some (.func (.func K) #[] #[]) ∧ (W.setCell ⟨w.heap.size + 1 + 1, 0, none⟩ r).cell? ⟨w.heap.size, 0, none⟩ = some (.int .i64 x.1) ∧ (W.setCell ⟨w.heap.size + 1 + 1, 0, none⟩ r).cell? ⟨w.heap.size, 1, none⟩ = some (.int .i64 x.2) ∧ (W.setCell ⟨w.heap.size + 1 + 1, 0, none⟩ r).cell? ⟨w.heap.size + 1, 0, none⟩ = some (.int .i64 y.1) ∧ (W.setCell ⟨w.heap.size + 1 + 1, 0, none⟩ r).cell? ⟨w.heap.size + 1, 1, none⟩ = some (.int .i64 y.2) := fun W r hW =>
    have hl := hs.lt
    ⟨((hsV.below hW hsV.lt).far (p := ⟨w.heap.size + 1 + 1, 0, none⟩) (by simp; omega) _).cell 0, ((b1.below hW b1.lt).far (p := ⟨w.heap.size + 1 + 1, 0, none⟩) (by simp; omega) _).cell 0, ((b1.below hW b1.lt).far (p := ⟨w.heap.size + 1 + 1, 0, none⟩) (by simp; omega) _).cell 1, ((b2.below hW b2.lt).far (p := ⟨w.heap.size + 1 + 1, 0, none⟩) (by simp) _).cell 0, ((b2.below hW b2.lt).far (p := ⟨w.heap.size + 1 + 1, 0, none⟩) (by simp) _).cell 1⟩
  have hS1 : ∀ W, Below V.heap.size V W → W.cell? ⟨hb, 0, none⟩ = some (.func (.func K) #[] #[]) ∧ W.cell? ⟨w.heap.size, 0, none⟩ = some (.int .i64 x.1) ∧ W.cell? ⟨w.heap.size, 1, none⟩ = some (.int .i64 x.2) ∧ W.cell? ⟨w.heap.size + 1, 0, none⟩ = some (.int .i64 y.1) ∧ W.cell? ⟨w.heap.size + 1, 1, none⟩ = some (.int .i64 y.2) := fun W hW =>
    have h := hS W hW
    ⟨h.1, h.2.1, h.2.2.1, h.2.2.2.1, h.2.2.2.2.1⟩
  have HS1 := Lib.hid hS1
  have HS2 := Lib.hid hS2
  have HC := Lib.hid hC
  have HS := Lib.hid hS
  have HE := Lib.hid hE
  clear hO hs hbV b1 b2 b3 hsV hC hS hE hS1 hS2
  have hK' : ∀ (args : Array Value) (w : World), (callFunc K args).run Try.prog w = .ok (.enter K args) w := hK
  clear hK
  unfold pE at HC ⊢
  generalize cf x y = r at HC ⊢
  go_enter_defers Try.func31, Try.ntmps31
  go_wp2_with (fail)
  rw [← hV]
  clear hV
  obtain ⟨q0, q1, q2, q3, q4, q5, q6⟩ := HS.out V (Below.refl _ _)
  generalize hbz : w.heap.size = b at HS HS1 HS2 HE q0 q1 q2 q3 q4 q5 q6 ⊢
  have HBZ := Lib.hid hbz
  clear hbz
  go_region_held3 (fun W => W.cell? ⟨hb, 0, none⟩ = some (.func (.func K) #[] #[]) ∧ W.cell? ⟨b, 0, none⟩ = some (.int .i64 x.1) ∧ W.cell? ⟨b, 1, none⟩ = some (.int .i64 x.2) ∧ W.cell? ⟨b + 1, 0, none⟩ = some (.int .i64 y.1) ∧ W.cell? ⟨b + 1, 1, none⟩ = some (.int .i64 y.2)) ((first | (refine HS2.out _ _ ?_; repeat' (first | (with_reducible exact Below.refl _ _) | (with_reducible assumption) | (with_reducible refine Below.drew ?_) | (with_reducible refine below_drewN' ?_ _))) | (refine HS1.out _ ?_; repeat' (first | (with_reducible exact Below.refl _ _) | (with_reducible assumption) | (with_reducible refine Below.drew ?_) | (with_reducible refine below_drewN' ?_ _)))))
    (first
      | ((with_reducible refine (HC.out _ (by repeat' (first | (with_reducible exact Below.refl _ _) | (with_reducible assumption) | (with_reducible refine Below.drew ?_) | (with_reducible refine below_drewN' ?_ _)))).mono ?_); rintro e w2 ⟨rfl, hb2⟩; have t0 := (HS.out _ hb2).2.2.2.2.2.1; have tf := (HS.out _ hb2).2.2.2.2.2.2))
  have HE2 := Lib.hid (HE.out w2 (.int .i64 r) hb2)
  have t1 : (w2.setCell ⟨b + 1 + 1, 0, none⟩ (.int .i64 r)).cell? ⟨b + 1 + 1, 0, none⟩ = some (.int .i64 r) := World.cell?_setCell_same _ _ _ t0
  clear t0 tf q0 q1 q2 q3 q4 q5 q6 HE HS HS1 HS2 HC
  go_wp2_with (fail)
  refine leaves_cons (f := 43) (args := #[.pointer (some ⟨b + 1 + 1, 0, none⟩)]) (by simp) (by simp [go_sem]) ?_
  refine (idle_pair ⟨b + 1 + 1, 0, none⟩ _).mono ?_
  rintro e u' w'' ⟨rfl, rfl, rfl⟩
  simp [Leaves, settle, results, Try.results31, go_sem]
  rw [t1]
  exact ⟨_, rfl, rfl, by rw [HBZ.out]; exact HE2.out⟩
end Go.Proofs.Ytcnncfjplmejhaa.heap
