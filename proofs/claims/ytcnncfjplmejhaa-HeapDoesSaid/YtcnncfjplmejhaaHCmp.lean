/-
  The contracts of the law's order and of Heap.compare, of any order that tells an int and leaves what there was.
-/
import Derived.Test.YtcnncfjplmejhaaOnly
import Derived.Test.YtcnncfjplmejhaaQuiet
import Derived.Test.YtcnncfjplmejhaaChecked
import Derived.Lib.Hide
import Derived.BigQuiet
import Derived.WalkMore
import Derived.Defers
import Derived.Recover
import Derived.RegionCalls
import Derived.Deep.RegionWith
import Derived.Shelf.Abstract
namespace Go.Proofs.Ytcnncfjplmejhaa.heap
open Go.RowKit law bytes only Go.Shelf
set_option linter.unusedVariables false

def cI (a b : Int) : Int := if a < b then -1 else if b < a then 1 else 0

theorem order_any (a b : Int) (w : World) : Calls Try.prog 7 #[.int .i64 a, .int .i64 b] w fun e w' => e = .returned (.int .i64 (cI a b)) ∧ w = w' := by
  unfold cI
  by_cases h1 : a < b
  · rw [if_pos h1]
    go_enter Try.func7, Try.ntmps7
    go_wp2_with (fail)
    go_ret
    exact ⟨rfl, rfl⟩
  · rw [if_neg h1]
    by_cases h2 : b < a
    · rw [if_pos h2]
      go_enter Try.func7, Try.ntmps7
      go_wp2_with (fail)
      go_ret
      exact ⟨rfl, rfl⟩
    · rw [if_neg h2]
      go_enter Try.func7, Try.ntmps7
      go_wp2_with (fail)
      go_ret
      exact ⟨rfl, rfl⟩

theorem idle_int (p : Addr) (w : World) :
    CallsD Try.prog 30 #[.pointer (some p)] .returning w fun e u' w' => e = .returned (.tuple #[]) ∧ u' = .returning ∧ w' = w := by
  refine callsD_of_wpS Try.func30 rfl fun c₀ cs hu => ?_
  apply wpS_seq
  apply wpS_region
  simp [wpOpsS, go_sem, recoverD, hu, Try.ntmps30, Exit.thenS]
  refine wpS_cond (t := false) (by simp [Act.eval, Array.replicate]) ?_
  simp only [Bool.false_eq_true, if_false]
  refine wpS_of_wp (wp_skip ?_)
  cases c₀
  simp_all [bodyPostS, results, Try.results30]

/-- an order: a function value that tells cf of values, in whatever world, and leaves what there was -/
def Ordr {α : Type} (K : Nat) (E : α → Value) (cf : α → α → Int) : Prop := ∀ (W : World) (x y : α), Calls Try.prog K #[E x, E y] W fun e w' => e = .returned (.int .i64 (cf x y)) ∧ Below W.heap.size W w'

set_option maxRecDepth 100000 in
set_option maxHeartbeats 1600000 in
theorem compare_int {α : Type} {E : α → Value} (K hb : Nat) (v : Value) (cf : α → α → Int) (hK : Enters Try.prog K) (x y : α) (w : World) (hs : Blk w hb 50 #[.func (.func K) #[] #[], v]) (hO : Ordr K E cf) :
    Calls Try.prog 24 #[.pointer (some ⟨hb, 0, none⟩), E x, E y] w fun e w' => e = .returned (.int .i64 (cf x y)) ∧ Below w.heap.size w w' := by
  have hmf : ∀ (fn : Fn) (first cap : Array Value) (w : World), (Instr.makeFunc fn first cap).run Try.prog w = .ok (.func fn first cap) w := fun _ _ _ _ => rfl
  have hbV : Below w.heap.size w (w.alloc (.cells #[.int .i64 0] 3)) := (Below.refl _ _).alloc (Nat.le_refl _) _
  have c0 : (w.alloc (.cells #[.int .i64 0] 3)).cell? ⟨hb, 0, none⟩ = some (.func (.func K) #[] #[]) := (hs.below hbV hs.lt).cell 0
  have c1 : w.cell? ⟨hb, 0, none⟩ = some (.func (.func K) #[] #[]) := hs.cell 0
  have HC := Lib.hid (hO (w.alloc (.cells #[.int .i64 0] 3)) x y)
  have HB := Lib.hid hbV
  clear hO hs hbV
  generalize cf x y = r at HC ⊢
  generalize E x = vx at HC ⊢
  generalize E y = vy at HC ⊢
  have hK' : ∀ (args : Array Value) (w : World), (callFunc K args).run Try.prog w = .ok (.enter K args) w := hK
  clear hK
  go_enter_defers Try.func24, Try.ntmps24
  go_wp2_with (fail)
  refine HC.out.mono ?_
  rintro e w2 ⟨rfl, hb2⟩
  have hbl : Blk w2 w.heap.size 3 #[.int .i64 0] := (Blk.new w 3 #[.int .i64 0]).below hb2 (Blk.new w 3 #[.int .i64 0]).lt
  have t0 : w2.cell? ⟨w.heap.size, 0, none⟩ = some (.int .i64 0) := hbl.cell 0
  have tf : w2.frozen? ⟨w.heap.size, 0, none⟩ = false := hbl.frozen 0
  have hend : Below w.heap.size w (w2.setCell ⟨w.heap.size, 0, none⟩ (.int .i64 r)) := (HB.out.trans (hb2.mono (by simp))).setCell (by simp) _
  have HE := Lib.hid hend
  clear HC HB hb2 hbl hend c0 c1
  go_wp2_with (fail)
  refine leaves_cons (f := 30) (args := #[.pointer (some ⟨w.heap.size, 0, none⟩)]) (by simp) (by simp [go_sem]) ?_
  refine (idle_int ⟨w.heap.size, 0, none⟩ _).mono ?_
  rintro e u' w'' ⟨rfl, rfl, rfl⟩
  have t1 : (w2.setCell ⟨w.heap.size, 0, none⟩ (.int .i64 r)).cell? ⟨w.heap.size, 0, none⟩ = some (.int .i64 r) := World.cell?_setCell_same _ _ _ t0
  simp [Leaves, settle, results, Try.results24, go_sem]
  rw [t1]
  exact ⟨_, rfl, rfl, HE.out⟩
end Go.Proofs.Ytcnncfjplmejhaa.heap
