/-
  What errors tell: a number's error; fault.text, which recovers, where nothing panics.
-/
import Derived.Test.YtonedffhfljmpaaDoorPlace
import Derived.Defers
import Derived.Recover
import Derived.Tactics2
import Derived.Laws.Pointers
namespace Go.Proofs.YtonedffhfljmpaaDoor.fault
open Go.RowKit Go.Lib law bytes strc
set_option linter.unusedVariables false

def errnoL (n : Int) : List UInt8 := [101, 114, 114, 110, 111, 32] ++ itoa n
set_option maxRecDepth 100000 in
theorem errno_any (n : Int) (hn : I64 n) (w : World) (ht : Tab w) : Calls Tryd.prog 72 #[.int .i64 n] w (Text (errnoL n) w) := by
  have HP : Hid (∀ W, Tab W → Calls Tryd.prog 33 #[.int .i64 n] W (Text (itoa n) W)) := Lib.hid fun W h => itoa_any n hn.1 hn.2 W h
  have h1 := itoa_len hn.1 hn.2
  have k1 := run_cat ⟨#[101, 114, 114, 110, 111, 32]⟩ ⟨(itoa n).toArray⟩ (by show 6 + (itoa n).length ≤ _; omega)
  clear hn h1
  go_enter Tryd.func72, Tryd.ntmps72
  go_wp2_with (fail)
  refine (HP.out _ ht).mono ?_
  rintro e w1 ⟨rfl, hb⟩
  go_wp2_with (fail)
  go_ret
  exact ⟨ret_str (str_app [101, 114, 114, 110, 111, 32] _), hb⟩
theorem idle_text (p : Addr) (w : World) : CallsD Tryd.prog 35 #[.pointer (some p)] .returning w fun e u' w' => e = .returned (.tuple #[]) ∧ u' = .returning ∧ w = w' := by
  refine callsD_of_wpS Tryd.func35 rfl fun c₀ cs hu => ?_
  apply wpS_seq
  apply wpS_region
  simp [wpOpsS, go_sem, recoverD, hu, Tryd.ntmps35, Exit.thenS]
  refine wpS_cond (t := false) (by simp [Act.eval, Array.replicate]) ?_
  simp only [Bool.false_eq_true, if_false]
  refine wpS_of_wp (wp_skip ?_)
  cases c₀
  simp_all [bodyPostS, results, Tryd.results35]
theorem meth_errno (K : Nat) (v : Value) (w : World) : (Go.method (K + 100) 26 v "Error").run Tryd.prog w = .ok (72, v) w := by kernel_rfl
theorem meth_fault (K : Nat) (v : Value) (w : World) : (Go.method (K + 100) 39 v "Error").run Tryd.prog w = .ok (12, v) w := by kernel_rfl
def nothingL : List UInt8 := [110, 111, 116, 104, 105, 110, 103]
set_option maxRecDepth 100000 in
theorem text_nil (w : World) : Calls Tryd.prog 23 #[.nilIface] w (Text nothingL w) := by
  go_enter_defers Tryd.func23, Tryd.ntmps23
  go_wp2
  simp [bodyPostD, Leaves, results, Tryd.results23, go_sem]
  exact ⟨rfl, (Below.refl _ _).alloc (Nat.le_refl _) _⟩
set_option maxRecDepth 100000 in
theorem text_errno (n : Int) (hn : I64 n) (w : World) (ht : Tab w) : Calls Tryd.prog 23 #[.iface 26 (.int .i64 n)] w (Text (errnoL n) w) := by
  have hmf : ∀ (fn : Fn) (first cap : Array Value) (w : World), (Instr.makeFunc fn first cap).run Tryd.prog w = .ok (.func fn first cap) w := fun _ _ _ _ => rfl
  have HE : Hid (∀ W, Tab W → Calls Tryd.prog 72 #[.int .i64 n] W (Text (errnoL n) W)) := Lib.hid fun W h => errno_any n hn W h
  have hm := fun K => meth_errno K (.int .i64 n)
  clear hn
  go_enter_defers Tryd.func23, Tryd.ntmps23
  go_wp2_with (fail)
  refine (HE.out _ (tab_alloc ht _)).mono ?_
  rintro e w1 ⟨rfl, hb⟩
  have hb1 := (Blk.new w 9 #[.string ⟨#[]⟩]).below hb (by simp)
  have c1 := hb1.cell 0
  have f1 := hb1.frozen 0
  simp at c1
  go_wp2_with (fail)
  refine leaves_cons (f := 35) (args := #[.pointer (some ⟨w.heap.size, 0, none⟩)]) (by simp) (by simp [go_sem]) ?_
  refine (idle_text ⟨w.heap.size, 0, none⟩ _).mono ?_
  rintro e u' w'' ⟨rfl, rfl, rfl⟩
  simp [Leaves, settle, results, Tryd.results23, go_sem, c1]
  exact ⟨rfl, (((Below.refl _ _).alloc (Nat.le_refl _) _).trans (hb.mono (by simp))).setCell (Nat.le_refl _) _⟩
/-- what an error that ends a chain tells -/
def Tells (last : Value) (l : List UInt8) : Prop := (last = .nilIface ∧ l = nothingL) ∨ ∃ n, I64 n ∧ last = .iface 26 (.int .i64 n) ∧ l = errnoL n
theorem text_any {last : Value} {l : List UInt8} (h : Tells last l) (w : World) (ht : Tab w) : Calls Tryd.prog 23 #[last] w (Text l w) := by
  rcases h with ⟨rfl, rfl⟩ | ⟨n, hn, rfl, rfl⟩
  · exact text_nil w
  · exact text_errno n hn w ht
theorem tells_len {last : Value} {l : List UInt8} (h : Tells last l) : l.length ≤ 27 := by
  rcases h with ⟨rfl, rfl⟩ | ⟨n, hn, rfl, rfl⟩
  · decide
  · have := itoa_len hn.1 hn.2
    simp only [errnoL, List.length_append, List.length_cons, List.length_nil]
    omega
end Go.Proofs.YtonedffhfljmpaaDoor.fault
