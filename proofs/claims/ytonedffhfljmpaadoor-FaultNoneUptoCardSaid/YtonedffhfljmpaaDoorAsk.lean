/-
  Wrapping, codes, errors.Is: what errors are asked.
-/
import Derived.Test.YtonedffhfljmpaaDoorError
namespace Go.Proofs.YtonedffhfljmpaaDoor.fault
open Go.RowKit Go.Lib law bytes strc build
set_option linter.unusedVariables false

theorem wrap_none (op : ByteArray) (p i : Int) (w : World) : Calls Tryd.prog 10 #[.string op, .int .i64 p, .int .u64 i, .nilIface] w fun e w' => e = .returned .nilIface ∧ w = w' := by
  go_enter Tryd.func10, Tryd.ntmps10
  go_wp2
  go_ret
  exact ⟨rfl, rfl⟩
theorem wrap_any (op : ByteArray) (p i : Int) (t : TypeId) (x : Value) (w : World) : Calls Tryd.prog 10 #[.string op, .int .i64 p, .int .u64 i, .iface t x] w fun e w' => e = .returned (flt w.heap.size) ∧ w' = w.alloc (.cells #[.string op, .int .i64 p, .int .u64 i, .iface t x] 29) := by
  go_enter Tryd.func10, Tryd.ntmps10
  go_wp2
  go_ret
  exact ⟨rfl, rfl⟩
theorem new_any (s : ByteArray) (w : World) : Calls Tryd.prog 11 #[.string s] w fun e w' => e = .returned (.iface 55 (ptr w.heap.size)) ∧ w' = w.alloc (.cells #[.string s] 57) := by
  go_enter Tryd.func11, Tryd.ntmps11
  go_wp2
  go_ret
  exact ⟨rfl, rfl⟩
theorem unwrap_none (w : World) : Calls Tryd.prog 13 #[.pointer none] w fun e w' => e = .returned .nilIface ∧ w = w' := by
  go_enter Tryd.func13, Tryd.ntmps13
  go_wp2
  go_ret
  exact ⟨rfl, rfl⟩

/-! ### Code -/
/-- an error that ends a chain, and its number -/
def CodeIs (last : Value) (c : Int) : Prop := ∃ (b : Bool) (x : Int), (∀ W : World, (Instr.typeAssert last 24 26 true).run Tryd.prog W = .ok (.tuple #[.int .i64 x, .bool b]) W) ∧ c = if b then x else 2
theorem code_is_nil : CodeIs .nilIface 2 := ⟨false, 0, fun W => by kernel_rfl, rfl⟩
theorem code_is_new (p : Value) : CodeIs (.iface 55 p) 2 := ⟨false, 0, fun W => by kernel_rfl, rfl⟩
theorem code_is_errno (n : Int) : CodeIs (.iface 26 (.int .i64 n)) n := ⟨true, n, fun W => by kernel_rfl, rfl⟩
theorem code_none (w : World) : Calls Tryd.prog 9 #[.nilIface] w fun e w' => e = .returned (.int .i64 0) ∧ w = w' := by
  go_enter Tryd.func9, Tryd.ntmps9
  go_wp2
  go_ret
  exact ⟨rfl, rfl⟩
set_option maxRecDepth 100000 in
theorem code_any (gs : List Nat) (last : Value) (c : Int) (t : TypeId) (x : Value) (w : World) (h : Goes w last gs (.iface t x)) (hc : CodeIs last c) (hl : gs.length ≤ 4294967296) :
    Calls Tryd.prog 9 #[.iface t x] w fun e w' => e = .returned (.int .i64 c) ∧ Below w.heap.size w w' := by
  have HC := Lib.hid (chain_any gs last (.iface t x) w h hl)
  obtain ⟨b, y, hta, hcy⟩ := hc
  have HY := Lib.hid hcy
  clear hcy h hl
  cases b
  · go_enter Tryd.func9, Tryd.ntmps9
    go_wp2_with (fail)
    refine HC.out.mono ?_
    rintro e w1 ⟨A, k, rfl, hk, hs, hb⟩
    go_wp2_with (fail)
    go_ret
    exact ⟨ret_int (by rw [HY.out]; rfl), hb⟩
  · go_enter Tryd.func9, Tryd.ntmps9
    go_wp2_with (fail)
    refine HC.out.mono ?_
    rintro e w1 ⟨A, k, rfl, hk, hs, hb⟩
    go_wp2_with (fail)
    go_ret
    exact ⟨ret_int (by rw [HY.out]; rfl), hb⟩

/-! ### errors.Is -/
theorem no_is_errno (v : Value) (xT : TypeId) (w : World) : (Instr.typeAssert (.iface 26 v) xT 97 true).run Tryd.prog w = .ok (.tuple #[.nilIface, .bool false]) w := run_typeAssert_lacksB Tryd.underlying97 (by kernel_rfl) (by kernel_rfl) v xT w
theorem no_un_errno (v : Value) (xT : TypeId) (w : World) : (Instr.typeAssert (.iface 26 v) xT 92 true).run Tryd.prog w = .ok (.tuple #[.nilIface, .bool false]) w := run_typeAssert_lacksB Tryd.underlying92 (by kernel_rfl) (by kernel_rfl) v xT w
theorem no_uns_errno (v : Value) (xT : TypeId) (w : World) : (Instr.typeAssert (.iface 26 v) xT 93 true).run Tryd.prog w = .ok (.tuple #[.nilIface, .bool false]) w := run_typeAssert_lacksB Tryd.underlying93 (by kernel_rfl) (by kernel_rfl) v xT w
theorem no_is_new (v : Value) (xT : TypeId) (w : World) : (Instr.typeAssert (.iface 55 v) xT 97 true).run Tryd.prog w = .ok (.tuple #[.nilIface, .bool false]) w := run_typeAssert_lacksB Tryd.underlying97 (by kernel_rfl) (by kernel_rfl) v xT w
theorem no_un_new (v : Value) (xT : TypeId) (w : World) : (Instr.typeAssert (.iface 55 v) xT 92 true).run Tryd.prog w = .ok (.tuple #[.nilIface, .bool false]) w := run_typeAssert_lacksB Tryd.underlying92 (by kernel_rfl) (by kernel_rfl) v xT w
theorem no_uns_new (v : Value) (xT : TypeId) (w : World) : (Instr.typeAssert (.iface 55 v) xT 93 true).run Tryd.prog w = .ok (.tuple #[.nilIface, .bool false]) w := run_typeAssert_lacksB Tryd.underlying93 (by kernel_rfl) (by kernel_rfl) v xT w
set_option maxRecDepth 100000 in
theorem eis_nil (e : Int) (w : World) : Calls Tryd.prog 26 #[.nilIface, .iface 26 (.int .i64 e)] w fun r w' => r = .returned (.bool false) ∧ w = w' := by
  have h1 := fun w => run_eql_iface_nil_left (P := Tryd.prog) w 26 (.int .i64 e) Tryd.underlying24
  go_enter Tryd.func26, Tryd.ntmps26
  go_wp2
  go_ret
  exact ⟨rfl, rfl⟩
set_option maxRecDepth 100000 in
theorem is_new (p : Value) (e : Int) (w : World) : Calls Tryd.prog 37 #[.iface 55 p, .iface 26 (.int .i64 e), .bool true] w fun r w' => r = .returned (.bool false) ∧ w = w' := by
  have h1 := no_is_new p
  have h2 := no_un_new p
  have h3 := no_uns_new p
  have h4 := fun w => run_eql_iface_types (P := Tryd.prog) 55 26 p (.int .i64 e) Tryd.underlying24 (by decide) w
  go_enter Tryd.func37, Tryd.ntmps37
  go_wp2
  refine wp_loop_rounds 1 ?_
  rw [rounds_succ]
  go_wp2
  go_ret
  exact ⟨rfl, rfl⟩
def comparable : Array Value → Sem Value := Extern.ReflectliteType.method fun t => do Extern.Rtype.noPackHeld "Comparable" t; pure (.bool (← typeInfo t).comparable)
noncomputable def H26 : Value := typeHandle Tryd.prog 26
theorem type_of_errno (v : Value) (w : World) : (Extern.ReflectliteType.typeOf #[.iface 26 v]).run Tryd.prog w = .ok (.iface 85 (.agg #[H26])) w := by kernel_rfl
theorem meth_comparable (K : Nat) (v : Value) (w : World) : (Go.method (K + 100) 85 v "Comparable").run Tryd.prog w = .ok (80, v) w := by kernel_rfl
theorem comparable_errno (w : World) : (comparable #[.agg #[H26]]).run Tryd.prog w = .ok (.bool true) w := by kernel_rfl
set_option maxRecDepth 100000 in
theorem eis_new (p : Value) (e : Int) (w : World) : Calls Tryd.prog 26 #[.iface 55 p, .iface 26 (.int .i64 e)] w fun r w' => r = .returned (.bool false) ∧ w = w' := by
  have HI := Lib.hid (is_new p e)
  have h10 := @run_callFunc_extern Tryd.prog 36 _ Extern.ReflectliteType.typeOf Tryd.func36 (by kernel_rfl) (by kernel_rfl) (by kernel_rfl) (by kernel_rfl)
  have h30 := @run_callFunc_extern Tryd.prog 80 _ comparable Tryd.func80 (by kernel_rfl) (by kernel_rfl) (by kernel_rfl) (by kernel_rfl)
  have tT := type_of_errno
  have cT := comparable_errno
  have mR := fun K => meth_comparable K (.agg #[H26])
  go_enter Tryd.func26, Tryd.ntmps26
  go_wp2_with (fail)
  refine (HI.out _).mono ?_
  rintro r w' ⟨rfl, rfl⟩
  go_wp2_with (fail)
  go_ret
  exact ⟨rfl, rfl⟩
end Go.Proofs.YtonedffhfljmpaaDoor.fault
