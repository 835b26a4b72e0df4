/-
  fault.Is, fault.Where and fault.Trace of no error; the law's lives.
-/
import Derived.Test.YtonedffhfljmpaaDoorAsk
namespace Go.Proofs.YtonedffhfljmpaaDoor.fault
open Go.RowKit Go.Lib law bytes strc build
set_option linter.unusedVariables false

theorem idle_is (p : Addr) (w : World) : CallsD Tryd.prog 25 #[.pointer (some p)] .returning w fun e u' w' => e = .returned (.tuple #[]) ∧ u' = .returning ∧ w = w' := by
  refine callsD_of_wpS Tryd.func25 rfl fun c₀ cs hu => ?_
  apply wpS_seq
  apply wpS_region
  simp [wpOpsS, go_sem, recoverD, hu, Tryd.ntmps25, Exit.thenS]
  refine wpS_cond (t := false) (by simp [Act.eval, Array.replicate]) ?_
  simp only [Bool.false_eq_true, if_false]
  refine wpS_of_wp (wp_skip ?_)
  cases c₀
  simp_all [bodyPostS, results, Tryd.results25]
theorem idle_where (p q : Addr) (w : World) : CallsD Tryd.prog 17 #[.pointer (some p), .pointer (some q)] .returning w fun e u' w' => e = .returned (.tuple #[]) ∧ u' = .returning ∧ w = w' := by
  refine callsD_of_wpS Tryd.func17 rfl fun c₀ cs hu => ?_
  apply wpS_seq
  apply wpS_region
  simp [wpOpsS, go_sem, recoverD, hu, Tryd.ntmps17, Exit.thenS]
  refine wpS_cond (t := false) (by simp [Act.eval, Array.replicate]) ?_
  simp only [Bool.false_eq_true, if_false]
  refine wpS_of_wp (wp_skip ?_)
  cases c₀
  simp_all [bodyPostS, results, Tryd.results17]
/-- what errors.Is says of an error that ends a chain -/
def IsSays (last : Value) (e : Int) (r : Bool) : Prop := ∀ W : World, Calls Tryd.prog 26 #[last, .iface 26 (.int .i64 e)] W fun x w' => x = .returned (.bool r) ∧ W = w'
set_option maxRecDepth 100000 in
theorem is_any (gs : List Nat) (last v : Value) (e : Int) (r : Bool) (w : World) (h : Goes w last gs v) (hi : IsSays last e r) (hl : gs.length ≤ 4294967296) :
    Calls Tryd.prog 16 #[v, .int .i64 e] w fun x w' => x = .returned (.bool r) ∧ Below w.heap.size w w' := by
  have hmf : ∀ (fn : Fn) (first cap : Array Value) (w : World), (Instr.makeFunc fn first cap).run Tryd.prog w = .ok (.func fn first cap) w := fun _ _ _ _ => rfl
  have hb0 : Below w.heap.size w (w.alloc (.cells #[.bool false] 4)) := (Below.refl _ _).alloc (Nat.le_refl _) _
  have HC := Lib.hid (chain_any gs last v (w.alloc (.cells #[.bool false] 4)) (h.below hb0) hl)
  have HI := Lib.hid hi
  clear h hi hl
  go_enter_defers Tryd.func16, Tryd.ntmps16
  go_wp2_with (fail)
  refine HC.out.mono ?_
  rintro x w1 ⟨A, k, rfl, hk, hs, hb⟩
  have hb1 := (Blk.new w 4 #[.bool false]).below hb (by simp)
  have c1 : w1.cell? ⟨w.heap.size, 0, none⟩ = some (.bool false) := hb1.cell 0
  have f1 := hb1.frozen 0
  go_wp2_with (fail)
  refine (HI.out _).mono ?_
  rintro x w2 ⟨rfl, rfl⟩
  go_wp2_with (fail)
  refine leaves_cons (f := 25) (args := #[.pointer (some ⟨w.heap.size, 0, none⟩)]) (by simp) (by simp [go_sem]) ?_
  refine (idle_is ⟨w.heap.size, 0, none⟩ _).mono ?_
  rintro x u' w'' ⟨rfl, rfl, rfl⟩
  simp [Leaves, settle, results, Tryd.results16, go_sem, c1]
  exact (hb0.trans (hb.mono (by simp))).setCell (Nat.le_refl _) _
theorem as_nil (t : Value) (w : World) : Calls Tryd.prog 18 #[.nilIface, t] w fun e w' => e = .returned (.bool false) ∧ w = w' := by
  go_enter Tryd.func18, Tryd.ntmps18
  go_wp2
  go_ret
  exact ⟨rfl, rfl⟩
def noFault : Value := .agg #[.string ⟨#[]⟩, .int .i64 0, .int .u64 0, .nilIface]
set_option maxRecDepth 100000 in
theorem where_none (w : World) : Calls Tryd.prog 6 #[.nilIface] w fun x w' => x = .returned (.tuple #[noFault, .bool false]) ∧ Below w.heap.size w w' := by
  have hmf : ∀ (fn : Fn) (first cap : Array Value) (w : World), (Instr.makeFunc fn first cap).run Tryd.prog w = .ok (.func fn first cap) w := fun _ _ _ _ => rfl
  go_enter_defers Tryd.func6, Tryd.ntmps6
  go_wp2_with (fail)
  refine (as_nil _ _).mono ?_
  rintro x w2 ⟨rfl, rfl⟩
  go_wp2_with (fail)
  refine leaves_cons (f := 17) (args := #[.pointer (some ⟨w.heap.size, 0, none⟩), .pointer (some ⟨w.heap.size + 1, 0, none⟩)]) (by simp) (by simp [go_sem]) ?_
  refine (idle_where ⟨w.heap.size, 0, none⟩ ⟨w.heap.size + 1, 0, none⟩ _).mono ?_
  rintro x u' w'' ⟨rfl, rfl, rfl⟩
  have hb : Below w.heap.size w (((w.alloc (.cells #[.string ⟨#[]⟩, .int .i64 0, .int .u64 0, .nilIface] 29)).alloc (.cells #[.bool false] 4)).alloc (.cells #[.pointer none] 39)) :=
    (((Below.refl _ _).alloc (Nat.le_refl _) _).alloc (by simp) _).alloc (by simp; omega) _
  have h0 := ((Blk.new w 29 #[.string ⟨#[]⟩, .int .i64 0, .int .u64 0, .nilIface]).alloc (.cells #[.bool false] 4)).alloc (.cells #[.pointer none] 39)
  have h1 := (Blk.new (w.alloc (.cells #[.string ⟨#[]⟩, .int .i64 0, .int .u64 0, .nilIface] 29)) 4 #[.bool false]).alloc (.cells #[.pointer none] 39)
  rw [show (w.alloc (.cells #[.string ⟨#[]⟩, .int .i64 0, .int .u64 0, .nilIface] 29)).heap.size = w.heap.size + 1 from by simp] at h1
  have c0 := h0.cell 0
  have c1 := h0.cell 1
  have c2 := h0.cell 2
  have c3 := h0.cell 3
  have d0 := h1.cell 0
  generalize (((w.alloc (.cells #[.string ⟨#[]⟩, .int .i64 0, .int .u64 0, .nilIface] 29)).alloc (.cells #[.bool false] 4)).alloc (.cells #[.pointer none] 39)) = V at *
  simp at c0 c1 c2 c3 d0
  simp [Leaves, settle, results, Tryd.results6, go_sem, c0, c1, c2, c3, d0, noFault]
  exact hb
theorem trace_none (w : World) : Calls Tryd.prog 14 #[.nilIface] w fun x w' => (∃ c, x = .returned (.slice none 0 c)) ∧ Below w.heap.size w w' := by
  have HC := Lib.hid (chain_any [] .nilIface .nilIface w ⟨rfl, ends_nil⟩ (by simp))
  go_enter Tryd.func14, Tryd.ntmps14
  go_wp2_with (fail)
  refine HC.out.mono ?_
  rintro x w1 ⟨A, k, rfl, hk, hs, hb⟩
  go_wp2_with (fail)
  refine wp_loop_rounds 1 ?_
  rw [rounds_succ]
  go_wp2_with (fail)
  go_ret
  exact ⟨⟨_, rfl⟩, hb⟩
theorem st_ok {g : Nat} {op : List UInt8} {p : Int} {i : Nat} (h1 : I64 p) (h2 : i < 18446744073709551616) : St.ok ⟨g, op, p, i⟩ := ⟨h1, h2⟩
/-- the text that the law's lives asks for -/
theorem live_text : rowL [⟨0, [105, 110, 115, 101, 114, 116], 0, 7⟩] ++ errnoL 4 = [105, 110, 115, 101, 114, 116, 32, 97, 116, 32, 48, 32, 111, 102, 32, 55, 58, 32, 101, 114, 114, 110, 111, 32, 52] := by
  have e0 : itoa 0 = [48] := by rw [show (0 : Int) = ((0 : Nat) : Int) from rfl, itoa_nonneg, decDigits_one (by decide)]; rfl
  have e4 : itoa 4 = [52] := by rw [show (4 : Int) = ((4 : Nat) : Int) from rfl, itoa_nonneg, decDigits_one (by decide)]; rfl
  have e7 : decDigits 7 = [55] := by rw [decDigits_one (by decide)]; rfl
  simp [rowL, St.text, placeL, errnoL, e0, e4, e7]
set_option maxRecDepth 100000 in
theorem lives_any (w : World) (ht : Tab w) : Calls Tryd.prog 7 #[] w fun x w' => x = .returned (.bool true) ∧ Below w.heap.size w w' := by
  have hm := fun K v => meth_fault K v
  go_enter Tryd.func7, Tryd.ntmps7
  go_wp2_with (fail)
  refine (wrap_any _ _ _ _ _ _).mono ?_
  rintro x w1 ⟨rfl, rfl⟩
  go_wp2_with (fail)
  have hb0 : Below w.heap.size w (w.alloc (.cells #[.string ⟨#[105, 110, 115, 101, 114, 116]⟩, .int .i64 0, .int .u64 7, .iface 26 (.int .i64 4)] 29)) := (Below.refl _ _).alloc (Nat.le_refl _) _
  have hblk := Blk.new w 29 #[.string ⟨#[105, 110, 115, 101, 114, 116]⟩, .int .i64 0, .int .u64 7, .iface 26 (.int .i64 4)]
  have ht1 := tab_alloc ht (.cells #[.string ⟨#[105, 110, 115, 101, 114, 116]⟩, .int .i64 0, .int .u64 7, .iface 26 (.int .i64 4)] 29)
  obtain ⟨V, hV⟩ : ∃ V, V = (w.alloc (.cells #[.string ⟨#[105, 110, 115, 101, 114, 116]⟩, .int .i64 0, .int .u64 7, .iface 26 (.int .i64 4)] 29)) := ⟨_, rfl⟩
  rw [← hV] at hb0 hblk ht1 ⊢
  clear hV
  have hrow : Row V (.iface 26 (.int .i64 4)) [⟨w.heap.size, [105, 110, 115, 101, 114, 116], 0, 7⟩] (flt w.heap.size) := ⟨rfl, st_ok ⟨by decide, by decide⟩ (by decide), _, hblk, rfl, ends_errno 4⟩
  have hlt : (rowL [⟨w.heap.size, [105, 110, 115, 101, 114, 116], 0, 7⟩] ++ errnoL 4) = [105, 110, 115, 101, 114, 116, 32, 97, 116, 32, 48, 32, 111, 102, 32, 55, 58, 32, 101, 114, 114, 110, 111, 32, 52] := live_text
  have hE := error_any ⟨w.heap.size, [105, 110, 115, 101, 114, 116], 0, 7⟩ [] _ (errnoL 4) V hrow (.inr ⟨4, ⟨by decide, by decide⟩, rfl, rfl⟩) ht1 (by simp) (by
    have := congrArg List.length hlt
    simp only [List.length_append] at this
    simp only [List.length_cons, List.length_nil] at this
    omega)
  rw [hlt] at hE
  refine hE.mono ?_
  rintro x w2 ⟨rfl, hb2⟩
  have HCo := Lib.hid (code_any [w.heap.size] (.iface 26 (.int .i64 4)) 4 _ _ w2 (hrow.goes.below hb2) (code_is_errno 4) (by simp))
  clear hrow hlt hE
  go_wp2_with (fail)
  refine HCo.out.mono ?_
  rintro x w3 ⟨rfl, hb3⟩
  go_wp2_with (fail)
  refine (code_none _).mono ?_
  rintro x w4 ⟨rfl, rfl⟩
  go_wp2_with (fail)
  go_ret
  exact ⟨rfl, (hb0.trans (hb2.mono hb0.size)).trans (hb3.mono (Nat.le_trans hb0.size hb2.size))⟩
end Go.Proofs.YtonedffhfljmpaaDoor.fault
