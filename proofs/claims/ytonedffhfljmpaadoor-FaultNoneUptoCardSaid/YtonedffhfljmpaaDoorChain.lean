/-
  The faults that an error is and goes on to: fault.chain, of errors that come to an end.
-/
import Derived.Test.YtonedffhfljmpaaDoorBlk
import Derived.Test.YtonedffhfljmpaaDoorQuiet
import Derived.Lib.Hide
import Derived.LaidEql
import Derived.LaidEqlPtr
import Derived.Stop.Asserts
namespace Go.Proofs.YtonedffhfljmpaaDoor.fault
open Go.RowKit law bytes
set_option linter.unusedVariables false

abbrev ptr (g : Nat) : Value := .pointer (some ⟨g, 0, none⟩)
/-- the fault in block g, as an error -/
abbrev flt (g : Nat) : Value := .iface 39 (ptr g)
def Flt (w : World) (g : Nat) (op : ByteArray) (p i : Int) (err : Value) : Prop := Blk w g 29 #[.string op, .int .i64 p, .int .u64 i, err]
/-- an error that is no fault: where a chain ends -/
def Ends (v : Value) : Prop := ∃ b : Bool, ∀ W : World, (Instr.typeAssert v 24 39 true).run Tryd.prog W = .ok (.tuple #[.pointer none, .bool b]) W
theorem ends_nil : Ends .nilIface := ⟨false, fun W => by kernel_rfl⟩
theorem ends_errno (n : Int) : Ends (.iface 26 (.int .i64 n)) := ⟨false, fun W => by kernel_rfl⟩
theorem ends_new (p : Value) : Ends (.iface 55 p) := ⟨false, fun W => by kernel_rfl⟩
theorem ends_none : Ends (.iface 39 (.pointer none)) := ⟨true, fun W => by kernel_rfl⟩
theorem is_fault (g : Nat) (W : World) : (Instr.typeAssert (flt g) 24 39 true).run Tryd.prog W = .ok (.tuple #[ptr g, .bool true]) W := by kernel_rfl

/-- an error goes on to faults, and last to an error that is none -/
def Goes (w : World) (last : Value) : List Nat → Value → Prop
  | [], v => v = last ∧ Ends last
  | g :: r, v => v = flt g ∧ ∃ op p i err, Flt w g op p i err ∧ Goes w last r err
theorem Goes.keep {w w' : World} {last : Value} : ∀ {gs : List Nat} {v : Value}, Goes w last gs v → (∀ g t cs, Blk w g t cs → Blk w' g t cs) → Goes w' last gs v
  | [], _, h, _ => h
  | _ :: _, _, ⟨hv, op, p, i, err, hf, hr⟩, hk => ⟨hv, op, p, i, err, hk _ _ _ hf, hr.keep hk⟩
theorem Goes.below {w w' : World} {last v : Value} {gs : List Nat} (h : Goes w last gs v) (hb : Below w.heap.size w w') : Goes w' last gs v := h.keep fun _ _ _ k => k.below hb k.lt
theorem Goes.lt {w : World} {last : Value} : ∀ {gs : List Nat} {v : Value}, Goes w last gs v → ∀ g ∈ gs, g < w.heap.size
  | [], _, _, _, h => by cases h
  | _ :: _, _, ⟨_, _, _, _, _, hf, hr⟩, g, h => by
    rcases List.mem_cons.1 h with rfl | h
    · exact hf.lt
    · exact hr.lt g h
theorem Goes.blk {w : World} {last : Value} : ∀ {gs : List Nat} {v : Value}, Goes w last gs v → ∀ g ∈ gs, ∃ cs, Blk w g 29 cs
  | [], _, _, _, h => by cases h
  | _ :: _, _, ⟨_, _, _, _, _, hf, hr⟩, g, h => by
    rcases List.mem_cons.1 h with rfl | h
    · exact ⟨_, hf⟩
    · exact hr.blk g h
theorem Goes.tail {w : World} {last : Value} : ∀ {a : List Nat} {v : Value} {g : Nat} {b : List Nat}, Goes w last (a ++ g :: b) v → Goes w last (g :: b) (flt g)
  | [], _, _, _, ⟨_, h⟩ => ⟨rfl, h⟩
  | _ :: _, _, _, _, ⟨_, _, _, _, _, _, hr⟩ => hr.tail
theorem flt_not_end {g : Nat} : ¬ Ends (flt g) := fun ⟨b, h⟩ => by
  have h1 := h default
  rw [is_fault] at h1
  injection h1 with h1
  simp [ptr] at h1
theorem Goes.same {w : World} {last last' : Value} : ∀ {a b : List Nat} {v : Value}, Goes w last a v → Goes w last' b v → a = b
  | [], [], _, _, _ => rfl
  | [], _ :: _, _, ⟨h1, h2⟩, ⟨h3, _⟩ => absurd (show Ends (flt _) from by rw [← h3, h1]; exact h2) flt_not_end
  | _ :: _, [], _, ⟨h3, _⟩, ⟨h1, h2⟩ => absurd (show Ends (flt _) from by rw [← h3, h1]; exact h2) flt_not_end
  | g :: a, g' :: b, _, ⟨h1, _, _, _, _, hf, hr⟩, ⟨h2, _, _, _, _, hf', hr'⟩ => by
    have e : flt g = flt g' := h1.symm.trans h2
    simp only [flt, ptr] at e
    injection e with _ e
    injection e with e
    injection e with e
    injection e with e
    subst e
    have e2 := Option.some.inj ((show w.heap[g]? = _ from hf).symm.trans hf')
    simp only [Obj.cells.injEq, and_true] at e2
    have e3 := congrArg (fun x => x[3]?) e2
    simp at e3
    rw [hr.same (e3 ▸ hr')]
theorem Goes.fresh {w : World} {last : Value} {a : List Nat} {v : Value} {g : Nat} {b : List Nat} (h : Goes w last (a ++ g :: b) v) : g ∉ a := fun hm => by
  obtain ⟨x, y, rfl⟩ := List.append_of_mem hm
  have h1 : Goes w last (g :: b) (flt g) := h.tail
  have h2 : Goes w last (g :: (y ++ g :: b)) (flt g) := by
    rw [List.append_assoc] at h
    exact h.tail
  have := congrArg List.length (h1.same h2)
  simp at this
  omega
theorem ptr_one (gs : List Nat) : ∀ u ∈ gs.map ptr, u.oneCell' = true := by
  intro u hu
  obtain ⟨g, _, rfl⟩ := List.mem_map.1 hu
  rfl
def Chained (gs : List Nat) (last : Value) (w : World) (e : Ending) (w' : World) : Prop :=
  ∃ A c, e = .returned (.tuple #[.slice A gs.length c, last]) ∧ gs.length ≤ c ∧ Sl w' w'.heap.size A (gs.map ptr) ∧ Below w.heap.size w w'
theorem ptrE : Elem Tryd.prog 39 (.pointer none) 8 := elem_mk (by kernel_rfl) rfl
theorem chained_mk {w w' : World} {gs : List Nat} {last v : Value} {n : Nat} (h : w'.ownsRow w.heap.size 39 1 v n (gs.map ptr)) (hb : Below w.heap.size w w') : Chained gs last w (.returned (.tuple #[v, last])) w' := by
  obtain ⟨A, c, rfl, hc⟩ := own_slice h
  have hn : n = gs.length := by have := h.1; rw [List.length_map] at this; omega
  subst hn
  exact ⟨A, c, rfl, hc, Sl.of_own h, hb⟩
set_option maxRecDepth 100000 in
set_option maxHeartbeats 1000000 in
theorem chain_any (gs : List Nat) (last v : Value) (w : World) (h : Goes w last gs v) (hl : gs.length ≤ 4294967296) : Calls Tryd.prog 20 #[v] w (Chained gs last w) := by
  go_enter Tryd.func20, Tryd.ntmps20
  go_wp2
  go_loopw [0, 4, 5] (fun err fs mark wr => ∃ (done rest : List Nat) (m : Nat), gs = done ++ rest ∧ Goes w last rest err ∧ wr.ownsRow w.heap.size 39 1 fs done.length (done.map ptr) ∧ mark = .int .i64 m ∧ m ≤ done.length ∧ (m = done.length → done = []) ∧ Below w.heap.size w wr)
    (fun _ fs _ _ => gs.length - (match fs with | .slice _ n _ => n | _ => 0))
  case atStart => exact ⟨[], gs, 0, rfl, h, World.ownsRow_nil _ _ _ _, rfl, Nat.le_refl _, fun _ => rfl, Below.refl _ _⟩
  case round =>
    obtain ⟨done, rest, m, hgs, hgo, hown, rfl, hm, hm0, hb⟩ := hrel
    obtain ⟨A, c, rfl, hc⟩ := own_slice hown
    rcases rest with _ | ⟨g, rest⟩
    · obtain ⟨hv, b, hta⟩ := hgo
      have hv := hv.symm
      subst hv
      have HM := Lib.hid (chained_mk (last := last) (w := w) hown hb)
      rw [List.append_nil] at hgs
      subst hgs
      clear hown hb h hl hm hm0
      cases b
      · go_wp2
        go_ret2
        exact HM.out
      · go_wp2
        go_ret2
        exact HM.out
    · obtain ⟨rfl, op, p, i, err', hf, hgo'⟩ := hgo
      have hta := is_fault g
      have hfr : g ∉ done := (hgs ▸ h : Goes w last (done ++ g :: rest) v).fresh
      have hfw := hf.below hb hf.lt
      have HK : Hid (∀ x ∈ done, ∃ cs, Blk wr x 29 cs) := Lib.hid fun x hx => by
        obtain ⟨cs, hx'⟩ := h.blk x (by rw [hgs]; exact List.mem_append_left _ hx)
        exact ⟨cs, hx'.below hb hx'.lt⟩
      have HG := Lib.hid hgs
      have hl2 : done.length + 1 ≤ gs.length := by rw [hgs]; simp
      have hl3 : done.length ≤ 4294967296 := by omega
      have HL2 := Lib.hid hl2
      have HO := Lib.hid hgo'
      have HH := Lib.hid h
      have HL := Lib.hid hl
      clear hgs hgo' h hl hl2
      have hs := Sl.of_own hown
      have ce : wr.cell? ⟨g, 3, none⟩ = some err' := hfw.cell 3
      have hmul : IntKind.i64.wrap (2 * (m : Int)) = 2 * (m : Int) := by rw [IntKind.wrap_i64]; omega
      by_cases hmk : m < done.length
      · obtain ⟨ad, hA, hab, hcell⟩ := hs.at_ (k := m) (by simpa using hmk)
        subst hA
        have hne : done[m] ≠ g := fun e => hfr (e ▸ List.getElem_mem hmk)
        rw [List.getElem_map] at hcell
        obtain ⟨cs, hx⟩ := HK.out done[m] (List.getElem_mem hmk)
        obtain ⟨j0, hj0, hjs⟩ := Option.map_eq_some_iff.1 (show (Tryd.prog.info? 29).map (·.size) = some 4 from by kernel_rfl)
        have heq : (binOp .eql 39 (ptr done[m]) (ptr g)).run Tryd.prog wr = .ok (.bool false) wr :=
          run_eql_ptr_other (P := Tryd.prog) wr Tryd.underlying39 hj0 (by rw [hjs]; decide) (fun e => hne (by injection e)) hx hfw
        clear hx hne hj0 hjs
        by_cases h2 : done.length = 2 * m + 1
        · have d1 : ((done.length : Int) == 2 * (m : Int) + 1) = true := by simpa using (by omega : (done.length : Int) = 2 * (m : Int) + 1)
          clear h2
          have hne0 : (done.length + 1) * 8 ≤ 140737488355328 := by omega
          have HR := Lib.hid hfr
          clear hfr
          go_wp2_with (first
            | (at_builtin
               refine wpList_append_sl _ rfl (.tmp 47) (.tmp 49) _ rfl w.heap.size 39 _ 8 Tryd.underlying51 ptrE _ done.length (done.map ptr) rfl (hown.alloc _) _ _ 1 1 [ptr g] rfl (Sl.one wr _ _) rfl (by simp [Value.oneCell']) hne0 (by unfold maxLen; omega) (by have := hb.size; simp; omega) ?_
               intro v1 w1 hown1 hg1 hat1
               obtain ⟨A1, c1, rfl, hc1⟩ := own_slice hown1
               have hb1 : Below w.heap.size w w1 := below_append hb hb.size _ hown (Nat.le_refl _) hg1
               have ce1 : w1.cell? ⟨g, 3, none⟩ = some err' := (hf.below hb1 hf.lt).cell 3))
          go_roundw
          case rel =>
            have e1 : (done ++ [g]).length = done.length + 1 := by simp
            refine ⟨done ++ [g], rest, done.length, by rw [HG.out]; simp, HO.out, ?_, rfl, by rw [e1]; omega, fun e => by rw [e1] at e; omega, hb1⟩
            rw [e1, List.map_append]
            exact hown1
          case measure => have h9 := HL2.out; show gs.length - (done.length + 1) < gs.length - done.length; omega
        · have d1 : ((done.length : Int) == 2 * (m : Int) + 1) = false := by simpa using (by omega : ¬ (done.length : Int) = 2 * (m : Int) + 1)
          have hne0 : (done.length + 1) * 8 ≤ 140737488355328 := by omega
          have HR := Lib.hid hfr
          clear hfr
          go_wp2_with (first
            | (at_builtin
               refine wpList_append_sl _ rfl (.tmp 47) (.tmp 49) _ rfl w.heap.size 39 _ 8 Tryd.underlying51 ptrE _ done.length (done.map ptr) rfl (hown.alloc _) _ _ 1 1 [ptr g] rfl (Sl.one wr _ _) rfl (by simp [Value.oneCell']) hne0 (by unfold maxLen; omega) (by have := hb.size; simp; omega) ?_
               intro v1 w1 hown1 hg1 hat1
               obtain ⟨A1, c1, rfl, hc1⟩ := own_slice hown1
               have hb1 : Below w.heap.size w w1 := below_append hb hb.size _ hown (Nat.le_refl _) hg1
               have ce1 : w1.cell? ⟨g, 3, none⟩ = some err' := (hf.below hb1 hf.lt).cell 3))
          go_roundw
          case rel =>
            have e1 : (done ++ [g]).length = done.length + 1 := by simp
            refine ⟨done ++ [g], rest, m, by rw [HG.out]; simp, HO.out, ?_, rfl, by rw [e1]; omega, fun e => by rw [e1] at e; omega, hb1⟩
            rw [e1, List.map_append]
            exact hown1
          case measure => have h9 := HL2.out; show gs.length - (done.length + 1) < gs.length - done.length; omega
      · obtain rfl := hm0 (by omega)
        obtain rfl : m = 0 := by simpa using hm
        have hown0 : wr.ownsRow w.heap.size 39 1 (.slice A 0 c) 0 [] := hown
        have hne0 : (0 + 1) * 8 ≤ 140737488355328 := by omega
        have HR := Lib.hid hfr
        clear hfr
        go_wp2_with (first
          | (at_builtin
             refine wpList_append_sl _ rfl (.tmp 47) (.tmp 49) _ rfl w.heap.size 39 _ 8 Tryd.underlying51 ptrE _ 0 [] rfl (hown0.alloc _) _ _ 1 1 [ptr g] rfl (Sl.one wr _ _) rfl (by simp [Value.oneCell']) hne0 (by unfold maxLen; omega) (by have := hb.size; simp; omega) ?_
             intro v1 w1 hown1 hg1 hat1
             obtain ⟨A1, c1, rfl, hc1⟩ := own_slice hown1
             have hb1 : Below w.heap.size w w1 := below_append hb hb.size _ hown0 (Nat.le_refl _) hg1
             have ce1 : w1.cell? ⟨g, 3, none⟩ = some err' := (hf.below hb1 hf.lt).cell 3))
        go_roundw
        case rel =>
          exact ⟨[g], rest, 0, by rw [HG.out]; simp, HO.out, hown1, rfl, by simp, fun e => by simp at e, hb1⟩
        case measure => have h9 := HL2.out; show gs.length - 1 < gs.length - 0; simp at h9; omega
end Go.Proofs.YtonedffhfljmpaaDoor.fault
