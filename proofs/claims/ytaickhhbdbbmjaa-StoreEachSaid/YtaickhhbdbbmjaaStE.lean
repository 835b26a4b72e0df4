/-
  The contract of what Each answers: all things are handed on, each in memory of its own, by rising numbers.
-/
import Derived.Test.YtaickhhbdbbmjaaStA
import Derived.Test.YtaickhhbdbbmjaaTold
namespace Go.Proofs.Ytaickhhbdbbmjaa.store
open Go.RowKit Go.Shelf law bytes only flat ord obj told
open aro (Kept)
set_option linter.unusedVariables false
attribute [local go_sem] Oper.semAt_some

/-- the function that Each answers -/
def eachV (p : Nat) : Value := .func (.func 32) #[] #[.pointer (some ⟨p, 0, none⟩)]
theorem each_any (q : Option Addr) (w : World) : Calls Try.prog 20 #[.pointer q] w fun e w' => e = .returned (eachV w.heap.size) ∧ w' = w.alloc (.cells #[.pointer q] 23) := by
  go_enter Try.func20, Try.ntmps20
  go_wp2_with (fail)
  go_ret
  exact ⟨rfl, rfl⟩
theorem eql_yield (l : Nat) (w : World) : (binOp .eql 55 (.func (.yield l) #[] #[]) .nilFunc).run Try.prog w = .ok (.bool false) w := by kernel_rfl
theorem eql_each (p : Nat) (w : World) : (binOp .eql 51 (.func (.func 32) #[] #[.pointer (some ⟨p, 0, none⟩)]) .nilFunc).run Try.prog w = .ok (.bool false) w := by kernel_rfl
/-- of what is handed on: the next thing, in memory of its own -/
def Pr (n₀ : Nat) (M : List (Int × Thing)) (pre : List (Int × Kept)) (x : Int × Kept) (W : World) : Prop :=
  M[pre.length]? = some (x.1, x.2.x) ∧ rM pre = M.take pre.length ∧ Fit x.2.x ∧ W.ownsRow n₀ 21 1 (.slice x.2.A x.2.x.vec.length x.2.c) x.2.x.vec.length (iv x.2.x.vec)
/-- a round has gone on, or has said 'no more' -/
def Went (J Jx : World → Prop) (M : Nat → Prop) (W : World) (b : Bool) (W' : World) : Prop := (b = true → J W' ∧ Only M W W') ∧ (b = false → Jx W')
theorem Went.of {J Jx : World → Prop} {M : Nat → Prop} {W : World} (e : Ending) (W' : World) (h : (e = .returned (.bool true) ∧ J W' ∧ Only M W W') ∨ (e = .returned (.bool false) ∧ Jx W')) : ∃ b, e = .returned (.bool b) ∧ Went J Jx M W b W' := by
  rcases h with ⟨h1, h2, h3⟩ | ⟨h1, h2⟩
  · exact ⟨true, h1, fun _ => ⟨h2, h3⟩, fun h => by cases h⟩
  · exact ⟨false, h1, fun h => (by cases h), fun _ => h2⟩
set_option maxRecDepth 100000 in
set_option maxHeartbeats 3200000 in
theorem each_tells {w : World} {base sb p m : Nat} {T : Nat → Prop} {M : List (Int × Thing)} (h : St w base sb T M m) (hB : base ≤ w.heap.size) (hm : m ≤ 2513169434915) (hp : w.cell? ⟨p, 0, none⟩ = some (.pointer (some ⟨sb, 0, none⟩))) (n : Nat) (hn : 3 ≤ n) :
    Hands Try.prog n 32 #[.pointer (some ⟨p, 0, none⟩)] (fun x : Int × Kept => #[iV x.1 x.2]) (fun i => T i ∨ i = p) (Pr w.heap.size M) (fun xs => rM xs = M) w := by
  intro l C J Jx W hW hC hCl hJ hJx hY h0
  have hlt := World.block_lt_of_cell? w _ hp
  refine callsIn_of_wp Try.func32 rfl trivial ?_ rfl
  simp only [Try.ntmps32, List.size_toArray, List.length_cons, List.length_nil, Nat.reduceAdd, Nat.reduceSub, Array.replicate_succ, Array.replicate_zero, List.push_toArray, List.append_toArray, List.nil_append, List.cons_append]
  have h1 : 1 ≤ n := by omega
  have hey := eql_yield l
  have hmo : Try.prog.follows .mixedOrders = true := by kernel_rfl
  have c0 : W.cell? ⟨p, 0, none⟩ = some (.pointer (some ⟨sb, 0, none⟩)) := (hW.cell (p := ⟨p, 0, none⟩) hlt).trans hp
  have HA : Hid (CallsIn Fence.wide (n - 1) Try.prog 33 #[.pointer (some ⟨sb, 0, none⟩)] W (AllP W T M)) := Lib.hid (callsIn_wide.2 (all_st (h.below hW) (Nat.le_trans hB hW.size) hm))
  gi_wp2_with (refine ⟨trivial, ?_⟩; gi_at_call 33; (with_reducible refine HA.out.mono ?_); rintro e w2 ⟨A, c, r, rfl, hown, hrM, hrd, hb⟩)
  have hTlt : ∀ i, T i → i < w.heap.size := fun i e => (h.low e).2
  have sW := hW.size
  have s2 := hb.size
  obtain ⟨B, hBe⟩ : ∃ B, B = w2.heap.size := ⟨_, rfl⟩
  have hJ0 := h0 w2 hb
  rw [← hBe] at hJ0
  have hlen : r.length = M.length := by rw [← hrM, rM_length]
  have hrl : r.length ≤ 2513169434915 := by have := h.len; omega
  have hrd2 : Reads w2 T r := hrd.only (S := fun _ => False) (Only.of_below hb (Nat.le_refl _) _) (fun i e => Nat.lt_of_lt_of_le (hTlt i e) sW) fun _ _ e => e
  have hnS : ∀ i, T i → ¬ Mine C B i := fun i e e2 => by
    rcases e2 with e2 | e2
    · exact hC i e2 (.inl e)
    · have := hTlt i e; omega
  have HKP : Hid (∀ V, Only (Mine C B) w2 V → Reads V T r ∧ V.ownsRow W.heap.size 31 4 (.slice A r.length c) r.length (r.flatMap iE)) := Lib.hid fun V hV => by
    refine ⟨hrd2.only hV (fun i e => by have := hTlt i e; omega) hnS, own_only hown hV fun g e e2 => ?_⟩
    have h3 := own_lt hown e
    rcases e2 with e2 | e2
    · have := hCl g e2; omega
    · omega
  have HJ := Lib.hid hJ
  have HY := Lib.hid hY
  have HJ0 := Lib.hid hJ0
  have HBE := Lib.hid hBe
  have HTL := Lib.hid hTlt
  have HRM := Lib.hid hrM
  have HLN := Lib.hid hlen
  clear HA hJ hJx hY h0 hJ0 hrd hrd2 hnS hC hCl c0 hp hBe hTlt hrM hown hb hW h hlen
  gi_loopw [10] (fun i wr => ∃ (k : Nat) (pre : List (Int × Kept)), k ≤ r.length ∧ i = .int .i64 k ∧ pre.length = k ∧ rM pre = M.take k ∧ J B pre wr ∧ Only (Mine C B) w2 wr)
    (fun i _ => r.length - (intOf i).toNat)
  case atStart => exact ⟨0, [], Nat.zero_le _, rfl, rfl, rfl, HJ0.out, Only.refl _ _⟩
  case round =>
    clear HJ0
    obtain ⟨k, pre, hk, rfl, hpl, hpm, hj, ho⟩ := hrel
    by_cases hlt : k < r.length
    · obtain ⟨hrd, hown⟩ := HKP.out wr ho
      have hA : ∃ g, A = some ⟨g, 0, none⟩ := by
        obtain ⟨g, cc, hv, -⟩ := own_form hown (by omega)
        injection hv with hv
        exact ⟨g, hv⟩
      obtain ⟨g, rfl⟩ := hA
      obtain ⟨⟨id, x, A1, c1⟩, hx⟩ : ∃ q, r[k] = q := ⟨_, rfl⟩
      have q0 : wr.cell? ⟨g, k * 4, none⟩ = some (.int .u64 id) := by
        have h := own_cellK hown iE_len (Nat.le_refl _) k 0 hlt (by decide)
        rw [hx] at h
        exact h
      have q1 : wr.cell? ⟨g, k * 4 + 1, none⟩ = some (.int .i64 x.tag) := by
        have h := own_cellK hown iE_len (Nat.le_refl _) k 1 hlt (by decide)
        rw [hx] at h
        exact h
      have q2 : wr.cell? ⟨g, k * 4 + 2, none⟩ = some (.slice A1 x.vec.length c1) := by
        have h := own_cellK hown iE_len (Nat.le_refl _) k 2 hlt (by decide)
        rw [hx] at h
        exact h
      have q3 : wr.cell? ⟨g, k * 4 + 3, none⟩ = some (.string x.str) := by
        have h := own_cellK hown iE_len (Nat.le_refl _) k 3 hlt (by decide)
        rw [hx] at h
        exact h
      have i1 : (k : Int) < (r.length : Int) := by omega
      obtain ⟨htl, hfit⟩ := hrd r[k] (List.getElem_mem hlt)
      rw [hx] at htl hfit
      clear hrd hown
      have hb1 : Below wr.heap.size wr (wr.alloc (.cells #[.int .u64 id, .int .i64 x.tag, .slice A1 x.vec.length c1, .string x.str] 31)) := (Below.refl _ _).alloc (Nat.le_refl _) _
      have hgx := Blk.new wr 31 #[.int .u64 id, .int .i64 x.tag, .slice A1 x.vec.length c1, .string x.str]
      have hTw : ∀ i, T i → i < wr.heap.size := fun i e => by have := HTL.out i e; have := ho.size; omega
      obtain ⟨x0, x1, x2, x3, -⟩ := cells4' hgx
      have hs1 : (wr.alloc (.cells #[.int .u64 id, .int .i64 x.tag, .slice A1 x.vec.length c1, .string x.str] 31)).heap.size = wr.heap.size + 1 := by simp
      have HC : Hid (CallsIn Fence.wide (n - 1) Try.prog 28 #[.agg #[.int .i64 x.tag, .slice A1 x.vec.length c1, .string x.str]] (wr.alloc (.cells #[.int .u64 id, .int .i64 x.tag, .slice A1 x.vec.length c1, .string x.str] 31)) (ClonedO x (wr.alloc (.cells #[.int .u64 id, .int .i64 x.tag, .slice A1 x.vec.length c1, .string x.str] 31)))) :=
        Lib.hid (callsIn_wide.2 (cloneO_any A1 c1 wr.heap.size x _ hfit.1 hfit.2 hb1.size ((htl.sl hTw).alloc (Nat.le_refl _) _)))
      have hmk : M[pre.length]? = some (id, x) := by
        rw [hpl, ← HRM.out]
        unfold rM
        rw [List.getElem?_map, List.getElem?_eq_getElem hlt, hx]
        rfl
      have HN : ∀ w3 A3 c3, Below (wr.heap.size + 1) (wr.alloc (.cells #[.int .u64 id, .int .i64 x.tag, .slice A1 x.vec.length c1, .string x.str] 31)) w3 → w3.ownsRow (wr.heap.size + 1) 21 1 (.slice A3 x.vec.length c3) x.vec.length (iv x.vec) →
          Blk w3 wr.heap.size 31 #[.int .u64 id, .int .i64 x.tag, .slice A1 x.vec.length c1, .string x.str] ∧
          Blk (((w3.setCell ⟨wr.heap.size, 1, none⟩ (.int .i64 x.tag)).setCell ⟨wr.heap.size, 2, none⟩ (.slice A3 x.vec.length c3)).setCell ⟨wr.heap.size, 3, none⟩ (.string x.str)) wr.heap.size 31 #[.int .u64 id, .int .i64 x.tag, .slice A3 x.vec.length c3, .string x.str] ∧
          Only (Mine C B) w2 (((w3.setCell ⟨wr.heap.size, 1, none⟩ (.int .i64 x.tag)).setCell ⟨wr.heap.size, 2, none⟩ (.slice A3 x.vec.length c3)).setCell ⟨wr.heap.size, 3, none⟩ (.string x.str)) ∧
          YieldAt Fence.wide (n - 1) Try.prog l #[.agg #[.int .u64 id, .int .i64 x.tag, .slice A3 x.vec.length c3, .string x.str]] (((w3.setCell ⟨wr.heap.size, 1, none⟩ (.int .i64 x.tag)).setCell ⟨wr.heap.size, 2, none⟩ (.slice A3 x.vec.length c3)).setCell ⟨wr.heap.size, 3, none⟩ (.string x.str))
            fun e W' => (e = .returned (.bool true) ∧ J B (pre ++ [(id, ⟨x, A3, c3⟩)]) W' ∧ Only (Mine C B) (((w3.setCell ⟨wr.heap.size, 1, none⟩ (.int .i64 x.tag)).setCell ⟨wr.heap.size, 2, none⟩ (.slice A3 x.vec.length c3)).setCell ⟨wr.heap.size, 3, none⟩ (.string x.str)) W') ∨ (e = .returned (.bool false) ∧ Jx B (pre ++ [(id, ⟨x, A3, c3⟩)]) W') := fun w3 A3 c3 hb3 hown3 => by
        have hg3 := hgx.below hb3 (by omega)
        have hlow : Below wr.heap.size wr (((w3.setCell ⟨wr.heap.size, 1, none⟩ (.int .i64 x.tag)).setCell ⟨wr.heap.size, 2, none⟩ (.slice A3 x.vec.length c3)).setCell ⟨wr.heap.size, 3, none⟩ (.string x.str)) :=
          (((hb1.trans (hb3.mono (by omega))).setCell (p := ⟨wr.heap.size, 1, none⟩) (Nat.le_refl _) _).setCell (p := ⟨wr.heap.size, 2, none⟩) (Nat.le_refl _) _).setCell (p := ⟨wr.heap.size, 3, none⟩) (Nat.le_refl _) _
        have hrow : (((w3.setCell ⟨wr.heap.size, 1, none⟩ (.int .i64 x.tag)).setCell ⟨wr.heap.size, 2, none⟩ (.slice A3 x.vec.length c3)).setCell ⟨wr.heap.size, 3, none⟩ (.string x.str)).ownsRow w.heap.size 21 1 (.slice A3 x.vec.length c3) x.vec.length (iv x.vec) :=
          own_base (ownsRow_setCell_below (ownsRow_setCell_below (ownsRow_setCell_below hown3 (Nat.lt_succ_self _) _) (Nat.lt_succ_self _) _) (Nat.lt_succ_self _) _) (by have := ho.size; omega)
        have hjv : J B pre (((w3.setCell ⟨wr.heap.size, 1, none⟩ (.int .i64 x.tag)).setCell ⟨wr.heap.size, 2, none⟩ (.slice A3 x.vec.length c3)).setCell ⟨wr.heap.size, 3, none⟩ (.string x.str)) :=
          HJ.out B pre wr _ none hj ⟨hlow.os, hlow.tape, hlow.output, hlow.size, fun i hi _ => hlow.block i hi⟩ (fun r e => by cases e)
        refine ⟨hg3, ((hg3.set_ 1 _).set_ 2 _).set_ 3 _, ho.trans (Only.of_below hlow (Nat.le_refl _) (Mine C B)) fun i e => .inl e, ?_⟩
        exact HY.out B pre (id, ⟨x, A3, c3⟩) _ hjv ⟨hmk, by rw [hpl]; exact hpm, hfit, hrow⟩
      have HNN := Lib.hid HN
      clear HN hgx htl
      gi_wp2_with (refine ⟨trivial, ?_⟩; gi_at_call 28; (with_reducible refine HC.out.mono ?_); rintro e w3 ⟨A3, c3, rfl, hown3, hb3⟩; rw [hs1] at hown3 hb3; obtain ⟨hg3, hg4, ho4, fn, tmps, assign, body, hy, hR⟩ := HNN.out w3 A3 c3 hb3 hown3; obtain ⟨y0, y1, y2, y3, yf⟩ := cells4' hg3; obtain ⟨z0, z1, z2, z3, -⟩ := cells4' hg4; have HR := Lib.hid (hR.mono (R' := fun e W' => ∃ b, e = .returned (.bool b) ∧ Went (J B (pre ++ [(id, ⟨x, A3, c3⟩)])) (Jx B (pre ++ [(id, ⟨x, A3, c3⟩)])) (Mine C B) (((w3.setCell ⟨wr.heap.size, 1, none⟩ (.int .i64 x.tag)).setCell ⟨wr.heap.size, 2, none⟩ (.slice A3 x.vec.length c3)).setCell ⟨wr.heap.size, 3, none⟩ (.string x.str)) b W') Went.of); have HO4 := Lib.hid ho4; clear hR ho4 hg3 hg4)
      refine HR.out.mono ?_
      rintro e W3 ⟨b, rfl, hw3⟩
      cases b with
      | false =>
        have hx3 := hw3.2 rfl
        clear hw3
        gi_wp2
        refine bodyPost_ret (results_none rfl _ _ _) rfl ?_
        exact ⟨⟨_, rfl⟩, .inr ⟨_, _, hx3⟩⟩
      | true =>
        obtain ⟨hj3, ho3⟩ := hw3.1 rfl
        have HO3 := Lib.hid (HO4.out.trans ho3 fun i e => .inl e)
        clear hw3 ho3
        gi_wp2
        go_roundw
        case rel => exact ⟨k + 1, pre ++ [(id, ⟨x, A3, c3⟩)], by omega, by go_num, by simp [hpl], by rw [show rM (pre ++ [(id, (⟨x, A3, c3⟩ : Kept))]) = rM pre ++ [(id, x)] by simp [rM], hpm, List.take_add_one, ← hpl, hmk]; rfl, hj3, HO3.out⟩
        case measure => simp [intOf]; omega
    · obtain rfl : k = r.length := by omega
      have i1 : ¬ (r.length : Int) < (r.length : Int) := by omega
      clear HKP
      gi_wp2
      go_end0
      exact ⟨⟨_, rfl⟩, .inl ⟨B, pre, by rw [hpm, HLN.out, List.take_length], hj⟩⟩
end Go.Proofs.Ytaickhhbdbbmjaa.store
