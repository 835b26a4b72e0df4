/-
  The contract of cut, walked; Delete; Insert; Len.
-/
import Derived.Test.YtgbjpobgjmkjgaaGreatTbI
import Derived.Deep.Cut
import Derived.Deep.CutRange
namespace Go.Proofs.YtgbjpobgjmkjgaaGreat.tab
open Go.RowKit Go.WideShapes law bytes only flat nums ord obj metric pv lae Go.Maps
open told (own_types blk_types)
open Go.ChangeMaps Go.MapKept
open Go.WideElems (rg)
set_option linter.unusedVariables false
set_option maxRecDepth 100000

theorem step_delete_own {H : Type} {P : Program} (w : World) {ops : Array Oper} {o : Oper} {a : Act} {K : Act → World → Prop} {Q : Exit → Act → World → Prop} {E : Prop}
    (hg : o.guard = none) (m x : Operand) (t k : TypeId) (hop : o.op = Op.call { callee := Callee.builtin Builtin.delete, args := #[m, x], argTypes := #[t, k] })
    (e : TypeId) (Kd : Keyed P k) (ht : P.underlying t = some (.map k e)) (R : Value → Option (DataW H × List MemPlace)) (b n : Nat) (D : DataW H)
    (hm : a.eval m = .map (some b)) (hown : w.ownsMap P k R b n D) (key : Value) (kl : Lit) (hx : a.eval x = key) (hkey : keyOf P k key = some kl)
    (hK : ∀ w', w'.ownsMap P k R b n (D.del kl) → w.mapTurned w' b → K (a.put o.dst (.tuple #[])) w') :
    if Region.wanted o (yielded ops a.tmps) = true then Oper.wp P o a w K Q else E := by
  have hw : Region.wanted o (yielded ops a.tmps) = true := by simp [Region.wanted, hg]
  rw [if_pos hw]
  obtain ⟨w', hrun, r1, r2⟩ := hown.drop Kd ht hkey o.type
  unfold Oper.wp
  simp [execOp, hop, resolve, invoke, builtin, hm, hx, hrun, Result.andThen]
  exact hK w' r1 r2
theorem turned_only {w w' : World} {b : Nat} (h : w.mapTurned w' b) : Only (· = b) w w' := by
  obtain ⟨es, clock, es', clock', hb, rfl⟩ := h
  exact ⟨rfl, rfl, rfl, by simp [setBlock], fun i _ hs => heap_setBlock_other hb _ fun e => hs e⟩
theorem map_tight {H : Type} {P : Program} {k : TypeId} {R : Value → Option (DataW H × List MemPlace)} {w : World} {b n : Nat} {D : DataW H} (h : w.ownsMap P k R b n D) : w.ownsMap P k R b (Maps.size D) D := by
  obtain ⟨es, clock, hb, F, hs, rfl⟩ := h
  refine ⟨es, clock, hb, F, ?_, rfl⟩
  show es.size ≤ ((es.toList.map (rg P k R)).foldr DataW.insert []).length
  rw [length_sorted]
  simp
section
variable {w w' : World} {base tb g mb : Nat} {n k most : Int} {T S : Nat → Prop} {vP vR : Value} {P : List At} {R : List Ro} {r : Ro}
theorem len_any (h : Tx w base tb g mb n k most T vP vR P R) : Calls Tryz.prog 39 #[.pointer (some ⟨tb, 0, none⟩)] w fun e w' => e = .returned (.int .i64 R.length) ∧ Below w.heap.size w w' := by
  obtain ⟨A, c, rfl, -⟩ := own_slice h.rows
  obtain ⟨-, -, -, c3, -⟩ := h.cells
  clear h
  go_enter Tryz.func39, Tryz.ntmps39
  go_wp2_with (fail)
  go_ret
  exact ⟨rfl, Below.refl _ _⟩
theorem sizeP (W : World) : (sizeOf (Tryz.prog.elem 93)).run Tryz.prog W = .ok 1 W := by kernel_rfl
theorem slice_to {gR n c k : Nat} (hk : k ≤ n) (hc : n ≤ c) (h0 : 0 < n) : ∀ W : World, (Instr.slice 93 (.slice (some ⟨gR, 0, none⟩) n c) none (some (.int .i64 (k : Int))) none).run Tryz.prog W = .ok (.slice (some ⟨gR, 0, none⟩) k c) W := by
  intro W
  rw [run_slice_h W 93 _ n c Tryz.underlying93 .i64 (k : Int) (by omega) (by omega), sizeP]
  show Result.ok (sliced _ 0 (k : Int).toNat c 1) W = _
  unfold sliced
  rw [Int.toNat_natCast]
  by_cases e : c = 0
  · omega
  · simp [e, Addr.add]
/-- what cut leaves -/
def Cutted (w : World) (base tb g mb : Nat) (n k most : Int) (T : Nat → Prop) (vP : Value) (P : List At) (R : List Ro) (at_ : Nat) (e : Ending) (w' : World) : Prop :=
  e = .returned (.tuple #[]) ∧ ∃ vR', Tx w' base tb g mb n k most T vP vR' P (cutAt R at_) ∧ Only T w w'
/-- behind the store at the place -/
def CutQ (w wx : World) (base mb gR cR : Nat) (R : List Ro) (at_ zb : Nat) (D : DataW Unit) : Prop :=
  wx.ownsMap Tryz.prog 32 (plainElem (H := Unit) Tryz.prog 3) mb R.length D ∧ Only (fun i => i = mb ∨ i = gR) w wx ∧ wx.ownsRow base 109 1 (.slice (some ⟨gR, 0, none⟩) R.length cR) R.length ((pts R).set at_ (ptr zb))
set_option maxHeartbeats 3200000 in
theorem cut_any (h : Tx w base tb g mb n k most T vP vR P R) (at_ : Nat) (hat : at_ < R.length) (hR : R.length ≤ 1048576) :
    Calls Tryz.prog 73 #[.pointer (some ⟨tb, 0, none⟩), .int .i64 at_] w (Cutted w base tb g mb n k most T vP P R at_) := by
  obtain ⟨gR, cR, rfl, hgb, hgl, hcR⟩ := own_form h.rows (by omega)
  obtain ⟨D, hm, hpl⟩ := h.map
  obtain ⟨r, hr⟩ : ∃ r, R[at_] = r := ⟨_, rfl⟩
  obtain ⟨z, hz⟩ : ∃ z, R[R.length - 1]'(by omega) = z := ⟨_, rfl⟩
  have hrx := h.rx r (by rw [← hr]; exact List.getElem_mem hat)
  have hzx := h.rx z (by rw [← hz]; exact List.getElem_mem (by omega))
  have hyR : Ty w gR 109 := Ty.own h.rows rfl
  have hrg : r.b ≠ gR := fun e => absurd (hyR.one (e ▸ Ty.blk hrx.blk)) (by decide)
  have hzg : z.b ≠ gR := fun e => absurd (hyR.one (e ▸ Ty.blk hzx.blk)) (by decide)
  have htg : tb ≠ gR := fun e => absurd (hyR.one (e ▸ Ty.blk h.blk)) (by decide)
  have hmg : mb ≠ gR := fun e => Ty.map hm (e ▸ hyR)
  have hmt : tb ≠ mb := fun e => Ty.map hm (e ▸ Ty.blk h.blk)
  have hrm : r.b ≠ mb := fun e => Ty.map hm (e ▸ Ty.blk hrx.blk)
  have hzm : z.b ≠ mb := fun e => Ty.map hm (e ▸ Ty.blk hzx.blk)
  have hkr : keyOf Tryz.prog 32 (.int .u64 r.id) = some (.int .u64 r.id) := keyOf_int_mk Tryz.underlying32 hrx.wf
  have hkz : keyOf Tryz.prog 32 (.int .u64 z.id) = some (.int .u64 z.id) := keyOf_int_mk Tryz.underlying32 hzx.wf
  have hri : (ids R)[at_]? = some r.id := by simp [ids, hat, hr]
  have hzi : (ids R)[(ids R).length - 1]? = some z.id := by rw [ids_length]; simp [ids, hz, show R.length - 1 < R.length by omega]
  have hrb : Blk w r.b 108 (roC r) := hrx.blk
  have hzb : Blk w z.b 108 (roC z) := hzx.blk
  have hrp : (pts R)[at_]? = some (ptr r.b) := by simp [pts, hat, hr]
  have hzp : (pts R)[R.length - 1]? = some (ptr z.b) := by simp [pts, hz, show R.length - 1 < R.length by omega]
  have hpl2 : (pts R).length = R.length := by simp [pts]
  have HSS : Hid (∀ W, Only (· = mb) w W → W.cell? ⟨tb, 4, none⟩ = some (.map (some mb)) ∧ W.cell? ⟨tb, 3, none⟩ = some (.slice (some ⟨gR, 0, none⟩) R.length cR) ∧ W.cell? ⟨gR, at_, none⟩ = some (.pointer (some ⟨r.b, 0, none⟩)) ∧ W.cell? ⟨r.b, 0, none⟩ = some (.int .u64 r.id)) := Lib.hid fun W hW => by
    have b1 := Blk.only h.blk hW hmt
    have b2 := own_only h.rows hW fun i e => by simp only [Value.ownBlock, Option.some.injEq] at e; subst e; exact hmg.symm
    have b3 := Blk.only hrb hW hrm
    exact ⟨b1.cell 4, b1.cell 3, by rw [World.ownsRow.cellAt b2 at_ (by omega), hrp]; rfl, b3.cell 0⟩
  -- behind the map's first turn
  have hl1 : ((R.length - 1 : Nat) : Int) = (R.length : Int) - 1 := by omega
  have HG := Lib.hid (And.intro hgl (And.intro hmg (And.intro htg hmt)))
  have HEND : Hid (∀ w2 D2, Only (fun i => i = mb ∨ i = gR) w w2 → w2.ownsMap Tryz.prog 32 (plainElem (H := Unit) Tryz.prog 3) mb (R.length - 1) D2 → Pl D2 (cutAt (ids R) at_) → w2.ownsRow base 109 1 (.slice (some ⟨gR, 0, none⟩) (R.length - 1) cR) (R.length - 1) (cutAt (pts R) at_) →
      w2.cell? ⟨tb, 3, none⟩ = some (.slice (some ⟨gR, 0, none⟩) R.length cR) ∧ w2.frozen? ⟨tb, 3, none⟩ = false ∧ Cutted w base tb g mb n k most T vP P R at_ (.returned (.tuple #[])) (w2.setCell ⟨tb, 3, none⟩ (.slice (some ⟨gR, 0, none⟩) (R.length - 1) cR))) := Lib.hid fun w2 D2 ho h1 h2 h3 => by
    have b1 := Blk.only h.blk ho fun e => e.elim hmt htg
    obtain ⟨f1, f2⟩ := cut_fin (w1 := w) h hat ho h1 h2 h3
    exact ⟨b1.cell 3, b1.frozen 3, rfl, _, f1, f2⟩
  have hcl := cutAt_length (ids R) at_
  rw [ids_length] at hcl
  by_cases hlast : at_ = R.length - 1
  · -- it is the last one
    have H1 : Hid (∀ w1, w1.ownsMap Tryz.prog 32 (plainElem (H := Unit) Tryz.prog 3) mb R.length (D.del (ky r.id)) → Only (· = mb) w w1 → (∃ u, w1.cell? ⟨gR, at_, none⟩ = some u) ∧ w1.frozen? ⟨gR, at_, none⟩ = false ∧ w1.cell? ⟨tb, 3, none⟩ = some (.slice (some ⟨gR, 0, none⟩) R.length cR) ∧
        ∀ w2, w2 = w1.setCell ⟨gR, at_, none⟩ (.pointer none) → w2.cell? ⟨tb, 3, none⟩ = some (.slice (some ⟨gR, 0, none⟩) R.length cR) ∧ w2.frozen? ⟨tb, 3, none⟩ = false ∧ Hid (Cutted w base tb g mb n k most T vP P R at_ (.returned (.tuple #[])) (w2.setCell ⟨tb, 3, none⟩ (.slice (some ⟨gR, 0, none⟩) (R.length - 1) cR)))) := Lib.hid fun w1 hm1 ho1 => by
      have b2 : w1.ownsRow base 109 1 (.slice (some ⟨gR, 0, none⟩) R.length cR) R.length (pts R) := own_only h.rows ho1 fun i e => by simp only [Value.ownBlock, Option.some.injEq] at e; subst e; exact hmg.symm
      have b3 := Blk.only h.blk ho1 hmt
      have hc := World.ownsRow.cellAt b2 at_ (by omega)
      rw [hrp] at hc
      refine ⟨⟨_, hc⟩, b2.frozenAt at_, b3.cell 3, fun w2 hw2 => ?_⟩
      have hos : Only (· = gR) w1 w2 := by rw [hw2]; exact Only.setCell (S := (· = gR)) (p := ⟨gR, at_, none⟩) (Only.refl _ _) (.inl rfl) _
      have hO : Only (fun i => i = mb ∨ i = gR) w w2 := (ho1.mono fun i e => .inl (.inl e)).trans hos fun i e => .inl (.inr e)
      have hp := hpl.cut_last h.nd hzi
      have er : r = z := by
        rw [← hr, ← hz]
        congr 1
      rw [← er, ids_length, ← hlast] at hp
      have hm2 := map_tight (map_only hm1 hos hmg)
      rw [hp.2.1, hcl] at hm2
      have hset := own_set b2 at_ (.pointer none)
      rw [← hw2] at hset
      have htk := own_take hset (R.length - 1) (by omega)
      have e4 : ((pts R).set at_ (.pointer none)).take (R.length - 1) = cutAt (pts R) at_ := by
        have := take_set_last (pts R) (.pointer none)
        rw [hpl2] at this
        rw [hlast, this]
        have h6 := cutAt_last (l := pts R) (by omega)
        rw [hpl2] at h6
        exact h6.symm
      rw [e4] at htk
      obtain ⟨f1, f2, f3⟩ := HEND.out w2 _ hO hm2 hp htk
      exact ⟨f1, f2, Lib.hid f3⟩
    obtain ⟨p4, p3, pr, pi⟩ := HSS.out w (Only.refl _ _)
    have HM := Lib.hid hm
    have d0 : ¬ (at_ : Int) < (R.length : Int) - 1 := by omega
    have d1 : decide ((at_ : Int) < (R.length : Int) - 1) = false := decide_eq_false d0
    have i1 : (at_ : Int) < (R.length : Int) := by omega
    have i2 : IntKind.i64.wrap ((R.length : Int) - 1) = (R.length : Int) - 1 := by rw [IntKind.wrap_i64]; omega
    have i3 : (R.length : Int) - 1 < (R.length : Int) := by omega
    have i4 : (0 : Int) ≤ (R.length : Int) - 1 := by omega
    have ea : (R.length : Int) - 1 = (at_ : Int) := by omega
    have HSLC := Lib.hid (slice_to (gR := gR) (k := at_) (show at_ ≤ R.length by omega) hcR (by omega))
    have hnn : R.length - 1 = at_ := by omega
    rw [hnn] at H1
    have HLN := Lib.hid hnn
    clear HEND h hm hpl hrx hzx hyR hrg hzg htg hmg hmt hrm hzm hri hzi hrb hzb hrp hzp hpl2 hcl hkz hr hz hat hl1 hgb hgl hcR hlast hnn HG d0
    go_enter Tryz.func73, Tryz.ntmps73
    go_wp2_with (fail)
    go_region_held3 (fun W => W.cell? ⟨tb, 4, none⟩ = some (.map (some mb)) ∧ W.cell? ⟨tb, 3, none⟩ = some (.slice (some ⟨gR, 0, none⟩) R.length cR) ∧ W.cell? ⟨gR, at_, none⟩ = some (.pointer (some ⟨r.b, 0, none⟩)) ∧ W.cell? ⟨r.b, 0, none⟩ = some (.int .u64 r.id))
      ((first | (with_reducible assumption) | (refine HSS.out _ ?_; repeat' (first | (with_reducible assumption) | (with_reducible exact Only.refl _ _) | (with_reducible refine Only.drew ?_) | (with_reducible refine Only.drewN ?_ _)))))
      (first
        | (refine step_delete_own _ (by rfl) _ _ 92 32 (by rfl) 3 idx.mlaw Tryz.underlying92 (plainElem (H := Unit) Tryz.prog 3) mb R.length D (by rfl) (World.ownsMap.drew HM.out) _ (ky r.id) (by rfl) hkr ?_; intro w1 hm1 ht1; have hO1 : Only (· = mb) w w1 := (Only.refl _ w).drew.trans (turned_only ht1) fun j e => .inl e))
    all_goals
      obtain ⟨⟨u, k1⟩, k2, k3, k4⟩ := H1.out w1 hm1 hO1
      obtain ⟨w2, hw2⟩ : ∃ w2, w2 = w1.setCell ⟨gR, at_, none⟩ (.pointer none) := ⟨_, rfl⟩
      obtain ⟨k5, k6, k7⟩ := k4 w2 hw2
      have HW2 := Lib.hid hw2
      rw [hw2] at k5 k6
      clear hm1 ht1 hO1 k4 hw2 H1 HSS HM p4 p3 pr pi hkr
      have hsl := HSLC.out
      go_wp2_with (fail)
      rw [← HW2.out]
      refine bodyPost_ret (v := .tuple #[]) (by simp [results, Tryz.results73, go_sem]) rfl ?_
      exact k7.out
  · -- the last one takes its place
    have hk1 : at_ + 1 < R.length := by omega
    obtain ⟨L, hL⟩ : ∃ L, R.length - 1 = L := ⟨_, rfl⟩
    have hQ : Hid (∀ wx, CutQ w wx base mb gR cR R at_ z.b (D.del (ky r.id)) → ∃ w3, (Instr.mapUpdate 92 (.map (some mb)) (.int .u64 z.id) (.int .i64 (at_ : Int))).run Tryz.prog wx.drew = .ok () w3 ∧ Only (· = mb) wx w3 ∧
        (∀ W, Only (· = mb) wx W → W.cell? ⟨tb, 4, none⟩ = some (.map (some mb)) ∧ W.cell? ⟨tb, 3, none⟩ = some (.slice (some ⟨gR, 0, none⟩) R.length cR) ∧ W.cell? ⟨gR, at_, none⟩ = some (.pointer (some ⟨z.b, 0, none⟩)) ∧ W.cell? ⟨z.b, 0, none⟩ = some (.int .u64 z.id)) ∧
        (∃ u, w3.cell? ⟨gR, L, none⟩ = some u) ∧ w3.frozen? ⟨gR, L, none⟩ = false ∧ w3.cell? ⟨tb, 3, none⟩ = some (.slice (some ⟨gR, 0, none⟩) R.length cR) ∧
        ∀ w4, w4 = w3.setCell ⟨gR, L, none⟩ (.pointer none) → w4.cell? ⟨tb, 3, none⟩ = some (.slice (some ⟨gR, 0, none⟩) R.length cR) ∧ w4.frozen? ⟨tb, 3, none⟩ = false ∧ Hid (Cutted w base tb g mb n k most T vP P R at_ (.returned (.tuple #[])) (w4.setCell ⟨tb, 3, none⟩ (.slice (some ⟨gR, 0, none⟩) L cR)))) := Lib.hid fun wx hq => by
      obtain ⟨q1, q2, q3⟩ := hq
      have hval : plainElem (H := Unit) Tryz.prog 3 (.int .i64 (at_ : Int)) = some (.lit (.int .i64 (at_ : Int)), []) := plainElem_int Tryz.underlying3 (by simp [Lit.wf, IntKind.min, IntKind.max, IntKind.signed, IntKind.bits]; omega)
      obtain ⟨w3, hrun, hm3, hg3⟩ := (World.ownsMap.drew q1).update (t := 92) (e := 3) idx.mlaw Tryz.underlying92 (show R.length < maxLen by unfold maxLen; omega) hkz hval
      have hO3 : Only (· = mb) wx w3 := (Only.refl _ wx).drew.trans (Only.of_grown hg3 (S := (· = mb)) fun j e => .inl (by injection e with e; exact e.symm)) fun j e => .inl e
      have htx : ¬ (tb = mb ∨ tb = gR) := fun e => e.elim hmt htg
      have b1 := Blk.only h.blk q2 htx
      have bz := Blk.only hzb q2 fun e => e.elim hzm hzg
      have hgx : ∀ i, (Value.slice (some ⟨gR, 0, none⟩) R.length cR).ownBlock = some i → ¬ i = mb := fun i e => by simp only [Value.ownBlock, Option.some.injEq] at e; subst e; exact hmg.symm
      have r3 := own_only q3 hO3 hgx
      have b3 := Blk.only b1 hO3 hmt
      have hlen : ((pts R).set at_ (ptr z.b)).length = R.length := by rw [List.length_set, hpl2]
      have hcL := World.ownsRow.cellAt r3 L (by omega)
      rw [List.getElem?_eq_getElem (by omega)] at hcL
      refine ⟨w3, hrun, hO3, fun W hW => ?_, ⟨_, hcL⟩, r3.frozenAt L, b3.cell 3, fun w4 hw4 => ?_⟩
      · have c1 := Blk.only b1 hW hmt
        have c2 := own_only q3 hW hgx
        have c3 := Blk.only bz hW hzm
        refine ⟨c1.cell 4, c1.cell 3, ?_, c3.cell 0⟩
        rw [World.ownsRow.cellAt c2 at_ (by omega), List.getElem?_set_self (by omega)]
        rfl
      · have hos : Only (· = gR) w3 w4 := by rw [hw4]; exact Only.setCell (S := (· = gR)) (p := ⟨gR, L, none⟩) (Only.refl _ _) (.inl rfl) _
        have hO : Only (fun i => i = mb ∨ i = gR) w w4 := (q2.trans hO3 fun i e => .inl (.inl e)).trans hos fun i e => .inl (.inr e)
        have hp := hpl.cut h.nd (k := at_) (by rw [ids_length]; exact hk1) hri hzi
        have hm4 := map_tight (map_only hm3 hos hmg)
        rw [show (D.del (ky r.id)).put (.int .u64 z.id) (.lit (.int .i64 (at_ : Int))) = (D.del (ky r.id)).put (ky z.id) (.lit (.int .i64 (at_ : Int))) from rfl, hp.2.1, hcl] at hm4
        have hset := own_set r3 L (.pointer none)
        rw [← hw4] at hset
        have htk := own_take hset (R.length - 1) (by omega)
        have e4 : ((((pts R).set at_ (ptr z.b)).set L (.pointer none)).take (R.length - 1)) = cutAt (pts R) at_ := by
          have h6 := cut_list (l := pts R) (k := at_) (x := ptr z.b) (z := .pointer none) (by omega) (by rw [hpl2]; exact hzp)
          rw [hpl2, hL] at h6
          rw [hL]
          exact h6
        rw [e4] at htk
        obtain ⟨f1, f2, f3⟩ := HEND.out w4 _ hO hm4 hp htk
        rw [hL] at f3
        exact ⟨f1, f2, Lib.hid f3⟩
    have H1 : Hid (∀ w1, w1.ownsMap Tryz.prog 32 (plainElem (H := Unit) Tryz.prog 3) mb R.length (D.del (ky r.id)) → Only (· = mb) w w1 → w1.cell? ⟨tb, 3, none⟩ = some (.slice (some ⟨gR, 0, none⟩) R.length cR) ∧ w1.cell? ⟨gR, L, none⟩ = some (.pointer (some ⟨z.b, 0, none⟩)) ∧ (∃ u, w1.cell? ⟨gR, at_, none⟩ = some u) ∧ w1.frozen? ⟨gR, at_, none⟩ = false ∧
        CutQ w (w1.drew.setCell ⟨gR, at_, none⟩ (.pointer (some ⟨z.b, 0, none⟩))) base mb gR cR R at_ z.b (D.del (ky r.id))) := Lib.hid fun w1 hm1 ho1 => by
      have b2 : w1.ownsRow base 109 1 (.slice (some ⟨gR, 0, none⟩) R.length cR) R.length (pts R) := own_only h.rows ho1 fun i e => by simp only [Value.ownBlock, Option.some.injEq] at e; subst e; exact hmg.symm
      have b3 := Blk.only h.blk ho1 hmt
      have hc := World.ownsRow.cellAt b2 at_ (by omega)
      rw [hrp] at hc
      have hc2 := World.ownsRow.cellAt b2 L (by omega)
      rw [← hL, hzp] at hc2
      rw [hL] at hc2
      have hos : Only (· = gR) w1 (w1.drew.setCell ⟨gR, at_, none⟩ (.pointer (some ⟨z.b, 0, none⟩))) := Only.setCell (S := (· = gR)) (p := ⟨gR, at_, none⟩) (Only.refl _ w1).drew (.inl rfl) _
      exact ⟨b3.cell 3, hc2, ⟨_, hc⟩, b2.frozenAt at_, map_only hm1 hos hmg, (ho1.mono fun i e => .inl (.inl e)).trans hos fun i e => .inl (.inr e), own_set (w := w1.drew) b2 at_ (ptr z.b)⟩
    obtain ⟨p4, p3, pr, pi⟩ := HSS.out w (Only.refl _ _)
    have HM := Lib.hid hm
    have i1 : (at_ : Int) < (R.length : Int) := by omega
    have i2 : IntKind.i64.wrap ((R.length : Int) - 1) = (R.length : Int) - 1 := by rw [IntKind.wrap_i64]; omega
    have ea : (R.length : Int) - 1 = (L : Int) := by omega
    have i3 : (L : Int) < (R.length : Int) := by omega
    have i4 : (at_ : Int) < (L : Int) := by omega
    have HSLC := Lib.hid (slice_to (gR := gR) (k := L) (show L ≤ R.length by omega) hcR (by omega))
    clear HEND h hm hpl hrx hzx hyR hrg hzg htg hmg hmt hrm hzm hri hzi hrb hzb hrp hzp hpl2 hcl hkz hr hz hat hl1 hgb hgl hcR hlast hk1 hL HG
    go_enter Tryz.func73, Tryz.ntmps73
    go_wp2_with (fail)
    go_region_held3 (fun W => W.cell? ⟨tb, 4, none⟩ = some (.map (some mb)) ∧ W.cell? ⟨tb, 3, none⟩ = some (.slice (some ⟨gR, 0, none⟩) R.length cR) ∧ W.cell? ⟨gR, at_, none⟩ = some (.pointer (some ⟨r.b, 0, none⟩)) ∧ W.cell? ⟨r.b, 0, none⟩ = some (.int .u64 r.id))
      ((first | (with_reducible assumption) | (refine HSS.out _ ?_; repeat' (first | (with_reducible assumption) | (with_reducible exact Only.refl _ _) | (with_reducible refine Only.drew ?_) | (with_reducible refine Only.drewN ?_ _)))))
      (first
        | (refine step_delete_own _ (by rfl) _ _ 92 32 (by rfl) 3 idx.mlaw Tryz.underlying92 (plainElem (H := Unit) Tryz.prog 3) mb R.length D (by rfl) (World.ownsMap.drew HM.out) _ (ky r.id) (by rfl) hkr ?_; intro w1 hm1 ht1; have hO1 : Only (· = mb) w w1 := (Only.refl _ w).drew.trans (turned_only ht1) fun j e => .inl e))
    all_goals
      obtain ⟨k1, k2, ⟨u, k3⟩, k4, k5⟩ := H1.out w1 hm1 hO1
      have HQ5 := Lib.hid k5
      clear hm1 ht1 hO1 H1 HSS HM p4 p3 pr pi hkr k5
      go_upto_region 3 with (fail)
      go_cut [] from 29 (fun wx => CutQ w wx base mb gR cR R at_ z.b (D.del (ky r.id)))
      case first =>
        go_region
        all_goals
          go_wp2_with (fail)
          go_meet
          case rel => exact HQ5.out
      case rest =>
        obtain ⟨w3, hrun, hO3, hS, ⟨u2, m1⟩, m2, m3, m4⟩ := hQ.out _ hcut
        have HS := Lib.hid hS
        obtain ⟨s1, s2, s3, s4⟩ := HS.out wc (Only.refl _ _)
        clear hS hcut HQ5 k1 k2 k3 k4
        go_wp2_with (fail)
        go_region_held3 (fun W => W.cell? ⟨tb, 4, none⟩ = some (.map (some mb)) ∧ W.cell? ⟨tb, 3, none⟩ = some (.slice (some ⟨gR, 0, none⟩) R.length cR) ∧ W.cell? ⟨gR, at_, none⟩ = some (.pointer (some ⟨z.b, 0, none⟩)) ∧ W.cell? ⟨z.b, 0, none⟩ = some (.int .u64 z.id))
          ((first | (with_reducible assumption) | (refine HS.out _ ?_; repeat' (first | (with_reducible assumption) | (with_reducible exact Only.refl _ _) | (with_reducible refine Only.drew ?_) | (with_reducible refine Only.drewN ?_ _)))))
          (fail)
        all_goals
          obtain ⟨w4, hw4⟩ : ∃ w4, w4 = w3.setCell ⟨gR, L, none⟩ (.pointer none) := ⟨_, rfl⟩
          obtain ⟨k5, k6, k7⟩ := m4 w4 hw4
          have HW4 := Lib.hid hw4
          rw [hw4] at k5 k6
          clear m4 hw4 hQ hrun hO3 HS s1 s2 s3 s4
          have hsl := HSLC.out
          go_wp2_with (fail)
          rw [← HW4.out]
          refine bodyPost_ret (v := .tuple #[]) (by simp [results, Tryz.results73, go_sem]) rfl ?_
          exact k7.out
end
end Go.Proofs.YtgbjpobgjmkjgaaGreat.tab
