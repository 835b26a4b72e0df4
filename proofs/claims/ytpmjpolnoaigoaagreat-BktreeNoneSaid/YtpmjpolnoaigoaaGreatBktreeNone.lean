/-
  A nil tree has nothing: Insert, Delete, Bulk tell ErrNil, Range, Near, Items and Image's nodes are empty, Len, Gone, Depth are 0, its walk tells nothing (P23.4); what lives, lives. No condition.
-/
import Derived.Test.YtpmjpolnoaigoaaGreatBkV
import Derived.Test.YtpmjpolnoaigoaaGreatBkO
namespace Go.Proofs.YtpmjpolnoaigoaaGreat.bktreeNone
open Go.RowKit Go.ChangeShapes Go.WideShapes Go.ChangeAt law bytes only flat nums ord obj bk
open aro (Kept)
open store (iE item_in item_fit RI Fit)
set_option linter.unusedVariables false
set_option maxRecDepth 100000

/-- an item as a value -/
def iV (id : Int) (k : Kept) : Value := .agg #[.int .u64 id, .int .i64 k.x.tag, .slice k.A k.x.vec.length k.c, .string k.x.str]
set_option maxHeartbeats 3200000 in
theorem walk (id : Int) (p : Kept) (nn : Int) (w : World) (hx : Fit p.x) (hs : Sl w w.heap.size p.A (iv p.x.vec)) : Calls Tryz.prog 7 #[iV id p, .int .i64 nn] w fun e w' => e = .returned (.bool true) ∧ Below w.heap.size w w' := by
  unfold iV
  obtain ⟨V, hV⟩ : ∃ V, V = w.alloc (.cells #[.int .u64 id, .int .i64 p.x.tag, .slice p.A p.x.vec.length p.c, .string p.x.str] 37) := ⟨_, rfl⟩
  have hbV : Below w.heap.size w V := by rw [hV]; exact (Below.refl _ _).alloc (Nat.le_refl _) _
  have hkx : Blk V w.heap.size 37 #[.int .u64 id, .int .i64 p.x.tag, .slice p.A p.x.vec.length p.c, .string p.x.str] := by rw [hV]; exact Blk.new w _ _
  have hzV : V.heap.size = w.heap.size + 1 := by rw [hV]; simp
  obtain ⟨c0, c1, c2, c3, -⟩ := cells4' hkx
  have HW := Lib.hid (bk.Walk_nil p.A p.c p.x V hx ((hs.below hbV).more hbV.size))
  have HX := Lib.hid (And.intro hkx (And.intro hbV hzV))
  have HV := Lib.hid hV
  rw [hV] at c0 c1 c2 c3
  clear hkx hbV hzV hV hx hs
  go_enter Tryz.func7, Tryz.ntmps7
  go_wp2_with (fail)
  rw [← HV.out]
  refine HW.out.mono ?_
  rintro e a1 ⟨wb, rfl, ha1, hn⟩
  clear HW c0 c1 c2 c3 HV
  go_wp2_with (fail)
  refine hn.out.mono ?_
  rintro e a2 ⟨rfl, ha2⟩
  have HA2 := Lib.hid ha2
  clear hn ha1 ha2
  obtain ⟨U, hU⟩ : ∃ U, U = a2.alloc (.cells #[.int .u64 0, .int .i64 0] 83) := ⟨_, rfl⟩
  have HS : Hid (∀ W, Below U.heap.size U W → W.cell? ⟨w.heap.size, 0, none⟩ = some (.int .u64 id) ∧ W.cell? ⟨w.heap.size, 1, none⟩ = some (.int .i64 p.x.tag) ∧ W.cell? ⟨w.heap.size, 2, none⟩ = some (.slice p.A p.x.vec.length p.c) ∧ W.cell? ⟨w.heap.size, 3, none⟩ = some (.string p.x.str) ∧
      W.cell? ⟨a2.heap.size, 0, none⟩ = some (.int .u64 0) ∧ W.cell? ⟨a2.heap.size, 1, none⟩ = some (.int .i64 0)) := Lib.hid fun W hW => by
    have h1 := HA2.out
    have hb : Below a2.heap.size a2 U := by rw [hU]; exact (Below.refl _ _).alloc (Nat.le_refl _) _
    have hz : U.heap.size = a2.heap.size + 1 := by rw [hU]; simp
    have k1 : Blk U a2.heap.size 83 #[.int .u64 0, .int .i64 0] := by rw [hU]; exact Blk.new a2 _ _
    have hs1 := h1.size
    have k2 := k1.below hW (by omega)
    have k3 := ((HX.out.1.below h1 HX.out.1.lt).below hb (by have := HX.out.1.lt; omega)).below hW (by have := HX.out.1.lt; omega)
    exact ⟨k3.cell 0, k3.cell 1, k3.cell 2, k3.cell 3, k2.cell 0, k2.cell 1⟩
  have HF : Hid (∀ W, Below U.heap.size U W → Below w.heap.size w W) := Lib.hid fun W hW => by
    have h1 := HA2.out
    have hb : Below a2.heap.size a2 U := by rw [hU]; exact (Below.refl _ _).alloc (Nat.le_refl _) _
    have hs1 := h1.size
    have hz := HX.out.2.2
    have h5 := HX.out.2.1.trans (h1.mono (by omega))
    exact (h5.trans (hb.mono h5.size)).trans (hW.mono (by have := hb.size; have := h5.size; omega))
  have HC0 : Hid (∀ (W : World), Below U.heap.size U W → Calls Tryz.prog 40 #[.pointer none, .agg #[.int .u64 id, .int .i64 p.x.tag, .slice p.A p.x.vec.length p.c, .string p.x.str], .pointer none] W fun e w' => e = .returned (.int .i64 1) ∧ Below U.heap.size U w') := Lib.hid fun W hW => (bk.insert_nil _ _ _ _ _ _ _ W).mono fun e w' ⟨he, hb⟩ => ⟨he, hW.trans (hb.mono hW.size)⟩
  have HC1 : Hid (∀ (W : World), Below U.heap.size U W → Calls Tryz.prog 41 #[.pointer none, .int .u64 id, .pointer none] W fun e w' => e = .returned (.int .i64 1) ∧ Below U.heap.size U w') := Lib.hid fun W hW => (bk.delete_nil _ _ W).mono fun e w' ⟨he, hb⟩ => ⟨he, hW.trans (hb.mono hW.size)⟩
  have HC2 : Hid (∀ (W : World) (b : Nat), Below U.heap.size U W → Calls Tryz.prog 42 #[.pointer none, .slice (some ⟨b, 0, none⟩) 1 1, .pointer none] W fun e w' => e = .returned (.int .i64 1) ∧ Below U.heap.size U w') := Lib.hid fun W b hW => (bk.bulk_nil _ _ _ _ W).mono fun e w' ⟨he, hb⟩ => ⟨he, hW.trans (hb.mono hW.size)⟩
  have HC3 : Hid (∀ (W : World), Below U.heap.size U W → Calls Tryz.prog 37 #[.pointer none, .agg #[.int .i64 p.x.tag, .slice p.A p.x.vec.length p.c, .string p.x.str], .int .i64 nn] W fun e w' => e = .returned (.slice none 0 0) ∧ Below U.heap.size U w') := Lib.hid fun W hW => (bk.range_nil _ _ _ _ _ _ W).mono fun e w' ⟨he, hb⟩ => ⟨he, hW.trans (hb.mono hW.size)⟩
  have HC4 : Hid (∀ (W : World), Below U.heap.size U W → Calls Tryz.prog 43 #[.pointer none, .agg #[.int .i64 p.x.tag, .slice p.A p.x.vec.length p.c, .string p.x.str], .int .i64 nn] W fun e w' => (∃ A c, e = .returned (.slice A 0 c)) ∧ Below U.heap.size U w') := Lib.hid fun W hW => (bk.near_nil _ _ _ _ _ _ W).mono fun e w' ⟨he, hb⟩ => ⟨he, hW.trans (hb.mono hW.size)⟩
  have HC5 : Hid (∀ (W : World), Below U.heap.size U W → Calls Tryz.prog 44 #[.pointer none] W fun e w' => e = .returned (.int .i64 0) ∧ Below U.heap.size U w') := Lib.hid fun W hW => (bk.len_nil W).mono fun e w' ⟨he, hb⟩ => ⟨he, hW.trans (hb.mono hW.size)⟩
  have HC6 : Hid (∀ (W : World), Below U.heap.size U W → Calls Tryz.prog 45 #[.pointer none] W fun e w' => e = .returned (.slice none 0 0) ∧ Below U.heap.size U w') := Lib.hid fun W hW => (bk.items_nil W).mono fun e w' ⟨he, hb⟩ => ⟨he, hW.trans (hb.mono hW.size)⟩
  have HC7 : Hid (∀ (W : World), Below U.heap.size U W → Calls Tryz.prog 29 #[.pointer none] W fun e w' => e = .returned (.int .i64 0) ∧ Below U.heap.size U w') := Lib.hid fun W hW => (bk.gone_nil W).mono fun e w' ⟨he, hb⟩ => ⟨he, hW.trans (hb.mono hW.size)⟩
  have HC8 : Hid (∀ (W : World), Below U.heap.size U W → Calls Tryz.prog 46 #[.pointer none] W fun e w' => e = .returned (.int .i64 0) ∧ Below U.heap.size U w') := Lib.hid fun W hW => (bk.depth_nil W).mono fun e w' ⟨he, hb⟩ => ⟨he, hW.trans (hb.mono hW.size)⟩
  have HC9 : Hid (∀ (W : World), Below U.heap.size U W → Calls Tryz.prog 27 #[.pointer none] W fun e w' => e = .returned (.agg #[.slice none 0 0, .slice none 0 0, .slice none 0 0, .int .i64 0, .slice none 0 0, .slice none 0 0]) ∧ Below U.heap.size U w') := Lib.hid fun W hW => (bk.image_nil W).mono fun e w' ⟨he, hb⟩ => ⟨he, hW.trans (hb.mono hW.size)⟩
  have HC10 : Hid (∀ (W : World), Below U.heap.size U W → Calls Tryz.prog 24 #[] W fun e w' => e = .returned (.bool true) ∧ Below U.heap.size U w') := Lib.hid fun W hW => (bk.lives_any W).mono fun e w' ⟨he, hb⟩ => ⟨he, hW.trans (hb.mono hW.size)⟩
  have hfld : ∀ (W : World), (Instr.field 50 (.agg #[.slice none 0 0, .slice none 0 0, .slice none 0 0, .int .i64 0, .slice none 0 0, .slice none 0 0]) 0).run Tryz.prog W = .ok (.slice none 0 0) W := fun W => by kernel_rfl
  obtain ⟨w0, hw0⟩ : ∃ w0, w0 = U := ⟨_, rfl⟩
  have B0 : Hid (Below U.heap.size U w0) := Lib.hid (by rw [hw0]; exact Below.refl _ _)
  obtain ⟨x0, x1, x2, x3, y0, y1⟩ := HS.out _ B0.out
  have HUU := Lib.hid (hw0.trans hU)
  rw [hw0, hU] at x0 x1 x2 x3 y0 y1
  have C0 := Lib.hid (HC0.out _ B0.out)
  clear HX hw0 hU HA2
  go_wp2_with (fail)
  rw [← HUU.out]
  clear HUU
  refine C0.out.mono ?_
  rintro e w1 ⟨rfl, hb⟩
  have B1 := Lib.hid hb
  clear hb C0 x0 x1 x2 x3 y0 y1
  obtain ⟨x0, x1, x2, x3, y0, y1⟩ := HS.out _ B1.out
  have C1 := Lib.hid (HC1.out _ B1.out)
  go_wp2_with (fail)
  refine C1.out.mono ?_
  rintro e w2 ⟨rfl, hb⟩
  have B2 := Lib.hid hb
  clear hb C1 x0 x1 x2 x3 y0 y1
  obtain ⟨x0, x1, x2, x3, y0, y1⟩ := HS.out _ B2.out
  have hbA : Below U.heap.size U (w2.alloc (.cells #[.int .u64 id, .int .i64 p.x.tag, .slice p.A p.x.vec.length p.c, .string p.x.str] 37)) := B2.out.alloc B2.out.size _
  have C2 := Lib.hid (HC2.out _ w2.heap.size hbA)
  clear hbA
  go_wp2_with (fail)
  refine C2.out.mono ?_
  rintro e w3 ⟨rfl, hb⟩
  have B3 := Lib.hid hb
  clear hb C2 x0 x1 x2 x3 y0 y1
  obtain ⟨x0, x1, x2, x3, y0, y1⟩ := HS.out _ B3.out
  have C3 := Lib.hid (HC3.out _ B3.out)
  go_wp2_with (fail)
  refine C3.out.mono ?_
  rintro e w4 ⟨rfl, hb⟩
  have B4 := Lib.hid hb
  clear hb C3 x0 x1 x2 x3 y0 y1
  obtain ⟨x0, x1, x2, x3, y0, y1⟩ := HS.out _ B4.out
  have C4 := Lib.hid (HC4.out _ B4.out)
  go_wp2_with (fail)
  refine C4.out.mono ?_
  rintro e w5 ⟨⟨A9, c9, rfl⟩, hb⟩
  have B5 := Lib.hid hb
  clear hb C4 x0 x1 x2 x3 y0 y1
  obtain ⟨x0, x1, x2, x3, y0, y1⟩ := HS.out _ B5.out
  have C5 := Lib.hid (HC5.out _ B5.out)
  go_wp2_with (fail)
  refine C5.out.mono ?_
  rintro e w6 ⟨rfl, hb⟩
  have B6 := Lib.hid hb
  clear hb C5 x0 x1 x2 x3 y0 y1
  obtain ⟨x0, x1, x2, x3, y0, y1⟩ := HS.out _ B6.out
  have C6 := Lib.hid (HC6.out _ B6.out)
  go_wp2_with (fail)
  refine C6.out.mono ?_
  rintro e w7 ⟨rfl, hb⟩
  have B7 := Lib.hid hb
  clear hb C6 x0 x1 x2 x3 y0 y1
  obtain ⟨x0, x1, x2, x3, y0, y1⟩ := HS.out _ B7.out
  have C7 := Lib.hid (HC7.out _ B7.out)
  go_wp2_with (fail)
  refine C7.out.mono ?_
  rintro e w8 ⟨rfl, hb⟩
  have B8 := Lib.hid hb
  clear hb C7 x0 x1 x2 x3 y0 y1
  obtain ⟨x0, x1, x2, x3, y0, y1⟩ := HS.out _ B8.out
  have C8 := Lib.hid (HC8.out _ B8.out)
  go_wp2_with (fail)
  refine C8.out.mono ?_
  rintro e w9 ⟨rfl, hb⟩
  have B9 := Lib.hid hb
  clear hb C8 x0 x1 x2 x3 y0 y1
  obtain ⟨x0, x1, x2, x3, y0, y1⟩ := HS.out _ B9.out
  have C9 := Lib.hid (HC9.out _ B9.out)
  go_wp2_with (fail)
  refine C9.out.mono ?_
  rintro e w10 ⟨rfl, hb⟩
  have B10 := Lib.hid hb
  clear hb C9 x0 x1 x2 x3 y0 y1
  obtain ⟨x0, x1, x2, x3, y0, y1⟩ := HS.out _ B10.out
  have C10 := Lib.hid (HC10.out _ B10.out)
  go_wp2_with (fail)
  refine C10.out.mono ?_
  rintro e w11 ⟨rfl, hb⟩
  have B11 := Lib.hid hb
  clear hb C10 x0 x1 x2 x3 y0 y1
  have HE := Lib.hid (HF.out _ B11.out)
  go_wp2_with (fail)
  go_ret
  exact ⟨rfl, HE.out⟩

theorem lifted (os : Os) (started : os.Started) (H : Type) (enc : TypeId × Value → H) :
    ReturnsInHanded {} Tryz.checked os 7 .any (Rows.bktreeNoneSpec.pre6 enc Tryz.prog Tryz.f7 Rows.bktreeNoneRow.domain false) (Rows.bktreeNoneSpec.post enc Tryz.prog Tryz.f7 false true false false) := by
  refine lift (C := Tryz.checked) (by kernel_rfl) started (by kernel_rfl) Tryz.func7 rfl (by kernel_rfl) (by kernel_rfl) rfl Tryz.underlying4
    (fun ds hd => by match ds, hd with | [_, _], _ => exact ⟨rfl, rfl, rfl⟩)
    (ChangeSpec.witness6 (enc := enc) (C := Tryz.checked) false ⟨#[], #[.agg #[.int .u64 0, .int .i64 0, .slice none 0 0, .string ⟨#[]⟩], .int .i64 0], []⟩ 8 (by kernel_rfl) (by kernel_rfl) (by kernel_rfl) (by kernel_rfl)) ?_
  intro W base args ds before hval0 hA0 hfz hsz0
  have hval : ∀ (j : Nat) t v, Tryz.f7.params[j]? = some t → args[j]? = some v → Value.okWide Tryz.prog W .any base t v := hval0
  have hA : DataW.TrodAll enc Tryz.prog W 0 (fun _ => true) true Tryz.f7.params.toList args.toList ds before := hA0
  have hsz : (DataW.weightsEach Tryz.prog Tryz.f7.params.toList ds).all (· ≤ reachBytes) = true := hsz0
  rw [Tryz.params7] at hA hval hsz
  obtain ⟨v0, vs0, d0, ds0, p0, q0, hargs, rfl, rfl, h0, r0⟩ := trodAll_cons hA
  obtain ⟨v1, vs1, d1, ds1, p1, q1, rfl, rfl, rfl, h1, r1⟩ := trodAll_cons r0
  obtain ⟨rfl, rfl, rfl⟩ := trodAll_nil r1
  obtain rfl : args = #[v0, v1] := by cases args; simp_all
  obtain ⟨nn, rfl⟩ := okWide_int Tryz.underlying3 (hval 1 3 v1 rfl rfl)
  obtain ⟨p, hv, hR⟩ : ∃ p : Int × Kept, v0 = iV p.1 p.2 ∧ RI W p d0 := by
    obtain ⟨cs, rfl, hs⟩ := okWide_struct Tryz.underlying37 (hval 0 37 v0 rfl rfl)
    obtain ⟨fuel, hf⟩ := h0
    obtain ⟨p, e, hR⟩ := item_in fuel _ _ hf
    refine ⟨p, ?_, hR⟩
    have e2 : cs.toList = iE p := e
    rw [show cs = (iE p).toArray by rw [← e2]]
    rfl
  have hfit := item_fit hR fun n hn => by have := List.all_eq_true.1 hsz n (by simp [DataW.weightsEach, hn]); simpa using this
  obtain ⟨id, x⟩ := p
  subst hv
  have hsl : Sl W W.heap.size x.A (iv x.x.vec) := by obtain ⟨e0, e1, -, h1⟩ := hR; exact h1.1
  exact walk id x nn W hfit hsl

theorem proved : Rows.BktreeNoneSaid :=
  OpenClaim.holds_of_wide 7 Tryz.f7 rfl rfl rfl rfl rfl rfl rfl ⟨rfl, rfl, rfl, rfl, rfl⟩ rfl rfl rfl rfl rfl (by kernel_rfl) Tryz.func7 (by kernel_rfl)
    (of_decide_eq_true (by kernel_rfl)) (by unfold Func.isWrapper; first | (rw [if_pos (by decide +kernel)]; kernel_rfl) | (rw [if_neg (by decide +kernel)]; exact ⟨rfl, rfl⟩))
    (fun os started H enc _ => lifted os started H enc)
#print axioms proved
end Go.Proofs.YtpmjpolnoaigoaaGreat.bktreeNone
