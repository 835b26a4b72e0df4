/-
  A nil table has nothing: Insert, Delete, Bulk tell ErrNil, Range, Near, Items, Pivots and Image's rows are empty, Len is 0, its walk tells nothing (P22.5); what lives, lives. No condition.
-/
import Derived.Test.YtgbjpobgjmkjgaaGreatLaV
import Derived.Test.YtgbjpobgjmkjgaaGreatLaN
namespace Go.Proofs.YtgbjpobgjmkjgaaGreat.laesaNone
open Go.RowKit Go.ChangeShapes Go.WideShapes Go.ChangeAt law bytes only flat ord obj tab
open aro (Kept)
open store (iE item_in)
set_option linter.unusedVariables false
set_option maxRecDepth 100000

/-- an item as a value -/
def iV (id : Int) (k : Kept) : Value := .agg #[.int .u64 id, .int .i64 k.x.tag, .slice k.A k.x.vec.length k.c, .string k.x.str]
set_option maxHeartbeats 3200000 in
theorem walk (id : Int) (p : Kept) (nn : Int) (w : World) : Calls Tryz.prog 7 #[iV id p, .int .i64 nn] w fun e w' => e = .returned (.bool true) ∧ Below w.heap.size w w' := by
  unfold iV
  obtain ⟨V, hV⟩ : ∃ V, V = w.alloc (.cells #[.int .u64 id, .int .i64 p.x.tag, .slice p.A p.x.vec.length p.c, .string p.x.str] 37) := ⟨_, rfl⟩
  have hbV : Below w.heap.size w V := by rw [hV]; exact (Below.refl _ _).alloc (Nat.le_refl _) _
  have hkx : Blk V w.heap.size 37 #[.int .u64 id, .int .i64 p.x.tag, .slice p.A p.x.vec.length p.c, .string p.x.str] := by rw [hV]; exact Blk.new w _ _
  have hzV : V.heap.size = w.heap.size + 1 := by rw [hV]; simp
  obtain ⟨c0, c1, c2, c3, -⟩ := cells4' hkx
  have HW := Lib.hid (tab.walk_nil p.x.tag p.A p.x.vec.length p.c p.x.str V)
  have HX := Lib.hid (And.intro hkx (And.intro hbV hzV))
  have HV := Lib.hid hV
  rw [hV] at c0 c1 c2 c3
  clear hkx hbV hzV hV
  go_enter Tryz.func7, Tryz.ntmps7
  go_wp2_with (fail)
  rw [← HV.out]
  refine HW.out.mono ?_
  rintro e a1 ⟨wb, rfl, ha1, hn⟩
  clear HW c0 c1 c2 c3 HV
  go_wp2_with (fail)
  refine hn.out.mono ?_
  rintro e a2 ⟨rfl, ha2⟩
  have HA2 := Lib.hid ha2
  clear hn ha1 ha2
  have HI : Hid (∀ W, Calls Tryz.prog 16 #[.pointer none] W fun e w' => e = .returned (.agg #[.slice none 0 0, .slice none 0 0, .slice none 0 0, .int .i64 0, .slice none 0 0, .slice none 0 0]) ∧ Below W.heap.size W w') := Lib.hid fun W => tab.image_nil W
  go_wp2_with (fail)
  obtain ⟨A3, hA3⟩ : ∃ A3, A3 = a2.alloc (.cells #[.int .u64 0, .int .i64 0] 80) := ⟨_, rfl⟩
  rw [← hA3]
  refine (HI.out _).mono ?_
  rintro e a4 ⟨rfl, ha4⟩
  have H4 : Hid (Below V.heap.size V a4 ∧ Blk a4 a2.heap.size 80 #[.int .u64 0, .int .i64 0] ∧ a2.heap.size < a4.heap.size) := Lib.hid (by
    have h1 : Blk A3 a2.heap.size 80 #[.int .u64 0, .int .i64 0] := by rw [hA3]; exact Blk.new a2 _ _
    have h2 : Below a2.heap.size a2 A3 := by rw [hA3]; exact (Below.refl _ _).alloc (Nat.le_refl _) _
    have h3 := HA2.out.trans (h2.mono HA2.out.size)
    exact ⟨h3.trans (ha4.mono h3.size), h1.below ha4 h1.lt, (h1.below ha4 h1.lt).lt⟩)
  clear HI ha4 hA3 HA2
  obtain ⟨U, hU⟩ : ∃ U, U = a4.alloc (.cells #[.slice none 0 0, .slice none 0 0, .slice none 0 0, .int .i64 0, .slice none 0 0, .slice none 0 0] 50) := ⟨_, rfl⟩
  have HS : Hid (∀ W, Below U.heap.size U W → W.cell? ⟨w.heap.size, 0, none⟩ = some (.int .u64 id) ∧ W.cell? ⟨w.heap.size, 1, none⟩ = some (.int .i64 p.x.tag) ∧ W.cell? ⟨w.heap.size, 2, none⟩ = some (.slice p.A p.x.vec.length p.c) ∧ W.cell? ⟨w.heap.size, 3, none⟩ = some (.string p.x.str) ∧
      W.cell? ⟨a2.heap.size, 0, none⟩ = some (.int .u64 0) ∧ W.cell? ⟨a2.heap.size, 1, none⟩ = some (.int .i64 0) ∧ W.cell? ⟨a4.heap.size, 5, none⟩ = some (.slice none 0 0)) := Lib.hid fun W hW => by
    obtain ⟨h1, h2, h3⟩ := H4.out
    have hb : Below a4.heap.size a4 U := by rw [hU]; exact (Below.refl _ _).alloc (Nat.le_refl _) _
    have hz : U.heap.size = a4.heap.size + 1 := by rw [hU]; simp
    have k1 : Blk U a4.heap.size 50 #[.slice none 0 0, .slice none 0 0, .slice none 0 0, .int .i64 0, .slice none 0 0, .slice none 0 0] := by rw [hU]; exact Blk.new a4 _ _
    have hs1 := h1.size
    have k2 := (h2.below hb h3).below hW (by omega)
    have k3 := ((HX.out.1.below h1 HX.out.1.lt).below hb (by have := HX.out.1.lt; omega)).below hW (by have := HX.out.1.lt; omega)
    have k4 := k1.below hW (by omega)
    exact ⟨k3.cell 0, k3.cell 1, k3.cell 2, k3.cell 3, k2.cell 0, k2.cell 1, k4.cell 5⟩
  have HF : Hid (∀ W, Below U.heap.size U W → Below w.heap.size w W) := Lib.hid fun W hW => by
    obtain ⟨h1, h2, h3⟩ := H4.out
    have hb : Below a4.heap.size a4 U := by rw [hU]; exact (Below.refl _ _).alloc (Nat.le_refl _) _
    have hs1 := h1.size
    have hz := HX.out.2.2
    have h5 := HX.out.2.1.trans (h1.mono (by omega))
    exact (h5.trans (hb.mono h5.size)).trans (hW.mono (by have := hb.size; have := h5.size; omega))
  have HC0 : Hid (∀ W : World, Below U.heap.size U W → Calls Tryz.prog 20 #[.pointer none, .agg #[.int .u64 id, .int .i64 p.x.tag, .slice p.A p.x.vec.length p.c, .string p.x.str], .pointer none] W fun e w' => e = .returned (.int .i64 1) ∧ Below U.heap.size U w') := Lib.hid fun W hW => (tab.insert_nil _ _ _ _ _ _ _ W).mono fun e w' ⟨he, hb⟩ => ⟨he, hW.trans (hb.mono hW.size)⟩
  have HC1 : Hid (∀ W : World, Below U.heap.size U W → Calls Tryz.prog 36 #[.pointer none, .int .u64 id, .pointer none] W fun e w' => e = .returned (.int .i64 1) ∧ Below U.heap.size U w') := Lib.hid fun W hW => (tab.delete_nil _ _ W).mono fun e w' ⟨he, hb⟩ => ⟨he, hW.trans (hb.mono hW.size)⟩
  have HC2 : Hid (∀ (W : World) (b : Nat), Below U.heap.size U W → Calls Tryz.prog 18 #[.pointer none, .slice (some ⟨b, 0, none⟩) 1 1, .pointer none] W fun e w' => e = .returned (.int .i64 1) ∧ Below U.heap.size U w') := Lib.hid fun W b hW => (tab.bulk_nil _ _ _ _ W).mono fun e w' ⟨he, hb⟩ => ⟨he, hW.trans (hb.mono hW.size)⟩
  have HC3 : Hid (∀ W : World, Below U.heap.size U W → Calls Tryz.prog 37 #[.pointer none, .agg #[.int .i64 p.x.tag, .slice p.A p.x.vec.length p.c, .string p.x.str], .int .i64 nn] W fun e w' => e = .returned (.slice none 0 0) ∧ Below U.heap.size U w') := Lib.hid fun W hW => (tab.range_nil _ _ _ _ _ _ W).mono fun e w' ⟨he, hb⟩ => ⟨he, hW.trans (hb.mono hW.size)⟩
  have HC4 : Hid (∀ W : World, Below U.heap.size U W → Calls Tryz.prog 38 #[.pointer none, .agg #[.int .i64 p.x.tag, .slice p.A p.x.vec.length p.c, .string p.x.str], .int .i64 nn] W fun e w' => e = .returned (.slice none 0 0) ∧ Below U.heap.size U w') := Lib.hid fun W hW => (tab.near_nil _ _ _ _ _ _ W).mono fun e w' ⟨he, hb⟩ => ⟨he, hW.trans (hb.mono hW.size)⟩
  have HC5 : Hid (∀ W : World, Below U.heap.size U W → Calls Tryz.prog 39 #[.pointer none] W fun e w' => e = .returned (.int .i64 0) ∧ Below U.heap.size U w') := Lib.hid fun W hW => (tab.len_nil W).mono fun e w' ⟨he, hb⟩ => ⟨he, hW.trans (hb.mono hW.size)⟩
  have HC6 : Hid (∀ W : World, Below U.heap.size U W → Calls Tryz.prog 40 #[.pointer none] W fun e w' => e = .returned (.slice none 0 0) ∧ Below U.heap.size U w') := Lib.hid fun W hW => (tab.items_nil W).mono fun e w' ⟨he, hb⟩ => ⟨he, hW.trans (hb.mono hW.size)⟩
  have HC7 : Hid (∀ W : World, Below U.heap.size U W → Calls Tryz.prog 14 #[.pointer none] W fun e w' => e = .returned (.slice none 0 0) ∧ Below U.heap.size U w') := Lib.hid fun W hW => (tab.pivots_nil W).mono fun e w' ⟨he, hb⟩ => ⟨he, hW.trans (hb.mono hW.size)⟩
  have HC8 : Hid (∀ W : World, Below U.heap.size U W → Calls Tryz.prog 9 #[] W fun e w' => e = .returned (.bool true) ∧ Below U.heap.size U w') := Lib.hid fun W hW => (tab.lives_any W).mono fun e w' ⟨he, hb⟩ => ⟨he, hW.trans (hb.mono hW.size)⟩
  obtain ⟨w0, hw0⟩ : ∃ w0, w0 = U := ⟨_, rfl⟩
  have B0 : Hid (Below U.heap.size U w0) := Lib.hid (by rw [hw0]; exact Below.refl _ _)
  obtain ⟨x0, x1, x2, x3, y0, y1, z5⟩ := HS.out _ B0.out
  have HUU := Lib.hid (hw0.trans hU)
  rw [hw0, hU] at x0 x1 x2 x3 y0 y1 z5
  have C0 := Lib.hid (HC0.out _ B0.out)
  clear H4 HX hw0 hU
  go_wp2_with (fail)
  rw [← HUU.out]
  clear HUU
  refine C0.out.mono ?_
  rintro e w1 ⟨rfl, hb⟩
  have B1 := Lib.hid hb
  clear hb C0 x0 x1 x2 x3 y0 y1 z5
  obtain ⟨x0, x1, x2, x3, y0, y1, z5⟩ := HS.out _ B1.out
  have C1 := Lib.hid (HC1.out _ B1.out)
  go_wp2_with (fail)
  refine C1.out.mono ?_
  rintro e w2 ⟨rfl, hb⟩
  have B2 := Lib.hid hb
  clear hb C1 x0 x1 x2 x3 y0 y1 z5
  obtain ⟨x0, x1, x2, x3, y0, y1, z5⟩ := HS.out _ B2.out
  have hbA : Below U.heap.size U (w2.alloc (.cells #[.int .u64 id, .int .i64 p.x.tag, .slice p.A p.x.vec.length p.c, .string p.x.str] 37)) := B2.out.alloc B2.out.size _
  have C2 := Lib.hid (HC2.out _ w2.heap.size hbA)
  clear hbA
  go_wp2_with (fail)
  refine C2.out.mono ?_
  rintro e w3 ⟨rfl, hb⟩
  have B3 := Lib.hid hb
  clear hb C2 x0 x1 x2 x3 y0 y1 z5
  obtain ⟨x0, x1, x2, x3, y0, y1, z5⟩ := HS.out _ B3.out
  have C3 := Lib.hid (HC3.out _ B3.out)
  go_wp2_with (fail)
  refine C3.out.mono ?_
  rintro e w4 ⟨rfl, hb⟩
  have B4 := Lib.hid hb
  clear hb C3 x0 x1 x2 x3 y0 y1 z5
  obtain ⟨x0, x1, x2, x3, y0, y1, z5⟩ := HS.out _ B4.out
  have C4 := Lib.hid (HC4.out _ B4.out)
  go_wp2_with (fail)
  refine C4.out.mono ?_
  rintro e w5 ⟨rfl, hb⟩
  have B5 := Lib.hid hb
  clear hb C4 x0 x1 x2 x3 y0 y1 z5
  obtain ⟨x0, x1, x2, x3, y0, y1, z5⟩ := HS.out _ B5.out
  have C5 := Lib.hid (HC5.out _ B5.out)
  go_wp2_with (fail)
  refine C5.out.mono ?_
  rintro e w6 ⟨rfl, hb⟩
  have B6 := Lib.hid hb
  clear hb C5 x0 x1 x2 x3 y0 y1 z5
  obtain ⟨x0, x1, x2, x3, y0, y1, z5⟩ := HS.out _ B6.out
  have C6 := Lib.hid (HC6.out _ B6.out)
  go_wp2_with (fail)
  refine C6.out.mono ?_
  rintro e w7 ⟨rfl, hb⟩
  have B7 := Lib.hid hb
  clear hb C6 x0 x1 x2 x3 y0 y1 z5
  obtain ⟨x0, x1, x2, x3, y0, y1, z5⟩ := HS.out _ B7.out
  have C7 := Lib.hid (HC7.out _ B7.out)
  go_wp2_with (fail)
  refine C7.out.mono ?_
  rintro e w8 ⟨rfl, hb⟩
  have B8 := Lib.hid hb
  clear hb C7 x0 x1 x2 x3 y0 y1 z5
  obtain ⟨x0, x1, x2, x3, y0, y1, z5⟩ := HS.out _ B8.out
  have C8 := Lib.hid (HC8.out _ B8.out)
  go_wp2_with (fail)
  refine C8.out.mono ?_
  rintro e w9 ⟨rfl, hb⟩
  have B9 := Lib.hid hb
  clear hb C8 x0 x1 x2 x3 y0 y1 z5
  have HE := Lib.hid (HF.out _ B9.out)
  go_wp2_with (fail)
  go_ret
  exact ⟨rfl, HE.out⟩
theorem lifted (os : Os) (started : os.Started) (H : Type) (enc : TypeId × Value → H) :
    ReturnsInHanded {} Tryz.checked os 7 .any (Rows.laesaNoneSpec.pre6 enc Tryz.prog Tryz.f7 Rows.laesaNoneRow.domain false) (Rows.laesaNoneSpec.post enc Tryz.prog Tryz.f7 false true false false) := by
  refine lift (C := Tryz.checked) (by kernel_rfl) started (by kernel_rfl) Tryz.func7 rfl (by kernel_rfl) (by kernel_rfl) rfl Tryz.underlying4
    (fun ds hd => by match ds, hd with | [_, _], _ => exact ⟨rfl, rfl, rfl⟩)
    (ChangeSpec.witness6 (enc := enc) (C := Tryz.checked) false ⟨#[], #[.agg #[.int .u64 0, .int .i64 0, .slice none 0 0, .string ⟨#[]⟩], .int .i64 0], []⟩ 8 (by kernel_rfl) (by kernel_rfl) (by kernel_rfl) (by kernel_rfl)) ?_
  intro W base args ds before hval0 hA0 hfz hsz0
  have hval : ∀ (j : Nat) t v, Tryz.f7.params[j]? = some t → args[j]? = some v → Value.okWide Tryz.prog W .any base t v := hval0
  have hA : DataW.TrodAll enc Tryz.prog W 0 (fun _ => true) true Tryz.f7.params.toList args.toList ds before := hA0
  have hsz : (DataW.weightsEach Tryz.prog Tryz.f7.params.toList ds).all (· ≤ reachBytes) = true := hsz0
  rw [Tryz.params7] at hA hval hsz
  obtain ⟨v0, vs0, d0, ds0, p0, q0, hargs, rfl, rfl, h0, r0⟩ := trodAll_cons hA
  obtain ⟨v1, vs1, d1, ds1, p1, q1, rfl, rfl, rfl, h1, r1⟩ := trodAll_cons r0
  obtain ⟨rfl, rfl, rfl⟩ := trodAll_nil r1
  obtain rfl : args = #[v0, v1] := by cases args; simp_all
  obtain ⟨nn, rfl⟩ := okWide_int Tryz.underlying3 (hval 1 3 v1 rfl rfl)
  obtain ⟨p, hv⟩ : ∃ p : Int × Kept, v0 = iV p.1 p.2 := by
    obtain ⟨cs, rfl, hs⟩ := okWide_struct Tryz.underlying37 (hval 0 37 v0 rfl rfl)
    obtain ⟨fuel, hf⟩ := h0
    obtain ⟨p, e, -⟩ := item_in fuel _ _ hf
    refine ⟨p, ?_⟩
    have e2 : cs.toList = iE p := e
    rw [show cs = (iE p).toArray by rw [← e2]]
    rfl
  obtain ⟨id, x⟩ := p
  subst hv
  exact walk id x nn W

theorem proved : Rows.LaesaNoneSaid :=
  OpenClaim.holds_of_wide 7 Tryz.f7 rfl rfl rfl rfl rfl rfl rfl ⟨rfl, rfl, rfl, rfl, rfl⟩ rfl rfl rfl rfl rfl (by kernel_rfl) Tryz.func7 (by kernel_rfl)
    (of_decide_eq_true (by kernel_rfl)) (by unfold Func.isWrapper; first | (rw [if_pos (by decide +kernel)]; kernel_rfl) | (rw [if_neg (by decide +kernel)]; exact ⟨rfl, rfl⟩))
    (fun os started H enc _ => lifted os started H enc)
#print axioms proved
end Go.Proofs.YtgbjpobgjmkjgaaGreat.laesaNone
