/-
  For all steps and texts of bulk at most 1048576 the law FaultNone returns true, and changes nothing that there was; the variables that it lists hold what the program's text lays.
-/
import Derived.Test.YtonedffhfljmpaaDoorNoneWalk
import Derived.Test.YtonedffhfljmpaaDoorLaid
import Derived.Test.YtonedffhfljmpaaDoorCards
import Derived.Test.YtonedffhfljmpaaDoorTie
import Derived.Lib.SmallJoins
import Derived.ChangeMaps5
namespace Go.Proofs.YtonedffhfljmpaaDoor.faultNone
open Go.RowKit law bytes strc fault
open Go.ChangeShapes Go.WideShapes Go.ChangeAt

theorem tab_laid {W : World} (h : laidMetH Tryd.prog Rows.faultNoneUptoRow.laid W) : Tab W :=
  tab_of_laid (d := Rows.laid_internal_strconv_uint64pow10) (g := 1) (t := 108) (e := 27) (n := 20) (by kernel_rfl) (by kernel_rfl) (by kernel_rfl) (by kernel_rfl) Tryd.underlying108 Tryd.underlying27 (by kernel_rfl) (by kernel_rfl) h

noncomputable def laidWorld (os : Os) : World :=
  fill 0 #[.iface 85 (.agg #[typeHandle Tryd.prog 24])] (fill 2 (tabCells Rows.laid_math_bits_deBruijn32tab) (fill 3 (tabCells Rows.laid_math_bits_deBruijn64tab)
    (fill 1 (tabCells Rows.laid_internal_strconv_uint64pow10) (World.holding Tryd.prog os ⟨#[], #[], []⟩))))
def wArgs : Array Value := #[.agg #[.string ⟨#[]⟩, .int .i64 0, .int .u64 0], .string ⟨#[]⟩]
theorem laid_met (os : Os) : laidMetH Tryd.prog Rows.faultNoneUptoRow.laid ((laidWorld os).forCall (fun _ _ => 0) ⟨#[], wArgs, []⟩).memory :=
  laidMetH_of_parts (laidMet_of_run' 8 (by kernel_rfl) (by kernel_rfl)) (by kernel_rfl)
theorem reads (os : Os) {H : Type} (enc : TypeId × Value → H) : ∃ places, DataW.whole enc Tryd.prog ((laidWorld os).forCall (fun _ _ => 0) ⟨#[], wArgs, []⟩).memory Tryd.f4.params.toList Rows.faultNoneSpec.vars false wArgs.toList 8 = some ([.agg [.lit (.string []), .lit (.int .i64 0), .lit (.int .u64 0)], .lit (.string [])], [], places) :=
  ⟨[], by kernel_rfl⟩
set_option maxRecDepth 100000 in
theorem lifted (os : Os) (started : os.Started) (H : Type) (enc : TypeId × Value → H) (F : Stop.Interp) :
    ReturnsInHanded {} Tryd.checked os 4 .any ((Rows.OpenSpec.upto Rows.faultNoneSpec).preRow enc Tryd.prog Tryd.f4 Rows.faultNoneUptoRow.domain false Rows.faultNoneUptoRow.laid) (((Rows.OpenSpec.upto Rows.faultNoneSpec).at F).post enc Tryd.prog Tryd.f4 false true false false) := by
  obtain ⟨places, hx⟩ := reads os enc
  refine lift_laid (C := Tryd.checked) (by kernel_rfl) started (by kernel_rfl) Tryd.func4 rfl (by kernel_rfl) (by kernel_rfl) rfl Tryd.underlying4
    (fun ds hd => by match ds, hd with | [_, _], _ => exact ⟨rfl, rfl, rfl⟩)
    (witness_row_at (enc := enc) (C := Tryd.checked) false (laidWorld os) wArgs rfl (by kernel_rfl) (by kernel_rfl) (by kernel_rfl)
      (OpenSpec.preRow_of_cond 8 hx (by kernel_rfl) (fun k hk => by cases hk; kernel_rfl) (by kernel_rfl) (laid_met os))) ?_
  intro W base args ds before hval0 hA0 hfz hk hL
  have hval : ∀ (j : Nat) t v, Tryd.f4.params[j]? = some t → args[j]? = some v → Value.okWide Tryd.prog W .any base t v := hval0
  have hA : DataW.TrodAll enc Tryd.prog W 0 (fun _ => true) true Tryd.f4.params.toList args.toList ds before := hA0
  rw [Tryd.params4] at hA hval
  obtain ⟨v0, vs0, d0, ds0, p0, q0, hargs, rfl, rfl, h0, r0⟩ := trodAll_cons hA
  obtain ⟨v1, vs1, d1, ds1, p1, q1, rfl, rfl, rfl, h1, r1⟩ := trodAll_cons r0
  obtain ⟨rfl, rfl, rfl⟩ := trodAll_nil r1
  obtain rfl : args = #[v0, v1] := by cases args; simp_all
  obtain ⟨a0, a1, a2, y0, y1, y2, n, rfl, rfl, -, t0, t1, t2⟩ := Joins.open_agg3 Tryd.underlying34 (by kernel_rfl) (by kernel_rfl) (hval 0 34 v0 rfl rfl) h0
  obtain ⟨x0, e0, z0, -⟩ := DataW.trod_string Tryd.underlying9 t0
  obtain rfl := List.singleton_inj.1 e0
  obtain ⟨x1, e1, -, w1⟩ := DataW.trod_int Tryd.underlying3 t1
  obtain rfl := List.singleton_inj.1 e1
  obtain ⟨x2, e2, -, w2⟩ := DataW.trod_int Tryd.underlying27 t2
  obtain rfl := List.singleton_inj.1 e2
  obtain ⟨tx, rfl, -⟩ := Go.ChangeMaps.open_string Tryd.underlying9 (hval 1 9 v1 rfl rfl) h1
  obtain ⟨i, rfl, hi⟩ := open_u64 w2
  have hx1 : I64 x1 := by simpa [I64, Lit.wf, IntKind.min, IntKind.max, IntKind.signed, IntKind.bits] using w1
  have hlen : x0.data.toList.length ≤ 1048576 := by
    rw [z0] at hk
    simp only [Rows.uptoBulkAll, Rows.uptoBulk] at hk
    simp at hk ⊢
    omega
  exact none_walk x0.data.toList x1 i tx W hx1 hi hlen (tab_laid hL)

theorem said : Rows.FaultNoneUptoSaid :=
  OpenClaim.holds_of_cond 4 Tryd.f4 rfl rfl rfl rfl rfl rfl rfl ⟨rfl, rfl, rfl, rfl, rfl⟩ rfl rfl rfl rfl rfl (by kernel_rfl) Tryd.func4 (by kernel_rfl)
    (of_decide_eq_true (by kernel_rfl)) (by unfold Func.isWrapper; first | (rw [if_pos (by decide +kernel)]; kernel_rfl) | (rw [if_neg (by decide +kernel)]; exact ⟨rfl, rfl⟩))
    (fun os started H enc _ F => by rw [OpenClaim.pre_eq_preRow]; exact lifted os started H enc F)
theorem plain (f : FuncId) (fn : Func) (hf : Tryd.pinned.checked.prog.funcNamed "waywiser/waywiserlaw04.FaultNone" = some f) (hfn : Tryd.pinned.checked.prog.funcs[f]? = some fn) :
    true = Tryd.pinned.checked.prog.looks [] ∧ ∀ (j : Nat) t, fn.params[j]? = some t → Tryd.pinned.checked.prog.wantsStandIn t = false := by
  obtain rfl : f = 4 := Option.some.inj ((show Tryd.prog.funcNamed "waywiser/waywiserlaw04.FaultNone" = some 4 by kernel_rfl).symm.trans hf) |>.symm
  obtain rfl : fn = Tryd.f4 := (Option.some.inj (Tryd.func4.symm.trans hfn)).symm
  refine ⟨by kernel_rfl, fun j t ht => ?_⟩
  rw [Tryd.params4] at ht
  have hm := Array.mem_of_getElem? ht
  simp at hm
  rcases hm with rfl | rfl
  · exact (show Tryd.prog.wantsStandIn 34 = false by kernel_rfl)
  · exact (show Tryd.prog.wantsStandIn 9 = false by kernel_rfl)
theorem proved : Rows.FaultNoneUptoCardSaid :=
  Claim7.holds_tied_plain_at .later [] _ _ _ _ said (fun _ h => by cases h) (by kernel_rfl) (fun _ h => by cases h) faultNoneUpto_row_tie rfl ⟨rfl, rfl⟩ (by kernel_rfl) rfl plain (by kernel_rfl)
#print axioms proved
end Go.Proofs.YtonedffhfljmpaaDoor.faultNone
