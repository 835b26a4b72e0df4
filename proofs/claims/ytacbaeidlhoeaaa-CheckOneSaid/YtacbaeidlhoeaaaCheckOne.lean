/-
  For all bytes b, every int at and every byte by the law CheckOne returns true, and changes nothing that there was.
-/
import Derived.Test.YtacbaeidlhoeaaaSumLaws
namespace Go.Proofs.Ytacbaeidlhoeaaa.checkOne
open Go.RowKit law bytes sum check
open Go.ChangeShapes Go.WideShapes Go.ChangeAt

theorem walk (A : Option Addr) (l : List UInt8) (c : Nat) (a : Int) (d : UInt8) (w : World) (hm : l.length ≤ 140737488351232) (hs : Sl w w.heap.size A (bv l)) (hc : l.length ≤ c) :
    Calls Try.prog 7 #[.slice A l.length c, .int .i64 a, .int .u8 d.toNat] w (TrueBelow w) := by
  by_cases h1 : a < 0
  · exact one_low A l.length c a _ w h1
  by_cases h2 : (l.length : Int) ≤ a
  · exact one_high A l.length c a _ w (by omega) h2
  obtain ⟨k, rfl⟩ : ∃ k : Nat, a = (k : Int) := ⟨a.toNat, by omega⟩
  by_cases h3 : d = 0
  · subst h3
    exact one_same A l.length c k w (by omega)
  · exact one_walk A l c k d w hm hs hc (by omega) h3

theorem lifted (os : Os) (started : os.Started) (H : Type) (enc : TypeId × Value → H) :
    ReturnsInHanded {} Try.checked os 7 .any (Rows.checkOneSpec.pre6 enc Try.prog Try.f7 Rows.checkOneRow.domain false) (Rows.checkOneSpec.post enc Try.prog Try.f7 false true false false) := by
  refine lift (C := Try.checked) (by kernel_rfl) started (by kernel_rfl) Try.func7 rfl (by kernel_rfl) (by kernel_rfl) rfl Try.underlying4
    (fun ds hd => by match ds, hd with | [_, _, _], _ => exact ⟨rfl, rfl, rfl⟩)
    (ChangeSpec.witness6 (enc := enc) (C := Try.checked) false ⟨#[], #[.slice none 0 0, .int .i64 0, .int .u8 0], []⟩ 8 (by kernel_rfl) (by kernel_rfl) (by kernel_rfl) (by kernel_rfl)) ?_
  intro W base args ds before hval0 hA0 hfz hsz0
  have hval : ∀ (j : Nat) t v, Try.f7.params[j]? = some t → args[j]? = some v → Value.okWide Try.prog W .any base t v := hval0
  have hA : DataW.TrodAll enc Try.prog W 0 (fun _ => true) true Try.f7.params.toList args.toList ds before := hA0
  have hsz : (DataW.weightsEach Try.prog Try.f7.params.toList ds).all (· ≤ reachBytes) = true := hsz0
  rw [Try.params7] at hA hval hsz
  obtain ⟨v0, vs0, d0, ds0, p0, q0, hargs, rfl, rfl, h0, r0⟩ := trodAll_cons hA
  obtain ⟨v1, vs1, d1, ds1, p1, q1, rfl, rfl, rfl, h1, r1⟩ := trodAll_cons r0
  obtain ⟨v2, vs2, d2, ds2, p2, q2, rfl, rfl, rfl, h2, r2⟩ := trodAll_cons r1
  obtain ⟨rfl, rfl, rfl⟩ := trodAll_nil r2
  obtain rfl : args = #[v0, v1, v2] := by cases args; simp_all
  obtain ⟨A, c, l, rfl, hc, hs, hd⟩ := open_bytes Try.underlying34 Try.underlying5 (by kernel_rfl) (hval 0 34 v0 rfl rfl) h0
  obtain ⟨a, rfl, rfl, rfl, _⟩ := open_int Try.underlying3 (hval 1 3 v1 rfl rfl) h1
  obtain ⟨b, rfl, rfl, rfl, wb⟩ := open_int Try.underlying5 (hval 2 5 v2 rfl rfl) h2
  obtain ⟨d, rfl⟩ := open_u8 wb
  have hm : c ≤ 140737488351232 := bytes_reach (by kernel_rfl) Try.underlying34 hsz (j := 0) rfl rfl hd
  exact walk A l c a d W (by omega) hs hc

theorem proved : Rows.CheckOneSaid :=
  OpenClaim.holds_of_wide 7 Try.f7 rfl rfl rfl rfl rfl rfl rfl ⟨rfl, rfl, rfl, rfl, rfl⟩ rfl rfl rfl rfl rfl (by kernel_rfl) Try.func7 (by kernel_rfl)
    (of_decide_eq_true (by kernel_rfl)) (by unfold Func.isWrapper; first | (rw [if_pos (by decide +kernel)]; kernel_rfl) | (rw [if_neg (by decide +kernel)]; exact ⟨rfl, rfl⟩))
    (fun os started H enc _ => lifted os started H enc)
#print axioms proved
end Go.Proofs.Ytacbaeidlhoeaaa.checkOne
