/-
  For all three texts the law LevApplies returns true, and changes nothing that there was. No condition.
-/
import Derived.Test.YtfahmllooeceaaaLive8
namespace Go.Proofs.Ytfahmllooeceaaa.levApplies
open Go.RowKit law bytes lev
open Go.ChangeShapes Go.WideShapes Go.ChangeAt
open Go.ChangeMaps (open_string shut_string)
set_option linter.unusedVariables false

set_option maxHeartbeats 1600000 in
set_option maxRecDepth 100000 in
theorem walk (a b e : ByteArray) (ha : a.size ≤ 140737488355328) (hb : b.size ≤ 140737488355328) (he : e.size ≤ 140737488355328) (w : World) :
    Calls Try.prog 6 #[.string a, .string b, .string e] w fun e w' => e = .returned (.bool true) ∧ Below w.heap.size w w' := by
  have g1 : ToldL 17 #[.string a, .string b, .string e] (.tuple #[.string (outS (va (bl a) (bl b) (bl e)) b), .bool (va (bl a) (bl b) (bl e))]) w := told_still fun W => apply_any a b e ha hb he W
  have g2 : ToldL 19 #[.string a, .string b, .string e] (.tuple #[.string (outS (va (bl a) (bl b) (bl e)) b), .bool (va (bl a) (bl b) (bl e))]) w := told_still fun W => rapply_any a b e ha hb he W
  have g3 : ToldL 8 #[] (.bool true) w := told fun W => lives_any W
  generalize outS (va (bl a) (bl b) (bl e)) b = s at g1 g2
  have hs : (s.toList == s.toList) = true := by simp
  generalize va (bl a) (bl b) (bl e) = v at g1 g2
  have H1 := Lib.hid g1
  have H2 := Lib.hid g2
  have H3 := Lib.hid g3
  have HB0 := Lib.hid (Below.refl w.heap.size w)
  clear g1 g2 g3
  cases v
  all_goals
    go_enter Try.func6, Try.ntmps6
    go_wp2_with (fail)
    refine (H1.out _ HB0.out).mono ?_
    rintro e w1 ⟨rfl, hb1⟩
    go_wp2_with (fail)
    refine (H2.out _ hb1).mono ?_
    rintro e w2 ⟨rfl, hb2⟩
    go_wp2_with (fail)
    refine (H3.out _ hb2).mono ?_
    rintro e w3 ⟨rfl, hb3⟩
    go_wp2_with (fail)
    go_ret
    exact ⟨rfl, hb3⟩

theorem lifted (os : Os) (started : os.Started) (H : Type) (enc : TypeId × Value → H) :
    ReturnsInHanded {} Try.checked os 6 .any (Rows.levAppliesSpec.pre6 enc Try.prog Try.f6 Rows.levAppliesRow.domain false) (Rows.levAppliesSpec.post enc Try.prog Try.f6 false true false false) := by
  refine lift (C := Try.checked) (by kernel_rfl) started (by kernel_rfl) Try.func6 rfl (by kernel_rfl) (by kernel_rfl) rfl Try.underlying4
    (fun ds hd => by match ds, hd with | [_, _, _], _ => exact ⟨rfl, rfl, rfl⟩)
    (ChangeSpec.witness6 (enc := enc) (C := Try.checked) false ⟨#[], #[.string ⟨#[]⟩, .string ⟨#[]⟩, .string ⟨#[]⟩], []⟩ 8 (by kernel_rfl) (by kernel_rfl) (by kernel_rfl) (by kernel_rfl)) ?_
  intro W base args ds before hval0 hA0 hfz hsz0
  have hval : ∀ (j : Nat) t v, Try.f6.params[j]? = some t → args[j]? = some v → Value.okWide Try.prog W .any base t v := hval0
  have hA : DataW.TrodAll enc Try.prog W 0 (fun _ => true) true Try.f6.params.toList args.toList ds before := hA0
  have hsz : (DataW.weightsEach Try.prog Try.f6.params.toList ds).all (· ≤ reachBytes) = true := hsz0
  rw [Try.params6] at hA hval hsz
  obtain ⟨v0, vs0, d0, ds0, p0, q0, hargs, rfl, rfl, h0, r0⟩ := trodAll_cons hA
  obtain ⟨v1, vs1, d1, ds1, p1, q1, rfl, rfl, rfl, h1, r1⟩ := trodAll_cons r0
  obtain ⟨v2, vs2, d2, ds2, p2, q2, rfl, rfl, rfl, h2, r2⟩ := trodAll_cons r1
  obtain ⟨rfl, rfl, rfl⟩ := trodAll_nil r2
  obtain rfl : args = #[v0, v1, v2] := by cases args; simp_all
  obtain ⟨a, rfl, rfl, rfl, _⟩ := open_string Try.underlying9 (hval 0 9 v0 rfl rfl) h0
  obtain ⟨b, rfl, rfl, rfl, _⟩ := open_string Try.underlying9 (hval 1 9 v1 rfl rfl) h1
  obtain ⟨c, rfl, rfl, rfl, _⟩ := open_string Try.underlying9 (hval 2 9 v2 rfl rfl) h2
  have hr := reachBytes_lt
  have e0 : a.data.toList.length = a.size := Array.length_toList
  have e1 : b.data.toList.length = b.size := Array.length_toList
  have e2 : c.data.toList.length = c.size := Array.length_toList
  have l0 := sized_string hsz (j := 0) (t := 9) rfl rfl
  have l1 := sized_string hsz (j := 1) (t := 9) rfl rfl
  have l2 := sized_string hsz (j := 2) (t := 9) rfl rfl
  exact walk a b c (by omega) (by omega) (by omega) W

theorem proved : Rows.LevAppliesSaid :=
  OpenClaim.holds_of_wide 6 Try.f6 rfl rfl rfl rfl rfl rfl rfl ⟨rfl, rfl, rfl, rfl, rfl⟩ rfl rfl rfl rfl rfl (by kernel_rfl) Try.func6 (by kernel_rfl)
    (of_decide_eq_true (by kernel_rfl)) (by unfold Func.isWrapper; first | (rw [if_pos (by decide +kernel)]; kernel_rfl) | (rw [if_neg (by decide +kernel)]; exact ⟨rfl, rfl⟩))
    (fun os started H enc _ => lifted os started H enc)
#print axioms proved
end Go.Proofs.Ytfahmllooeceaaa.levApplies
