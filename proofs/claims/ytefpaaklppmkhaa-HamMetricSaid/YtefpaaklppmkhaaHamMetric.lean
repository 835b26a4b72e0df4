/-
  For all three texts the law HamMetric returns true, and changes nothing that there was. No condition.
-/
import Derived.Test.YtefpaaklppmkhaaHamS
import Derived.Lib.Strings
namespace Go.Proofs.Ytefpaaklppmkhaa.hamMetric
open Go.RowKit law bytes ham
open Go.ChangeShapes Go.WideShapes Go.ChangeAt
open Go.ChangeMaps (open_string shut_string)
set_option linter.unusedVariables false

theorem list_eq_iff (a b : ByteArray) : (a.toList == b.toList) = decide (a = b) := by
  rw [Bool.eq_iff_iff]
  simp only [beq_iff_eq, decide_eq_true_eq, ByteArray.toList_eq]
  exact ⟨fun h => by cases a; cases b; simp only at h; congr 1; exact Array.toList_inj.1 h, fun h => by rw [h]⟩

/-- the calls of the law, each in every world that left what there was -/
def Told (f : FuncId) (args : Array Value) (v : Value) (w : World) : Prop := ∀ W, Below w.heap.size w W → Calls Try.prog f args W fun e w' => e = .returned v ∧ Below w.heap.size w w'
theorem told {f : FuncId} {args : Array Value} {v : Value} {w : World} (h : ∀ W, Calls Try.prog f args W (Still v W)) : Told f args v w := fun W hW =>
  (h W).mono fun e w' ⟨he, k, hk⟩ => ⟨he, by rw [hk]; exact below_drewN' hW _⟩

set_option maxHeartbeats 1600000 in
theorem walk (a b c : ByteArray) (ha : a.size ≤ 140737488355328) (hb : b.size ≤ 140737488355328) (hc : c.size ≤ 140737488355328) (w : World) :
    Calls Try.prog 4 #[.string a, .string b, .string c] w fun e w' => e = .returned (.bool true) ∧ Below w.heap.size w w' := by
  have g1 : Told 8 #[.string a, .string b] (.int .i64 (D a b)) w := told fun W => dist_any a b (by omega) (by omega) W
  have g2 : Told 8 #[.string b, .string a] (.int .i64 (D a b)) w := by
    rw [D_symm a b]
    exact told fun W => dist_any b a (by omega) (by omega) W
  have g3 : Told 8 #[.string a, .string c] (.int .i64 (D a c)) w := told fun W => dist_any a c (by omega) (by omega) W
  have g4 : Told 8 #[.string c, .string b] (.int .i64 (D c b)) w := told fun W => dist_any c b (by omega) (by omega) W
  have g5 : Told 11 #[] (.bool true) w := told fun W => lives_any W
  have ht := D_tri a b c
  have h1 := D_le a b
  have h2 := D_le a c
  have h3 := D_le c b
  have hz := D_zero a b
  have he := list_eq_iff a b
  unfold mx at h1 h2 h3
  have hd1 : D a b ≤ 140737488355328 := by omega
  have hd2 : D a c ≤ 140737488355328 := by omega
  have hd3 : D c b ≤ 140737488355328 := by omega
  clear h1 h2 h3
  generalize D a b = x at g1 g2 ht hz hd1
  generalize D a c = y at g3 ht hd2
  generalize D c b = z at g4 ht hd3
  have H1 := Lib.hid g1
  have H2 := Lib.hid g2
  have H3 := Lib.hid g3
  have H4 := Lib.hid g4
  have H5 := Lib.hid g5
  have HB0 := Lib.hid (Below.refl w.heap.size w)
  clear g1 g2 g3 g4 g5
  by_cases hx : x = 0
  · rw [decide_eq_true (hz.1 hx)] at he
    have d0 : ((x : Int) == 0) = true := by simp [hx]
    clear hz hx
    go_enter Try.func4, Try.ntmps4
    go_wp2_with (fail)
    refine (H1.out _ HB0.out).mono ?_
    rintro e w1 ⟨rfl, hb1⟩
    go_wp2_with (fail)
    refine (H2.out _ hb1).mono ?_
    rintro e w2 ⟨rfl, hb2⟩
    go_wp2_with (fail)
    refine (H3.out _ hb2).mono ?_
    rintro e w3 ⟨rfl, hb3⟩
    go_wp2_with (fail)
    refine (H4.out _ hb3).mono ?_
    rintro e w4 ⟨rfl, hb4⟩
    go_wp2_with (fail)
    refine (H5.out _ hb4).mono ?_
    rintro e w5 ⟨rfl, hb5⟩
    go_wp2_with (fail)
    go_ret
    exact ⟨rfl, hb5⟩
  · rw [decide_eq_false (fun e => hx (hz.2 e))] at he
    have d0 : ((x : Int) == 0) = false := by simp [hx]
    clear hz hx
    go_enter Try.func4, Try.ntmps4
    go_wp2_with (fail)
    refine (H1.out _ HB0.out).mono ?_
    rintro e w1 ⟨rfl, hb1⟩
    go_wp2_with (fail)
    refine (H2.out _ hb1).mono ?_
    rintro e w2 ⟨rfl, hb2⟩
    go_wp2_with (fail)
    refine (H3.out _ hb2).mono ?_
    rintro e w3 ⟨rfl, hb3⟩
    go_wp2_with (fail)
    refine (H4.out _ hb3).mono ?_
    rintro e w4 ⟨rfl, hb4⟩
    go_wp2_with (fail)
    refine (H5.out _ hb4).mono ?_
    rintro e w5 ⟨rfl, hb5⟩
    go_wp2_with (fail)
    go_ret
    exact ⟨rfl, hb5⟩

theorem lifted (os : Os) (started : os.Started) (H : Type) (enc : TypeId × Value → H) :
    ReturnsInHanded {} Try.checked os 4 .any (Rows.hamMetricSpec.pre6 enc Try.prog Try.f4 Rows.hamMetricRow.domain false) (Rows.hamMetricSpec.post enc Try.prog Try.f4 false true false false) := by
  refine lift (C := Try.checked) (by kernel_rfl) started (by kernel_rfl) Try.func4 rfl (by kernel_rfl) (by kernel_rfl) rfl Try.underlying4
    (fun ds hd => by match ds, hd with | [_, _, _], _ => exact ⟨rfl, rfl, rfl⟩)
    (ChangeSpec.witness6 (enc := enc) (C := Try.checked) false ⟨#[], #[.string ⟨#[]⟩, .string ⟨#[]⟩, .string ⟨#[]⟩], []⟩ 8 (by kernel_rfl) (by kernel_rfl) (by kernel_rfl) (by kernel_rfl)) ?_
  intro W base args ds before hval0 hA0 hfz hsz0
  have hval : ∀ (j : Nat) t v, Try.f4.params[j]? = some t → args[j]? = some v → Value.okWide Try.prog W .any base t v := hval0
  have hA : DataW.TrodAll enc Try.prog W 0 (fun _ => true) true Try.f4.params.toList args.toList ds before := hA0
  have hsz : (DataW.weightsEach Try.prog Try.f4.params.toList ds).all (· ≤ reachBytes) = true := hsz0
  rw [Try.params4] at hA hval hsz
  obtain ⟨v0, vs0, d0, ds0, p0, q0, hargs, rfl, rfl, h0, r0⟩ := trodAll_cons hA
  obtain ⟨v1, vs1, d1, ds1, p1, q1, rfl, rfl, rfl, h1, r1⟩ := trodAll_cons r0
  obtain ⟨v2, vs2, d2, ds2, p2, q2, rfl, rfl, rfl, h2, r2⟩ := trodAll_cons r1
  obtain ⟨rfl, rfl, rfl⟩ := trodAll_nil r2
  obtain rfl : args = #[v0, v1, v2] := by cases args; simp_all
  obtain ⟨a, rfl, rfl, rfl, _⟩ := open_string Try.underlying9 (hval 0 9 v0 rfl rfl) h0
  obtain ⟨b, rfl, rfl, rfl, _⟩ := open_string Try.underlying9 (hval 1 9 v1 rfl rfl) h1
  obtain ⟨c, rfl, rfl, rfl, _⟩ := open_string Try.underlying9 (hval 2 9 v2 rfl rfl) h2
  have hr := reachBytes_lt
  have e0 : a.data.toList.length = a.size := Array.length_toList
  have e1 : b.data.toList.length = b.size := Array.length_toList
  have e2 : c.data.toList.length = c.size := Array.length_toList
  have l0 := sized_string hsz (j := 0) (t := 9) rfl rfl
  have l1 := sized_string hsz (j := 1) (t := 9) rfl rfl
  have l2 := sized_string hsz (j := 2) (t := 9) rfl rfl
  exact walk a b c (by omega) (by omega) (by omega) W

theorem proved : Rows.HamMetricSaid :=
  OpenClaim.holds_of_wide 4 Try.f4 rfl rfl rfl rfl rfl rfl rfl ⟨rfl, rfl, rfl, rfl, rfl⟩ rfl rfl rfl rfl rfl (by kernel_rfl) Try.func4 (by kernel_rfl)
    (of_decide_eq_true (by kernel_rfl)) (by unfold Func.isWrapper; first | (rw [if_pos (by decide +kernel)]; kernel_rfl) | (rw [if_neg (by decide +kernel)]; exact ⟨rfl, rfl⟩))
    (fun os started H enc _ => lifted os started H enc)
#print axioms proved
end Go.Proofs.Ytefpaaklppmkhaa.hamMetric
