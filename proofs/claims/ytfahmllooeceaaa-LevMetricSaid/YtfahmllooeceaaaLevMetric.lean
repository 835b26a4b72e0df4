/-
  For all three texts the law LevMetric returns true, and changes nothing that there was. No condition.
-/
import Derived.Test.YtfahmllooeceaaaLive8
namespace Go.Proofs.Ytfahmllooeceaaa.levMetric
open Go.RowKit law bytes lev
open Go.ChangeShapes Go.WideShapes Go.ChangeAt
open Go.ChangeMaps (open_string shut_string)
set_option linter.unusedVariables false

set_option maxHeartbeats 1600000 in
set_option maxRecDepth 100000 in
theorem walk_long (a b c : ByteArray) (h : ¬ (a.size ≤ 120 ∧ b.size ≤ 120)) (w : World) :
    Calls Try.prog 4 #[.string a, .string b, .string c] w fun e w' => e = .returned (.bool true) ∧ Below w.heap.size w w' := by
  have g1 : ToldL 7 #[.string a, .string b] (.bool false) w := told_same fun W => short_no a b h W
  have g5 : ToldL 8 #[] (.bool true) w := told fun W => lives_any W
  have H1 := Lib.hid g1
  have H5 := Lib.hid g5
  have HB0 := Lib.hid (Below.refl w.heap.size w)
  clear g1 g5 h
  go_enter Try.func4, Try.ntmps4
  go_wp2_with (fail)
  refine (H1.out _ HB0.out).mono ?_
  rintro e w1 ⟨rfl, hb1⟩
  go_wp2_with (fail)
  refine (H5.out _ hb1).mono ?_
  rintro e w2 ⟨rfl, hb2⟩
  go_wp2_with (fail)
  go_ret
  exact ⟨rfl, hb2⟩
set_option maxHeartbeats 1600000 in
set_option maxRecDepth 100000 in
theorem walk_long' (a b c : ByteArray) (ha : a.size ≤ 120) (hb : b.size ≤ 120) (h : ¬ c.size ≤ 120) (w : World) :
    Calls Try.prog 4 #[.string a, .string b, .string c] w fun e w' => e = .returned (.bool true) ∧ Below w.heap.size w w' := by
  have g1 : ToldL 7 #[.string a, .string b] (.bool true) w := told_same fun W => short_yes a b ha hb W
  have g2 : ToldL 7 #[.string c, .string c] (.bool false) w := told_same fun W => short_no c c (fun hh => h hh.1) W
  have g5 : ToldL 8 #[] (.bool true) w := told fun W => lives_any W
  have H1 := Lib.hid g1
  have H2 := Lib.hid g2
  have H5 := Lib.hid g5
  have HB0 := Lib.hid (Below.refl w.heap.size w)
  clear g1 g2 g5 h
  go_enter Try.func4, Try.ntmps4
  go_wp2_with (fail)
  refine (H1.out _ HB0.out).mono ?_
  rintro e w1 ⟨rfl, hb1⟩
  go_wp2_with (fail)
  refine (H2.out _ hb1).mono ?_
  rintro e w2 ⟨rfl, hb2⟩
  go_wp2_with (fail)
  refine (H5.out _ hb2).mono ?_
  rintro e w3 ⟨rfl, hb3⟩
  go_wp2_with (fail)
  go_ret
  exact ⟨rfl, hb3⟩

set_option maxHeartbeats 1600000 in
set_option maxRecDepth 100000 in
theorem walk_short (a b c : ByteArray) (ha : a.size ≤ 120) (hb : b.size ≤ 120) (hc : c.size ≤ 120) (w : World) :
    Calls Try.prog 4 #[.string a, .string b, .string c] w fun e w' => e = .returned (.bool true) ∧ Below w.heap.size w w' := by
  have ga : ToldL 7 #[.string a, .string b] (.bool true) w := told_same fun W => short_yes a b ha hb W
  have gc : ToldL 7 #[.string c, .string c] (.bool true) w := told_same fun W => short_yes c c hc hc W
  have g1 : ToldL 13 #[.string a, .string b] (.int .i64 (L (bl a) (bl b) : Nat)) w := told fun W => dist_any a b (by omega) (by omega) W
  have g2 : ToldL 13 #[.string b, .string a] (.int .i64 (L (bl a) (bl b) : Nat)) w := by
    rw [L_symm (bl a) (bl b)]
    exact told fun W => dist_any b a (by omega) (by omega) W
  have g3 : ToldL 13 #[.string a, .string c] (.int .i64 (L (bl a) (bl c) : Nat)) w := told fun W => dist_any a c (by omega) (by omega) W
  have g4 : ToldL 13 #[.string c, .string b] (.int .i64 (L (bl c) (bl b) : Nat)) w := told fun W => dist_any c b (by omega) (by omega) W
  have g6 : ToldL 14 #[.string a, .string b] (.int .i64 (least (bl a) (bl b) : Nat)) w := told fun W => least_any a b (by omega) (by omega) W
  have g5 : ToldL 8 #[] (.bool true) w := told fun W => lives_any W
  have ht := L_tri (bl a) (bl b) (bl c)
  have h1 := L_max (bl a) (bl b)
  have h2 := L_max (bl a) (bl c)
  have h3 := L_max (bl c) (bl b)
  have h4 := least_le (bl a) (bl b)
  have hz : L (bl a) (bl b) = 0 ↔ a = b := (L_zero _ _).trans ⟨bl_ext, fun h => by rw [h]⟩
  have he := list_eq_iff a b
  rw [bl_len, bl_len] at h1 h2 h3
  have hd1 : L (bl a) (bl b) ≤ 120 := by omega
  have hd2 : L (bl a) (bl c) ≤ 120 := by omega
  have hd3 : L (bl c) (bl b) ≤ 120 := by omega
  clear h2 h3
  generalize L (bl a) (bl b) = x at g1 g2 ht hz hd1 h1 h4
  generalize L (bl a) (bl c) = y at g3 ht hd2
  generalize L (bl c) (bl b) = z at g4 ht hd3
  generalize least (bl a) (bl b) = l at g6 h4
  have Ha := Lib.hid ga
  have Hc := Lib.hid gc
  have H1 := Lib.hid g1
  have H2 := Lib.hid g2
  have H3 := Lib.hid g3
  have H4 := Lib.hid g4
  have H5 := Lib.hid g5
  have H6 := Lib.hid g6
  have HB0 := Lib.hid (Below.refl w.heap.size w)
  clear ga gc g1 g2 g3 g4 g5 g6
  by_cases hx : x = 0
  · rw [decide_eq_true (hz.1 hx)] at he
    have d0 : ((x : Int) == 0) = true := by simp [hx]
    clear hz hx
    go_enter Try.func4, Try.ntmps4
    go_wp2_with (fail)
    refine (Ha.out _ HB0.out).mono ?_
    rintro e w1 ⟨rfl, hb1⟩
    go_wp2_with (fail)
    refine (Hc.out _ hb1).mono ?_
    rintro e w2 ⟨rfl, hb2⟩
    go_wp2_with (fail)
    refine (H1.out _ hb2).mono ?_
    rintro e w3 ⟨rfl, hb3⟩
    go_wp2_with (fail)
    refine (H2.out _ hb3).mono ?_
    rintro e w4 ⟨rfl, hb4⟩
    go_wp2_with (fail)
    refine (H3.out _ hb4).mono ?_
    rintro e w5 ⟨rfl, hb5⟩
    go_wp2_with (fail)
    refine (H4.out _ hb5).mono ?_
    rintro e w6 ⟨rfl, hb6⟩
    go_wp2_with (fail)
    refine (H6.out _ hb6).mono ?_
    rintro e w7 ⟨rfl, hb7⟩
    go_wp2_with (fail)
    refine (H5.out _ hb7).mono ?_
    rintro e w8 ⟨rfl, hb8⟩
    go_wp2_with (fail)
    go_ret
    exact ⟨rfl, hb8⟩
  · rw [decide_eq_false (fun e => hx (hz.2 e))] at he
    have d0 : ((x : Int) == 0) = false := by simp [hx]
    clear hz hx
    go_enter Try.func4, Try.ntmps4
    go_wp2_with (fail)
    refine (Ha.out _ HB0.out).mono ?_
    rintro e w1 ⟨rfl, hb1⟩
    go_wp2_with (fail)
    refine (Hc.out _ hb1).mono ?_
    rintro e w2 ⟨rfl, hb2⟩
    go_wp2_with (fail)
    refine (H1.out _ hb2).mono ?_
    rintro e w3 ⟨rfl, hb3⟩
    go_wp2_with (fail)
    refine (H2.out _ hb3).mono ?_
    rintro e w4 ⟨rfl, hb4⟩
    go_wp2_with (fail)
    refine (H3.out _ hb4).mono ?_
    rintro e w5 ⟨rfl, hb5⟩
    go_wp2_with (fail)
    refine (H4.out _ hb5).mono ?_
    rintro e w6 ⟨rfl, hb6⟩
    go_wp2_with (fail)
    refine (H6.out _ hb6).mono ?_
    rintro e w7 ⟨rfl, hb7⟩
    go_wp2_with (fail)
    refine (H5.out _ hb7).mono ?_
    rintro e w8 ⟨rfl, hb8⟩
    go_wp2_with (fail)
    go_ret
    exact ⟨rfl, hb8⟩

theorem walk (a b c : ByteArray) (w : World) :
    Calls Try.prog 4 #[.string a, .string b, .string c] w fun e w' => e = .returned (.bool true) ∧ Below w.heap.size w w' := by
  by_cases h : a.size ≤ 120 ∧ b.size ≤ 120
  · by_cases hc : c.size ≤ 120
    · exact walk_short a b c h.1 h.2 hc w
    · exact walk_long' a b c h.1 h.2 hc w
  · exact walk_long a b c h w

theorem lifted (os : Os) (started : os.Started) (H : Type) (enc : TypeId × Value → H) :
    ReturnsInHanded {} Try.checked os 4 .any (Rows.levMetricSpec.pre6 enc Try.prog Try.f4 Rows.levMetricRow.domain false) (Rows.levMetricSpec.post enc Try.prog Try.f4 false true false false) := by
  refine lift (C := Try.checked) (by kernel_rfl) started (by kernel_rfl) Try.func4 rfl (by kernel_rfl) (by kernel_rfl) rfl Try.underlying4
    (fun ds hd => by match ds, hd with | [_, _, _], _ => exact ⟨rfl, rfl, rfl⟩)
    (ChangeSpec.witness6 (enc := enc) (C := Try.checked) false ⟨#[], #[.string ⟨#[]⟩, .string ⟨#[]⟩, .string ⟨#[]⟩], []⟩ 8 (by kernel_rfl) (by kernel_rfl) (by kernel_rfl) (by kernel_rfl)) ?_
  intro W base args ds before hval0 hA0 hfz hsz0
  have hval : ∀ (j : Nat) t v, Try.f4.params[j]? = some t → args[j]? = some v → Value.okWide Try.prog W .any base t v := hval0
  have hA : DataW.TrodAll enc Try.prog W 0 (fun _ => true) true Try.f4.params.toList args.toList ds before := hA0
  have hsz : (DataW.weightsEach Try.prog Try.f4.params.toList ds).all (· ≤ reachBytes) = true := hsz0
  rw [Try.params4] at hA hval hsz
  obtain ⟨v0, vs0, d0, ds0, p0, q0, hargs, rfl, rfl, h0, r0⟩ := trodAll_cons hA
  obtain ⟨v1, vs1, d1, ds1, p1, q1, rfl, rfl, rfl, h1, r1⟩ := trodAll_cons r0
  obtain ⟨v2, vs2, d2, ds2, p2, q2, rfl, rfl, rfl, h2, r2⟩ := trodAll_cons r1
  obtain ⟨rfl, rfl, rfl⟩ := trodAll_nil r2
  obtain rfl : args = #[v0, v1, v2] := by cases args; simp_all
  obtain ⟨a, rfl, rfl, rfl, _⟩ := open_string Try.underlying9 (hval 0 9 v0 rfl rfl) h0
  obtain ⟨b, rfl, rfl, rfl, _⟩ := open_string Try.underlying9 (hval 1 9 v1 rfl rfl) h1
  obtain ⟨c, rfl, rfl, rfl, _⟩ := open_string Try.underlying9 (hval 2 9 v2 rfl rfl) h2
  have hr := reachBytes_lt
  have e0 : a.data.toList.length = a.size := Array.length_toList
  have e1 : b.data.toList.length = b.size := Array.length_toList
  have e2 : c.data.toList.length = c.size := Array.length_toList
  have l0 := sized_string hsz (j := 0) (t := 9) rfl rfl
  have l1 := sized_string hsz (j := 1) (t := 9) rfl rfl
  have l2 := sized_string hsz (j := 2) (t := 9) rfl rfl
  exact walk a b c W

theorem proved : Rows.LevMetricSaid :=
  OpenClaim.holds_of_wide 4 Try.f4 rfl rfl rfl rfl rfl rfl rfl ⟨rfl, rfl, rfl, rfl, rfl⟩ rfl rfl rfl rfl rfl (by kernel_rfl) Try.func4 (by kernel_rfl)
    (of_decide_eq_true (by kernel_rfl)) (by unfold Func.isWrapper; first | (rw [if_pos (by decide +kernel)]; kernel_rfl) | (rw [if_neg (by decide +kernel)]; exact ⟨rfl, rfl⟩))
    (fun os started H enc _ => lifted os started H enc)
#print axioms proved
end Go.Proofs.Ytfahmllooeceaaa.levMetric
