/-
  For all texts and bounds the law LevTells returns true, and changes nothing that there was. No condition.
-/
import Derived.Test.YtfahmllooeceaaaLive8
namespace Go.Proofs.Ytfahmllooeceaaa.levTells
open Go.RowKit law bytes lev
open Go.ChangeShapes Go.WideShapes Go.ChangeAt
open Go.ChangeMaps (open_string shut_string)
set_option linter.unusedVariables false

set_option maxHeartbeats 1600000 in
set_option maxRecDepth 100000 in
theorem walk_long (a b : ByteArray) (most : Int) (h : ¬ (a.size ≤ 120 ∧ b.size ≤ 120)) (w : World) :
    Calls Try.prog 3 #[.string a, .string b, .int .i64 most] w fun e w' => e = .returned (.bool true) ∧ Below w.heap.size w w' := by
  have g1 : ToldL 7 #[.string a, .string b] (.bool false) w := told_same fun W => short_no a b h W
  have g5 : ToldL 8 #[] (.bool true) w := told fun W => lives_any W
  have H1 := Lib.hid g1
  have H5 := Lib.hid g5
  have HB0 := Lib.hid (Below.refl w.heap.size w)
  clear g1 g5 h
  go_enter Try.func3, Try.ntmps3
  go_wp2_with (fail)
  refine (H1.out _ HB0.out).mono ?_
  rintro e w1 ⟨rfl, hb1⟩
  go_wp2_with (fail)
  refine (H5.out _ hb1).mono ?_
  rintro e w2 ⟨rfl, hb2⟩
  go_wp2_with (fail)
  go_ret
  exact ⟨rfl, hb2⟩

set_option maxHeartbeats 3200000 in
set_option maxRecDepth 100000 in
theorem walk_yes (a b : ByteArray) (ha : a.size ≤ 120) (hb : b.size ≤ 120) (most : Int) (hm : (L (bl a) (bl b) : Int) ≤ most) (w : World) :
    Calls Try.prog 3 #[.string a, .string b, .int .i64 most] w fun e w' => e = .returned (.bool true) ∧ Below w.heap.size w w' := by
  have hl := tr_len (bl a) (bl b)
  rw [bl_len, bl_len] at hl
  have hL := L_max (bl a) (bl b)
  rw [bl_len, bl_len] at hL
  have hle := least_le (bl a) (bl b)
  have ga : ToldL 7 #[.string a, .string b] (.bool true) w := told_same fun W => short_yes a b ha hb W
  have g1 : ToldL 9 #[.string a, .string b] (.int .i64 (L (bl a) (bl b) : Nat)) w := told fun W => rdist_any a b (by omega) (by omega) W
  have g2 : ToldL 10 #[.string a, .string b, .int .i64 most] (.tuple #[.int .i64 (L (bl a) (bl b) : Nat), .bool true]) w := told fun W => upto_yes a b (by omega) (by omega) most hm W
  have g3 : ToldL 11 #[.string a, .string b] (.tuple #[.string (of (tr (bl a) (bl b)).1), .string (of (tr (bl a) (bl b)).2)]) w := told_still fun W => trim_any a b (by omega) (by omega) W
  have g4 : ToldL 12 #[.string a, .string b] (.tuple #[.string (of (tr (bl a) (bl b)).1), .string (of (tr (bl a) (bl b)).2)]) w := told_still fun W => rtrim_any a b (by omega) (by omega) W
  have g5 : ToldL 13 #[.string a, .string b] (.int .i64 (L (bl a) (bl b) : Nat)) w := told fun W => dist_any a b (by omega) (by omega) W
  have g6 : ToldL 14 #[.string a, .string b] (.int .i64 (least (bl a) (bl b) : Nat)) w := told fun W => least_any a b (by omega) (by omega) W
  have g7 : ToldL 15 #[.string a, .string b] (.int .i64 (least (bl a) (bl b) : Nat)) w := told_same fun W => rleast_any a b (by omega) (by omega) W
  have g8 : ToldL 9 #[.string (of (tr (bl a) (bl b)).1), .string (of (tr (bl a) (bl b)).2)] (.int .i64 (L (bl a) (bl b) : Nat)) w := told fun W => by
    have := rdist_any (of (tr (bl a) (bl b)).1) (of (tr (bl a) (bl b)).2) (by rw [of_size]; omega) (by rw [of_size]; omega) W
    rwa [bl_of, bl_of, L_tr] at this
  have g9 : ToldL 8 #[] (.bool true) w := told fun W => lives_any W
  clear hl
  generalize of (tr (bl a) (bl b)).1 = p at g3 g4 g8
  generalize of (tr (bl a) (bl b)).2 = q at g3 g4 g8
  have hd : L (bl a) (bl b) ≤ 120 := by omega
  generalize L (bl a) (bl b) = d at g1 g2 g5 g8 hd hm hle
  generalize least (bl a) (bl b) = l at g6 g7 hle
  clear hL
  have dm : decide ((d : Int) ≤ most) = true := by simp; omega
  have dd : ((d : Int) != (d : Int)) = false := by simp
  have de : ((d : Int) == (d : Int)) = true := by simp
  have dl' : ((l : Int) == (l : Int)) = true := by simp
  have hp : (p.toList == p.toList) = true := by simp
  have hq : (q.toList == q.toList) = true := by simp
  have Ha := Lib.hid ga
  have H1 := Lib.hid g1
  have H2 := Lib.hid g2
  have H3 := Lib.hid g3
  have H4 := Lib.hid g4
  have H5 := Lib.hid g5
  have H6 := Lib.hid g6
  have H7 := Lib.hid g7
  have H8 := Lib.hid g8
  have H9 := Lib.hid g9
  have HB0 := Lib.hid (Below.refl w.heap.size w)
  clear ga g1 g2 g3 g4 g5 g6 g7 g8 g9
  go_enter Try.func3, Try.ntmps3
  go_wp2_with (fail)
  refine (Ha.out _ HB0.out).mono ?_
  rintro e w1 ⟨rfl, hb1⟩
  go_wp2_with (fail)
  refine (H1.out _ hb1).mono ?_
  rintro e w2 ⟨rfl, hb2⟩
  go_wp2_with (fail)
  refine (H2.out _ hb2).mono ?_
  rintro e w3 ⟨rfl, hb3⟩
  go_wp2_with (fail)
  refine (H3.out _ hb3).mono ?_
  rintro e w4 ⟨rfl, hb4⟩
  go_wp2_with (fail)
  refine (H4.out _ hb4).mono ?_
  rintro e w5 ⟨rfl, hb5⟩
  go_wp2_with (fail)
  refine (H5.out _ hb5).mono ?_
  rintro e w6 ⟨rfl, hb6⟩
  go_wp2_with (fail)
  refine (H6.out _ hb6).mono ?_
  rintro e w7 ⟨rfl, hb7⟩
  go_wp2_with (fail)
  refine (H7.out _ hb7).mono ?_
  rintro e w8 ⟨rfl, hb8⟩
  go_wp2_with (fail)
  refine (H8.out _ hb8).mono ?_
  rintro e w9 ⟨rfl, hb9⟩
  go_wp2_with (fail)
  refine (H9.out _ hb9).mono ?_
  rintro e w10 ⟨rfl, hb10⟩
  go_wp2_with (fail)
  go_ret
  exact ⟨rfl, hb10⟩

set_option maxHeartbeats 3200000 in
set_option maxRecDepth 100000 in
theorem walk_no (a b : ByteArray) (ha : a.size ≤ 120) (hb : b.size ≤ 120) (most : Int) (hm : most < (L (bl a) (bl b) : Int)) (w : World) :
    Calls Try.prog 3 #[.string a, .string b, .int .i64 most] w fun e w' => e = .returned (.bool true) ∧ Below w.heap.size w w' := by
  have hl := tr_len (bl a) (bl b)
  rw [bl_len, bl_len] at hl
  have hL := L_max (bl a) (bl b)
  rw [bl_len, bl_len] at hL
  have hle := least_le (bl a) (bl b)
  have ga : ToldL 7 #[.string a, .string b] (.bool true) w := told_same fun W => short_yes a b ha hb W
  have g1 : ToldL 9 #[.string a, .string b] (.int .i64 (L (bl a) (bl b) : Nat)) w := told fun W => rdist_any a b (by omega) (by omega) W
  have g2 : ToldL 10 #[.string a, .string b, .int .i64 most] (.tuple #[.int .i64 0, .bool false]) w := told fun W => upto_no a b (by omega) (by omega) most hm W
  have g3 : ToldL 11 #[.string a, .string b] (.tuple #[.string (of (tr (bl a) (bl b)).1), .string (of (tr (bl a) (bl b)).2)]) w := told_still fun W => trim_any a b (by omega) (by omega) W
  have g4 : ToldL 12 #[.string a, .string b] (.tuple #[.string (of (tr (bl a) (bl b)).1), .string (of (tr (bl a) (bl b)).2)]) w := told_still fun W => rtrim_any a b (by omega) (by omega) W
  have g5 : ToldL 13 #[.string a, .string b] (.int .i64 (L (bl a) (bl b) : Nat)) w := told fun W => dist_any a b (by omega) (by omega) W
  have g6 : ToldL 14 #[.string a, .string b] (.int .i64 (least (bl a) (bl b) : Nat)) w := told fun W => least_any a b (by omega) (by omega) W
  have g7 : ToldL 15 #[.string a, .string b] (.int .i64 (least (bl a) (bl b) : Nat)) w := told_same fun W => rleast_any a b (by omega) (by omega) W
  have g8 : ToldL 9 #[.string (of (tr (bl a) (bl b)).1), .string (of (tr (bl a) (bl b)).2)] (.int .i64 (L (bl a) (bl b) : Nat)) w := told fun W => by
    have := rdist_any (of (tr (bl a) (bl b)).1) (of (tr (bl a) (bl b)).2) (by rw [of_size]; omega) (by rw [of_size]; omega) W
    rwa [bl_of, bl_of, L_tr] at this
  have g9 : ToldL 8 #[] (.bool true) w := told fun W => lives_any W
  clear hl
  generalize of (tr (bl a) (bl b)).1 = p at g3 g4 g8
  generalize of (tr (bl a) (bl b)).2 = q at g3 g4 g8
  have hd : L (bl a) (bl b) ≤ 120 := by omega
  generalize L (bl a) (bl b) = d at g1 g2 g5 g8 hd hm hle
  generalize least (bl a) (bl b) = l at g6 g7 hle
  clear hL
  have dm : decide ((d : Int) ≤ most) = false := by simp; omega
  have dd : ((d : Int) != (d : Int)) = false := by simp
  have de : ((d : Int) == (d : Int)) = true := by simp
  have dl' : ((l : Int) == (l : Int)) = true := by simp
  have hp : (p.toList == p.toList) = true := by simp
  have hq : (q.toList == q.toList) = true := by simp
  have Ha := Lib.hid ga
  have H1 := Lib.hid g1
  have H2 := Lib.hid g2
  have H3 := Lib.hid g3
  have H4 := Lib.hid g4
  have H5 := Lib.hid g5
  have H6 := Lib.hid g6
  have H7 := Lib.hid g7
  have H8 := Lib.hid g8
  have H9 := Lib.hid g9
  have HB0 := Lib.hid (Below.refl w.heap.size w)
  clear ga g1 g2 g3 g4 g5 g6 g7 g8 g9
  go_enter Try.func3, Try.ntmps3
  go_wp2_with (fail)
  refine (Ha.out _ HB0.out).mono ?_
  rintro e w1 ⟨rfl, hb1⟩
  go_wp2_with (fail)
  refine (H1.out _ hb1).mono ?_
  rintro e w2 ⟨rfl, hb2⟩
  go_wp2_with (fail)
  refine (H2.out _ hb2).mono ?_
  rintro e w3 ⟨rfl, hb3⟩
  go_wp2_with (fail)
  refine (H3.out _ hb3).mono ?_
  rintro e w4 ⟨rfl, hb4⟩
  go_wp2_with (fail)
  refine (H4.out _ hb4).mono ?_
  rintro e w5 ⟨rfl, hb5⟩
  go_wp2_with (fail)
  refine (H5.out _ hb5).mono ?_
  rintro e w6 ⟨rfl, hb6⟩
  go_wp2_with (fail)
  refine (H6.out _ hb6).mono ?_
  rintro e w7 ⟨rfl, hb7⟩
  go_wp2_with (fail)
  refine (H7.out _ hb7).mono ?_
  rintro e w8 ⟨rfl, hb8⟩
  go_wp2_with (fail)
  refine (H8.out _ hb8).mono ?_
  rintro e w9 ⟨rfl, hb9⟩
  go_wp2_with (fail)
  refine (H9.out _ hb9).mono ?_
  rintro e w10 ⟨rfl, hb10⟩
  go_wp2_with (fail)
  go_ret
  exact ⟨rfl, hb10⟩

theorem walk (a b : ByteArray) (most : Int) (w : World) :
    Calls Try.prog 3 #[.string a, .string b, .int .i64 most] w fun e w' => e = .returned (.bool true) ∧ Below w.heap.size w w' := by
  by_cases h : a.size ≤ 120 ∧ b.size ≤ 120
  · by_cases hm : (L (bl a) (bl b) : Int) ≤ most
    · exact walk_yes a b h.1 h.2 most hm w
    · exact walk_no a b h.1 h.2 most (by omega) w
  · exact walk_long a b most h w

theorem lifted (os : Os) (started : os.Started) (H : Type) (enc : TypeId × Value → H) :
    ReturnsInHanded {} Try.checked os 3 .any (Rows.levTellsSpec.pre6 enc Try.prog Try.f3 Rows.levTellsRow.domain false) (Rows.levTellsSpec.post enc Try.prog Try.f3 false true false false) := by
  refine lift (C := Try.checked) (by kernel_rfl) started (by kernel_rfl) Try.func3 rfl (by kernel_rfl) (by kernel_rfl) rfl Try.underlying4
    (fun ds hd => by match ds, hd with | [_, _, _], _ => exact ⟨rfl, rfl, rfl⟩)
    (ChangeSpec.witness6 (enc := enc) (C := Try.checked) false ⟨#[], #[.string ⟨#[]⟩, .string ⟨#[]⟩, .int .i64 0], []⟩ 8 (by kernel_rfl) (by kernel_rfl) (by kernel_rfl) (by kernel_rfl)) ?_
  intro W base args ds before hval0 hA0 hfz hsz0
  have hval : ∀ (j : Nat) t v, Try.f3.params[j]? = some t → args[j]? = some v → Value.okWide Try.prog W .any base t v := hval0
  have hA : DataW.TrodAll enc Try.prog W 0 (fun _ => true) true Try.f3.params.toList args.toList ds before := hA0
  have hsz : (DataW.weightsEach Try.prog Try.f3.params.toList ds).all (· ≤ reachBytes) = true := hsz0
  rw [Try.params3] at hA hval hsz
  obtain ⟨v0, vs0, d0, ds0, p0, q0, hargs, rfl, rfl, h0, r0⟩ := trodAll_cons hA
  obtain ⟨v1, vs1, d1, ds1, p1, q1, rfl, rfl, rfl, h1, r1⟩ := trodAll_cons r0
  obtain ⟨v2, vs2, d2, ds2, p2, q2, rfl, rfl, rfl, h2, r2⟩ := trodAll_cons r1
  obtain ⟨rfl, rfl, rfl⟩ := trodAll_nil r2
  obtain rfl : args = #[v0, v1, v2] := by cases args; simp_all
  obtain ⟨a, rfl, rfl, rfl, _⟩ := open_string Try.underlying9 (hval 0 9 v0 rfl rfl) h0
  obtain ⟨b, rfl, rfl, rfl, _⟩ := open_string Try.underlying9 (hval 1 9 v1 rfl rfl) h1
  obtain ⟨m, rfl⟩ := okWide_int Try.underlying3 (hval 2 3 v2 rfl rfl)
  have hr := reachBytes_lt
  have e0 : a.data.toList.length = a.size := Array.length_toList
  have e1 : b.data.toList.length = b.size := Array.length_toList
  have l0 := sized_string hsz (j := 0) (t := 9) rfl rfl
  have l1 := sized_string hsz (j := 1) (t := 9) rfl rfl
  exact walk a b m W

theorem proved : Rows.LevTellsSaid :=
  OpenClaim.holds_of_wide 3 Try.f3 rfl rfl rfl rfl rfl rfl rfl ⟨rfl, rfl, rfl, rfl, rfl⟩ rfl rfl rfl rfl rfl (by kernel_rfl) Try.func3 (by kernel_rfl)
    (of_decide_eq_true (by kernel_rfl)) (by unfold Func.isWrapper; first | (rw [if_pos (by decide +kernel)]; kernel_rfl) | (rw [if_neg (by decide +kernel)]; exact ⟨rfl, rfl⟩))
    (fun os started H enc _ => lifted os started H enc)
#print axioms proved
end Go.Proofs.Ytfahmllooeceaaa.levTells
