/-
  For both texts the law LevEdits returns true, and changes nothing that there was. No condition.
-/
import Derived.Test.YtfahmllooeceaaaLive8
namespace Go.Proofs.Ytfahmllooeceaaa.levEdits
open Go.RowKit law bytes lev
open Go.ChangeShapes Go.WideShapes Go.ChangeAt
open Go.ChangeMaps (open_string shut_string)
set_option linter.unusedVariables false

theorem ed_append (x y : List UInt8) : ed (x ++ y) = ed x + ed y := by
  induction x with
  | nil => simp [ed]
  | cons c x ih => simp only [List.cons_append, ed, ih]; omega
theorem ed_next (s : ByteArray) (k : Nat) (h : k < s.size) : ed ((bl s).take (k + 1)) = ed ((bl s).take k) + if s[k]'h = 61 then 0 else 1 := by
  rw [bl_take_succ s k h, ed_append]
  simp only [ed]
  omega

set_option maxHeartbeats 1600000 in
set_option maxRecDepth 100000 in
theorem walk_long (a b : ByteArray) (ha : a.size ≤ 140737488355328) (hb : b.size ≤ 140737488355328) (h : ¬ a.size ≤ 24) (w : World) :
    Calls Try.prog 5 #[.string a, .string b] w fun e w' => e = .returned (.bool true) ∧ Below w.heap.size w w' := by
  have d0 : decide ((24 : Int) < (a.size : Int)) = true := by simp; omega
  have g5 : ToldL 8 #[] (.bool true) w := told fun W => lives_any W
  have H5 := Lib.hid g5
  have HB0 := Lib.hid (Below.refl w.heap.size w)
  clear g5
  go_enter Try.func5, Try.ntmps5
  go_wp2_with (fail)
  refine (H5.out _ HB0.out).mono ?_
  rintro e w1 ⟨rfl, hb1⟩
  go_wp2_with (fail)
  go_ret
  exact ⟨rfl, hb1⟩
set_option maxHeartbeats 1600000 in
set_option maxRecDepth 100000 in
theorem walk_long' (a b : ByteArray) (hb : b.size ≤ 140737488355328) (ha : a.size ≤ 24) (h : ¬ b.size ≤ 24) (w : World) :
    Calls Try.prog 5 #[.string a, .string b] w fun e w' => e = .returned (.bool true) ∧ Below w.heap.size w w' := by
  have d0 : decide ((24 : Int) < (a.size : Int)) = false := by simp; omega
  have d1 : decide ((24 : Int) < (b.size : Int)) = true := by simp; omega
  have g5 : ToldL 8 #[] (.bool true) w := told fun W => lives_any W
  have H5 := Lib.hid g5
  have HB0 := Lib.hid (Below.refl w.heap.size w)
  clear g5
  go_enter Try.func5, Try.ntmps5
  go_wp2_with (fail)
  refine (H5.out _ HB0.out).mono ?_
  rintro e w1 ⟨rfl, hb1⟩
  go_wp2_with (fail)
  go_ret
  exact ⟨rfl, hb1⟩

set_option maxHeartbeats 3200000 in
set_option maxRecDepth 100000 in
theorem walk_short (a b : ByteArray) (ha : a.size ≤ 24) (hb : b.size ≤ 24) (w : World) :
    Calls Try.prog 5 #[.string a, .string b] w fun e w' => e = .returned (.bool true) ∧ Below w.heap.size w w' := by
  have hl := E_len (bl a) (bl b)
  rw [bl_len, bl_len] at hl
  have hv := va_E (bl a) (bl b)
  have hed := ed_E (bl a) (bl b)
  have g1 : ToldL 16 #[.string a, .string b] (.string (of (E (bl a) (bl b)))) w := told fun W => edits_any a b (by omega) (by omega) W
  have g2 : ToldL 17 #[.string a, .string b, .string (of (E (bl a) (bl b)))] (.tuple #[.string b, .bool true]) w := told_still fun W => by
    have := apply_any a b (of (E (bl a) (bl b))) (by omega) (by omega) (by rw [of_size]; omega) W
    rw [bl_of, hv] at this
    exact this
  have g3 : ToldL 18 #[.string a, .string b] (.string (of (E (bl a) (bl b)))) w := told fun W => redits_any a b (by omega) (by omega) W
  have g4 : ToldL 9 #[.string a, .string b] (.int .i64 (L (bl a) (bl b) : Nat)) w := told fun W => rdist_any a b (by omega) (by omega) W
  have g5 : ToldL 8 #[] (.bool true) w := told fun W => lives_any W
  obtain ⟨s, hs⟩ : ∃ s, s = of (E (bl a) (bl b)) := ⟨_, rfl⟩
  have hsz : s.size ≤ 48 := by rw [hs, of_size]; omega
  have hn : ed (bl s) = L (bl a) (bl b) := by rw [hs, bl_of, hed]
  rw [← hs] at g1 g2 g3
  clear hs hed hv hl
  generalize L (bl a) (bl b) = d at g4 hn
  have hp : (s.toList == s.toList) = true := by simp
  have hq : (b.toList == b.toList) = true := by simp
  have hdd : ((d : Int) == (d : Int)) = true := by simp
  have d0 : decide ((24 : Int) < (a.size : Int)) = false := by simp; omega
  have d1 : decide ((24 : Int) < (b.size : Int)) = false := by simp; omega
  have H1 := Lib.hid g1
  have H2 := Lib.hid g2
  have H3 := Lib.hid g3
  have H4 := Lib.hid g4
  have H5 := Lib.hid g5
  have HN := Lib.hid hn
  have HB0 := Lib.hid (Below.refl w.heap.size w)
  clear g1 g2 g3 g4 g5 hn
  go_enter Try.func5, Try.ntmps5
  go_wp2_with (fail)
  refine (H1.out _ HB0.out).mono ?_
  rintro e w1 ⟨rfl, hb1⟩
  go_wp2_with (fail)
  refine (H2.out _ hb1).mono ?_
  rintro e w2 ⟨rfl, hb2⟩
  go_wp2_with (fail)
  clear HB0 hb1 H1 H2
  go_loopw [8, 9] (fun n i wr => ∃ (k q : Nat), k ≤ s.size ∧ q ≤ k ∧ i = .int .i64 k ∧ n = .int .i64 q ∧ Hid (q = ed ((bl s).take k)) ∧ wr = w2) (fun _ i _ => s.size - (intOf i).toNat)
  case atStart => exact ⟨0, 0, Nat.zero_le _, Nat.le_refl _, rfl, rfl, Lib.hid rfl, rfl⟩
  case round =>
    obtain ⟨k, q, hk, hq, rfl, rfl, HQ, rfl⟩ := hrel
    by_cases hlt : k < s.size
    · have hst := ed_next s k hlt
      have hu8 : ((s[k]'hlt).toNat : Int) ≤ 255 := by have := (s[k]'hlt).toNat_lt; omega
      by_cases he : s[k]'hlt = 61
      · have c0 : (((s[k]'hlt).toNat : Int) == (61 : Int)) = true := by rw [he]; rfl
        have c1 : (((s[k]'hlt).toNat : Int) != (61 : Int)) = false := by rw [he]; rfl
        have hn : q = ed ((bl s).take (k + 1)) := by rw [hst, if_pos he, HQ.out, Nat.add_zero]
        have HN2 := Lib.hid hn
        clear hn hst he
        go_wp2_with (fail)
        go_roundw
        case rel => exact ⟨k + 1, q, by omega, by omega, by go_num, rfl, HN2, trivial⟩
        case measure => simp [intOf]; omega
      · have hne : ((s[k]'hlt).toNat : Int) ≠ 61 := fun h => he (UInt8.toNat_inj.1 (by simpa using (by omega : (s[k]'hlt).toNat = 61)))
        have c0 : (((s[k]'hlt).toNat : Int) == (61 : Int)) = false := by simp; omega
        have c1 : (((s[k]'hlt).toNat : Int) != (61 : Int)) = true := by simp; omega
        have hn : q + 1 = ed ((bl s).take (k + 1)) := by rw [hst, if_neg he, HQ.out]
        have HN2 := Lib.hid hn
        clear hn hst he
        go_wp2_with (fail)
        go_roundw
        case rel => exact ⟨k + 1, q + 1, by omega, by omega, by go_num, by go_num, HN2, trivial⟩
        case measure => simp [intOf]; omega
    · have hn : q = d := by rw [HQ.out, List.take_of_length_le (by rw [bl_len]; omega), HN.out]
      subst hn
      clear HQ HN
      go_wp2_with (fail)
      refine (H3.out _ hb2).mono ?_
      rintro e w3 ⟨rfl, hb3⟩
      go_wp2_with (fail)
      refine (H4.out _ hb3).mono ?_
      rintro e w4 ⟨rfl, hb4⟩
      go_wp2_with (fail)
      refine (H5.out _ hb4).mono ?_
      rintro e w5 ⟨rfl, hb5⟩
      go_wp2_with (fail)
      go_ret
      exact ⟨rfl, hb5⟩

theorem walk (a b : ByteArray) (ha : a.size ≤ 140737488355328) (hb : b.size ≤ 140737488355328) (w : World) :
    Calls Try.prog 5 #[.string a, .string b] w fun e w' => e = .returned (.bool true) ∧ Below w.heap.size w w' := by
  by_cases h : a.size ≤ 24
  · by_cases h2 : b.size ≤ 24
    · exact walk_short a b h h2 w
    · exact walk_long' a b hb h h2 w
  · exact walk_long a b ha hb h w

theorem lifted (os : Os) (started : os.Started) (H : Type) (enc : TypeId × Value → H) :
    ReturnsInHanded {} Try.checked os 5 .any (Rows.levEditsSpec.pre6 enc Try.prog Try.f5 Rows.levEditsRow.domain false) (Rows.levEditsSpec.post enc Try.prog Try.f5 false true false false) := by
  refine lift (C := Try.checked) (by kernel_rfl) started (by kernel_rfl) Try.func5 rfl (by kernel_rfl) (by kernel_rfl) rfl Try.underlying4
    (fun ds hd => by match ds, hd with | [_, _], _ => exact ⟨rfl, rfl, rfl⟩)
    (ChangeSpec.witness6 (enc := enc) (C := Try.checked) false ⟨#[], #[.string ⟨#[]⟩, .string ⟨#[]⟩], []⟩ 8 (by kernel_rfl) (by kernel_rfl) (by kernel_rfl) (by kernel_rfl)) ?_
  intro W base args ds before hval0 hA0 hfz hsz0
  have hval : ∀ (j : Nat) t v, Try.f5.params[j]? = some t → args[j]? = some v → Value.okWide Try.prog W .any base t v := hval0
  have hA : DataW.TrodAll enc Try.prog W 0 (fun _ => true) true Try.f5.params.toList args.toList ds before := hA0
  have hsz : (DataW.weightsEach Try.prog Try.f5.params.toList ds).all (· ≤ reachBytes) = true := hsz0
  rw [Try.params5] at hA hval hsz
  obtain ⟨v0, vs0, d0, ds0, p0, q0, hargs, rfl, rfl, h0, r0⟩ := trodAll_cons hA
  obtain ⟨v1, vs1, d1, ds1, p1, q1, rfl, rfl, rfl, h1, r1⟩ := trodAll_cons r0
  obtain ⟨rfl, rfl, rfl⟩ := trodAll_nil r1
  obtain rfl : args = #[v0, v1] := by cases args; simp_all
  obtain ⟨a, rfl, rfl, rfl, _⟩ := open_string Try.underlying9 (hval 0 9 v0 rfl rfl) h0
  obtain ⟨b, rfl, rfl, rfl, _⟩ := open_string Try.underlying9 (hval 1 9 v1 rfl rfl) h1
  have hr := reachBytes_lt
  have e0 : a.data.toList.length = a.size := Array.length_toList
  have e1 : b.data.toList.length = b.size := Array.length_toList
  have l0 := sized_string hsz (j := 0) (t := 9) rfl rfl
  have l1 := sized_string hsz (j := 1) (t := 9) rfl rfl
  exact walk a b (by omega) (by omega) W

theorem proved : Rows.LevEditsSaid :=
  OpenClaim.holds_of_wide 5 Try.f5 rfl rfl rfl rfl rfl rfl rfl ⟨rfl, rfl, rfl, rfl, rfl⟩ rfl rfl rfl rfl rfl (by kernel_rfl) Try.func5 (by kernel_rfl)
    (of_decide_eq_true (by kernel_rfl)) (by unfold Func.isWrapper; first | (rw [if_pos (by decide +kernel)]; kernel_rfl) | (rw [if_neg (by decide +kernel)]; exact ⟨rfl, rfl⟩))
    (fun os started H enc _ => lifted os started H enc)
#print axioms proved
end Go.Proofs.Ytfahmllooeceaaa.levEdits
