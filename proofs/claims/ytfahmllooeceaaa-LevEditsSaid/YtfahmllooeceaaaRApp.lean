/-
  The contract of the document's own Apply.
-/
import Derived.Test.YtfahmllooeceaaaApp
namespace Go.Proofs.Ytfahmllooeceaaa.lev
open Go.RowKit law bytes
set_option linter.unusedVariables false

/-! ### the document's own -/
theorem cat_next {b : ByteArray} (o : ByteArray) (j : Nat) (hj : j < b.size) (hb : b.size ≤ 140737488355328) (ho : o = b.extract 0 j) (W : World) :
    (Op.stringOp .add o (b.extract j (j + 1))).run Try.prog W = .ok (.string (b.extract 0 (j + 1))) W := by
  have s1 : o.size ≤ 140737488355328 := by rw [ho]; simp; omega
  have s2 : (b.extract j (j + 1)).size ≤ 1 := by simp; omega
  rw [run_string_add_sum W _ _ (by omega)]
  congr 2
  apply bl_ext
  rw [ho]
  show ((b.extract 0 j) ++ (b.extract j (j + 1))).data.toList = _
  rw [ByteArray.data_append, Array.toList_append]
  show bl (b.extract 0 j) ++ bl (b.extract j (j + 1)) = _
  rw [bl_to, bl_to, bl_extract, bl_take_succ b j hj, List.drop_append_of_le_length (by rw [List.length_take, bl_len]; omega), List.drop_eq_nil_of_le (by rw [List.length_take]; omega), List.nil_append]

set_option maxHeartbeats 3200000 in
set_option maxRecDepth 100000 in
theorem rapply_any (a b e : ByteArray) (ha : a.size ≤ 140737488355328) (hb : b.size ≤ 140737488355328) (he : e.size ≤ 140737488355328) (w : World) :
    Calls Try.prog 19 #[.string a, .string b, .string e] w (Still (.tuple #[.string (outS (va (bl a) (bl b) (bl e)) b), .bool (va (bl a) (bl b) (bl e))]) w) := by
  obtain ⟨v, hv⟩ : ∃ v, v = va (bl a) (bl b) (bl e) := ⟨_, rfl⟩
  rw [← hv]
  have HV := Lib.hid hv
  clear hv
  go_enter Try.func19, Try.ntmps19
  go_wp2_with (fail)
  go_loopw [8, 9, 10, 11] (fun o x y t wr => ∃ (s : ByteArray) (i j k n : Nat), Hid (s = b.extract 0 j) ∧ i ≤ a.size ∧ j ≤ b.size ∧ k ≤ e.size ∧ o = .string s ∧ x = .int .i64 i ∧ y = .int .i64 j ∧ t = .int .i64 k ∧ wr = w.drewN n ∧ Hid (v = va ((bl a).drop i) ((bl b).drop j) ((bl e).drop k))) (fun _ _ _ t _ => e.size - (intOf t).toNat)
  case atStart => exact ⟨_, 0, 0, 0, 0, Lib.hid (by rw [← of_bl (b.extract 0 0), bl_to]; rfl), Nat.zero_le _, Nat.zero_le _, Nat.zero_le _, rfl, rfl, rfl, rfl, rfl, HV⟩
  case round =>
    obtain ⟨o, i, j, k, n, HO, hi, hj, hk, rfl, rfl, rfl, rfl, rfl, HK⟩ := hrel
    by_cases hlt : k < e.size
    · have hst : v = va ((bl a).drop i) ((bl b).drop j) ((e[k]'hlt) :: (bl e).drop (k + 1)) := by rw [HK.out, bl_cons e k hlt]
      by_cases hcc : e[k]'hlt = 61
      · have hcI : ((e[k]'hlt).toNat : Int) = 61 := by rw [hcc]; rfl
        rw [hcc] at hst
        have hcc' := Lib.hid hcc
        clear hcc
        by_cases h1 : i < a.size
        · by_cases h2 : j < b.size
          · rw [bl_cons a i h1, bl_cons b j h2] at hst
            have hcat := cat_next o j h2 hb HO.out
            have d1 : decide (a.size ≤ i) = false := decide_eq_false (by omega)
            have d2 : decide (b.size ≤ j) = false := decide_eq_false (by omega)
            by_cases hh : a[i]'h1 = b[j]'h2
            · obtain ⟨q1, q2⟩ := eq_get h1 h2 hh
              replace hst : v = va ((bl a).drop (i + 1)) ((bl b).drop (j + 1)) ((bl e).drop (k + 1)) := by rw [hst, va_step]; simp [ml, hh]
              clear hh
              have HS := Lib.hid hst
              clear hst HK
              go_wp2_with (fail)
              go_quiet (fail)
              go_wp2_with (fail)
              go_roundw
              case rel => exact ⟨b.extract 0 (j + 1), i + 1, j + 1, k + 1, _, Lib.hid rfl, by omega, by omega, by omega, rfl, by go_num, by go_num, by go_num, rfl, HS⟩
              case measure => simp [intOf]; omega
            · obtain ⟨q1, q2⟩ := ne_get h1 h2 hh
              replace hst : v = false := by rw [hst, va_step]; simp [ml, hh]
              clear hh
              subst hst
              clear HK
              go_wp2_with (fail)
              go_quiet (fail)
              go_wp2_with (fail)
              refine bodyPost_ret (v := .tuple #[.string ⟨#[]⟩, .bool false]) (by simp [results, Try.results19, go_sem]) rfl ?_
              exact ⟨rfl, _, dd _ _ _⟩
          · rw [drop_nil (s := b) (k := j) (by omega), va_step] at hst
            replace hst : v = false := by rw [hst]; simp [ml]
            have d2 : decide (b.size ≤ j) = true := decide_eq_true (by omega)
            have d1 : decide (a.size ≤ i) = false := decide_eq_false (by omega)
            subst hst
            clear HK
            go_wp2_with (fail)
            go_quiet (fail)
            go_wp2_with (fail)
            refine bodyPost_ret (v := .tuple #[.string ⟨#[]⟩, .bool false]) (by simp [results, Try.results19, go_sem]) rfl ?_
            exact ⟨rfl, _, dd _ _ _⟩
        · rw [drop_nil (s := a) (k := i) (by omega), va_step] at hst
          replace hst : v = false := by rw [hst]; simp [ml]
          have d1 : decide (a.size ≤ i) = true := decide_eq_true (by omega)
          subst hst
          clear HK
          go_wp2_with (fail)
          go_quiet (fail)
          go_wp2_with (fail)
          refine bodyPost_ret (v := .tuple #[.string ⟨#[]⟩, .bool false]) (by simp [results, Try.results19, go_sem]) rfl ?_
          exact ⟨rfl, _, dd _ _ _⟩
      · have c1 := hcc
        by_cases hcc : e[k]'hlt = 33
        · have hcI : ((e[k]'hlt).toNat : Int) = 33 := by rw [hcc]; rfl
          rw [hcc] at hst
          have hcc' := Lib.hid hcc
          clear hcc
          by_cases h1 : i < a.size
          · by_cases h2 : j < b.size
            · rw [bl_cons a i h1, bl_cons b j h2] at hst
              have hcat := cat_next o j h2 hb HO.out
              have d1 : decide (a.size ≤ i) = false := decide_eq_false (by omega)
              have d2 : decide (b.size ≤ j) = false := decide_eq_false (by omega)
              by_cases hh : a[i]'h1 = b[j]'h2
              · obtain ⟨q1, q2⟩ := eq_get h1 h2 hh
                replace hst : v = false := by rw [hst, va_step]; simp [ml, hh]
                clear hh
                subst hst
                clear HK
                go_wp2_with (fail)
                go_quiet (fail)
                go_wp2_with (fail)
                refine bodyPost_ret (v := .tuple #[.string ⟨#[]⟩, .bool false]) (by simp [results, Try.results19, go_sem]) rfl ?_
                exact ⟨rfl, _, dd _ _ _⟩
              · obtain ⟨q1, q2⟩ := ne_get h1 h2 hh
                replace hst : v = va ((bl a).drop (i + 1)) ((bl b).drop (j + 1)) ((bl e).drop (k + 1)) := by rw [hst, va_step]; simp [ml, hh]
                clear hh
                have HS := Lib.hid hst
                clear hst HK
                go_wp2_with (fail)
                go_quiet (fail)
                go_wp2_with (fail)
                go_roundw
                case rel => exact ⟨b.extract 0 (j + 1), i + 1, j + 1, k + 1, _, Lib.hid rfl, by omega, by omega, by omega, rfl, by go_num, by go_num, by go_num, rfl, HS⟩
                case measure => simp [intOf]; omega
            · rw [drop_nil (s := b) (k := j) (by omega), va_step] at hst
              replace hst : v = false := by rw [hst]; simp [ml]
              have d2 : decide (b.size ≤ j) = true := decide_eq_true (by omega)
              have d1 : decide (a.size ≤ i) = false := decide_eq_false (by omega)
              subst hst
              clear HK
              go_wp2_with (fail)
              go_quiet (fail)
              go_wp2_with (fail)
              refine bodyPost_ret (v := .tuple #[.string ⟨#[]⟩, .bool false]) (by simp [results, Try.results19, go_sem]) rfl ?_
              exact ⟨rfl, _, dd _ _ _⟩
          · rw [drop_nil (s := a) (k := i) (by omega), va_step] at hst
            replace hst : v = false := by rw [hst]; simp [ml]
            have d1 : decide (a.size ≤ i) = true := decide_eq_true (by omega)
            subst hst
            clear HK
            go_wp2_with (fail)
            go_quiet (fail)
            go_wp2_with (fail)
            refine bodyPost_ret (v := .tuple #[.string ⟨#[]⟩, .bool false]) (by simp [results, Try.results19, go_sem]) rfl ?_
            exact ⟨rfl, _, dd _ _ _⟩
        · have c2 := hcc
          by_cases hcc : e[k]'hlt = 45
          · have hcI : ((e[k]'hlt).toNat : Int) = 45 := by rw [hcc]; rfl
            rw [hcc] at hst
            have hcc' := Lib.hid hcc
            clear hcc
            by_cases h1 : i < a.size
            · rw [bl_cons a i h1] at hst
              replace hst : v = va ((bl a).drop (i + 1)) ((bl b).drop j) ((bl e).drop (k + 1)) := by rw [hst, va_step]; simp [ml]
              have d1 : decide (a.size ≤ i) = false := decide_eq_false (by omega)
              have HS := Lib.hid hst
              clear hst HK
              go_wp2_with (fail)
              go_roundw
              case rel => exact ⟨o, i + 1, j, k + 1, _, HO, by omega, by omega, by omega, rfl, by go_num, by go_num, by go_num, rfl, HS⟩
              case measure => simp [intOf]; omega
            · rw [drop_nil (s := a) (k := i) (by omega), va_step] at hst
              replace hst : v = false := by rw [hst]; simp [ml]
              have d1 : decide (a.size ≤ i) = true := decide_eq_true (by omega)
              subst hst
              clear HK
              go_wp2_with (fail)
              refine bodyPost_ret (v := .tuple #[.string ⟨#[]⟩, .bool false]) (by simp [results, Try.results19, go_sem]) rfl ?_
              exact ⟨rfl, _, rfl⟩
          · have c3 := hcc
            by_cases hcc : e[k]'hlt = 43
            · have hcI : ((e[k]'hlt).toNat : Int) = 43 := by rw [hcc]; rfl
              rw [hcc] at hst
              have hcc' := Lib.hid hcc
              clear hcc
              by_cases h2 : j < b.size
              · rw [bl_cons b j h2] at hst
                replace hst : v = va ((bl a).drop i) ((bl b).drop (j + 1)) ((bl e).drop (k + 1)) := by rw [hst, va_step]; simp [ml]
                have hcat := cat_next o j h2 hb HO.out
                have d1 : decide (b.size ≤ j) = false := decide_eq_false (by omega)
                have HS := Lib.hid hst
                clear hst HK
                go_wp2_with (fail)
                go_roundw
                case rel => exact ⟨b.extract 0 (j + 1), i, j + 1, k + 1, _, Lib.hid rfl, by omega, by omega, by omega, rfl, by go_num, by go_num, by go_num, rfl, HS⟩
                case measure => simp [intOf]; omega
              · rw [drop_nil (s := b) (k := j) (by omega), va_step] at hst
                replace hst : v = false := by rw [hst]; simp [ml]
                have d1 : decide (b.size ≤ j) = true := decide_eq_true (by omega)
                subst hst
                clear HK
                go_wp2_with (fail)
                refine bodyPost_ret (v := .tuple #[.string ⟨#[]⟩, .bool false]) (by simp [results, Try.results19, go_sem]) rfl ?_
                exact ⟨rfl, _, rfl⟩
            · have c4 := hcc
              have ne_of : ∀ d : UInt8, (e[k]'hlt) ≠ d → (e[k]'hlt).toNat ≠ d.toNat := fun d h e => h (UInt8.toNat_inj.1 e)
              have p1 := ne_of 61 c1
              have p2 := ne_of 33 c2
              have p3 := ne_of 45 c3
              have p4 := ne_of 43 c4
              have t1 : (((e[k]'hlt).toNat : Int) == 61) = false := by rw [beq_eq_false_iff_ne]; intro h; exact p1 (by have : ((61 : UInt8).toNat : Int) = 61 := rfl; omega)
              have t2 : (((e[k]'hlt).toNat : Int) == 33) = false := by rw [beq_eq_false_iff_ne]; intro h; exact p2 (by have : ((33 : UInt8).toNat : Int) = 33 := rfl; omega)
              have t3 : (((e[k]'hlt).toNat : Int) == 45) = false := by rw [beq_eq_false_iff_ne]; intro h; exact p3 (by have : ((45 : UInt8).toNat : Int) = 45 := rfl; omega)
              have t4 : (((e[k]'hlt).toNat : Int) == 43) = false := by rw [beq_eq_false_iff_ne]; intro h; exact p4 (by have : ((43 : UInt8).toNat : Int) = 43 := rfl; omega)
              replace hst : v = false := by rw [hst, va_step]; unfold ml; rw [if_neg c1, if_neg c2, if_neg c3, if_neg c4]; rfl
              clear ne_of p1 p2 p3 p4 c1 c2 c3 c4
              subst hst
              clear HK
              go_wp2_with (fail)
              refine bodyPost_ret (v := .tuple #[.string ⟨#[]⟩, .bool false]) (by simp [results, Try.results19, go_sem]) rfl ?_
              exact ⟨rfl, _, rfl⟩
    · have hst : v = (((bl a).drop i).isEmpty && ((bl b).drop j).isEmpty) := by rw [HK.out, drop_nil (s := e) (by omega), va_nil]
      by_cases h1 : i < a.size
      · rw [bl_cons a i h1, List.isEmpty_cons, Bool.false_and] at hst
        subst hst
        clear HK
        go_wp2_with (fail)
        refine bodyPost_ret (v := .tuple #[.string ⟨#[]⟩, .bool false]) (by simp [results, Try.results19, go_sem]) rfl ?_
        exact ⟨rfl, _, rfl⟩
      · rw [drop_nil (s := a) (by omega), List.isEmpty_nil, Bool.true_and] at hst
        by_cases h2 : j < b.size
        · rw [bl_cons b j h2, List.isEmpty_cons] at hst
          subst hst
          clear HK
          go_wp2_with (fail)
          refine bodyPost_ret (v := .tuple #[.string ⟨#[]⟩, .bool false]) (by simp [results, Try.results19, go_sem]) rfl ?_
          exact ⟨rfl, _, rfl⟩
        · rw [drop_nil (s := b) (by omega), List.isEmpty_nil] at hst
          subst hst
          have ho : o = b := by rw [HO.out]; apply bl_ext; rw [bl_to, List.take_of_length_le (by rw [bl_len]; omega)]
          subst ho
          clear HK
          go_wp2_with (fail)
          refine bodyPost_ret (v := .tuple #[.string o, .bool true]) (by simp [results, Try.results19, go_sem]) rfl ?_
          exact ⟨rfl, _, rfl⟩
end Go.Proofs.Ytfahmllooeceaaa.lev
