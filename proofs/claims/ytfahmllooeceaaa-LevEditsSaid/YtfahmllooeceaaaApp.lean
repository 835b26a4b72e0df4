/-
  The contract of lev.Apply.
-/
import Derived.Test.YtfahmllooeceaaaEd2
namespace Go.Proofs.Ytfahmllooeceaaa.lev
open Go.RowKit law bytes
set_option linter.unusedVariables false

def outS (v : Bool) (b : ByteArray) : ByteArray := if v then b else ⟨#[]⟩
theorem va_nil (a b : List UInt8) : va a b [] = (a.isEmpty && b.isEmpty) := by rw [va.eq_def]

set_option maxHeartbeats 3200000 in
set_option maxRecDepth 100000 in
theorem apply_any (a b e : ByteArray) (ha : a.size ≤ 140737488355328) (hb : b.size ≤ 140737488355328) (he : e.size ≤ 140737488355328) (w : World) :
    Calls Try.prog 17 #[.string a, .string b, .string e] w (Still (.tuple #[.string (outS (va (bl a) (bl b) (bl e)) b), .bool (va (bl a) (bl b) (bl e))]) w) := by
  obtain ⟨v, hv⟩ : ∃ v, v = va (bl a) (bl b) (bl e) := ⟨_, rfl⟩
  rw [← hv]
  have HV := Lib.hid hv
  clear hv
  go_enter Try.func17, Try.ntmps17
  go_wp2_with (fail)
  go_loopw [8, 9, 13] (fun x y t wr => ∃ (i j k n : Nat), i ≤ a.size ∧ j ≤ b.size ∧ k ≤ e.size ∧ x = .int .i64 i ∧ y = .int .i64 j ∧ t = .int .i64 k ∧ wr = w.drewN n ∧ Hid (v = va ((bl a).drop i) ((bl b).drop j) ((bl e).drop k))) (fun _ _ t _ => e.size - (intOf t).toNat)
  case atStart => exact ⟨0, 0, 0, 0, Nat.zero_le _, Nat.zero_le _, Nat.zero_le _, rfl, rfl, rfl, rfl, HV⟩
  case round =>
    obtain ⟨i, j, k, n, hi, hj, hk, rfl, rfl, rfl, rfl, HK⟩ := hrel
    by_cases hlt : k < e.size
    · have hmay : ∀ W, Calls Try.prog 31 #[.string (a.extract i a.size), .string (b.extract j b.size), .int .u8 (e[k]'hlt).toNat] W (fun e' w' => e' = .returned (.bool (ml (bl (a.extract i a.size)) (bl (b.extract j b.size)) (e[k]'hlt))) ∧ ∃ m, w' = W.drewN m) := fun W => may_any _ _ _ W
      rw [bl_from, bl_from] at hmay
      have hst : v = (ml ((bl a).drop i) ((bl b).drop j) (e[k]'hlt) && va (if (e[k]'hlt) = 43 then (bl a).drop i else ((bl a).drop i).tail) (if (e[k]'hlt) = 45 then (bl b).drop j else ((bl b).drop j).tail) ((bl e).drop (k + 1))) := by
        rw [HK.out, bl_cons e k hlt, va_step]
      rw [List.tail_drop, List.tail_drop] at hst
      have hroom1 : ml ((bl a).drop i) ((bl b).drop j) (e[k]'hlt) = true → (e[k]'hlt) ≠ 43 → i < a.size := by
        intro hm h43
        by_cases h : i < a.size
        · exact h
        · rw [drop_nil (s := a) (by omega)] at hm
          unfold ml at hm
          rw [if_neg h43] at hm
          split at hm
          · cases hm
          · split at hm
            · cases hm
            · split at hm <;> cases hm
      have hroom2 : ml ((bl a).drop i) ((bl b).drop j) (e[k]'hlt) = true → (e[k]'hlt) ≠ 45 → j < b.size := by
        intro hm h45
        by_cases h : j < b.size
        · exact h
        · rw [drop_nil (s := b) (by omega)] at hm
          unfold ml at hm
          rw [if_neg h45] at hm
          split at hm
          · cases hd : (bl a).drop i <;> rw [hd] at hm <;> cases hm
          · split at hm
            · cases hd : (bl a).drop i <;> rw [hd] at hm <;> cases hm
            · split at hm <;> cases hm
      generalize ml ((bl a).drop i) ((bl b).drop j) (e[k]'hlt) = q at *
      cases q
      · rw [Bool.false_and] at hst
        subst hst
        have HMAY := Lib.hid hmay
        clear hmay hroom1 hroom2 HK
        go_wp2_with (fail)
        go_quiet ((go_at_call 31; exact quietB (HMAY.out _)))
        go_wp2_with (fail)
        refine bodyPost_ret (v := .tuple #[.string ⟨#[]⟩, .bool false]) (by simp [results, Try.results17, go_sem]) rfl ?_
        exact ⟨rfl, _, dd _ _ _⟩
      · rw [Bool.true_and] at hst
        have hroom1 := hroom1 rfl
        have hroom2 := hroom2 rfl
        have HMAY := Lib.hid hmay
        clear hmay HK
        by_cases h43 : (e[k]'hlt) = 43
        · rw [if_pos h43, if_neg (by rw [h43]; decide)] at hst
          have hj2 := hroom2 (by rw [h43]; decide)
          have hc : ((e[k]'hlt).toNat : Int) = 43 := by rw [h43]; rfl
          have HS := Lib.hid hst
          have HN := Lib.hid (fun W => next_plus i j (by omega) (by omega) W)
          clear hst hroom1 hroom2 h43
          have HC := Lib.hid hc
          clear hc
          go_wp2_with (fail)
          go_quiet ((go_at_call 31; exact quietB (HMAY.out _)))
          go_wp2_with (fail)
          rw [HC.out]
          refine (HN.out _).mono ?_
          rintro e' w2 ⟨rfl, rfl⟩
          go_wp2_with (fail)
          go_roundw
          case rel => exact ⟨i, j + 1, k + 1, _, hi, by omega, by omega, rfl, by go_num, by go_num, rfl, HS⟩
          case measure => simp [intOf]; omega
        · by_cases h45 : (e[k]'hlt) = 45
          · rw [if_neg h43, if_pos h45] at hst
            have hi2 := hroom1 h43
            have hc : ((e[k]'hlt).toNat : Int) = 45 := by rw [h45]; rfl
            have HS := Lib.hid hst
            have HN := Lib.hid (fun W => next_minus i j (by omega) (by omega) W)
            clear hst hroom1 hroom2 h43 h45
            have HC := Lib.hid hc
            clear hc
            go_wp2_with (fail)
            go_quiet ((go_at_call 31; exact quietB (HMAY.out _)))
            go_wp2_with (fail)
            rw [HC.out]
            refine (HN.out _).mono ?_
            rintro e' w2 ⟨rfl, rfl⟩
            go_wp2_with (fail)
            go_roundw
            case rel => exact ⟨i + 1, j, k + 1, _, by omega, hj, by omega, by go_num, rfl, by go_num, rfl, HS⟩
            case measure => simp [intOf]; omega
          · rw [if_neg h43, if_neg h45] at hst
            have hi2 := hroom1 h43
            have hj2 := hroom2 h45
            have HS := Lib.hid hst
            have ne_of : ∀ d : UInt8, (e[k]'hlt) ≠ d → (e[k]'hlt).toNat ≠ d.toNat := fun d h e => h (UInt8.toNat_inj.1 e)
            have HN := Lib.hid (fun W => next_both i j (by omega) (by omega) (e[k]'hlt).toNat (ne_of 43 h43) (ne_of 45 h45) W)
            clear hst hroom1 hroom2 h43 h45 ne_of
            go_wp2_with (fail)
            go_quiet ((go_at_call 31; exact quietB (HMAY.out _)))
            go_wp2_with (fail)
            refine (HN.out _).mono ?_
            rintro e' w2 ⟨rfl, rfl⟩
            go_wp2_with (fail)
            go_roundw
            case rel => exact ⟨i + 1, j + 1, k + 1, _, by omega, by omega, by omega, by go_num, by go_num, by go_num, rfl, HS⟩
            case measure => simp [intOf]; omega
    · have hv : v = (((bl a).drop i).isEmpty && ((bl b).drop j).isEmpty) := by rw [HK.out, drop_nil (s := e) (by omega), va_nil]
      by_cases h1 : i < a.size
      · rw [bl_cons a i h1, List.isEmpty_cons, Bool.false_and] at hv
        subst hv
        clear HK
        go_wp2_with (fail)
        refine bodyPost_ret (v := .tuple #[.string ⟨#[]⟩, .bool false]) (by simp [results, Try.results17, go_sem]) rfl ?_
        exact ⟨rfl, _, rfl⟩
      · rw [drop_nil (s := a) (by omega), List.isEmpty_nil, Bool.true_and] at hv
        by_cases h2 : j < b.size
        · rw [bl_cons b j h2, List.isEmpty_cons] at hv
          subst hv
          clear HK
          go_wp2_with (fail)
          refine bodyPost_ret (v := .tuple #[.string ⟨#[]⟩, .bool false]) (by simp [results, Try.results17, go_sem]) rfl ?_
          exact ⟨rfl, _, rfl⟩
        · rw [drop_nil (s := b) (by omega), List.isEmpty_nil] at hv
          subst hv
          clear HK
          go_wp2_with (fail)
          refine bodyPost_ret (v := .tuple #[.string b, .bool true]) (by simp [results, Try.results17, go_sem]) rfl ?_
          exact ⟨rfl, _, rfl⟩
end Go.Proofs.Ytfahmllooeceaaa.lev
