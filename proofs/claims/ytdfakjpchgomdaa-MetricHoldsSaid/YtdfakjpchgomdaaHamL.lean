/-
  The contracts of ham.Upto, ham.Dist and of what lives.
-/
import Derived.Test.YtdfakjpchgomdaaHamM
import Derived.Test.YtdfakjpchgomdaaBlk
import Derived.Test.YtdfakjpchgomdaaQuiet
import Derived.Test.YtdfakjpchgomdaaUpto
import Derived.Test.YtdfakjpchgomdaaChecked
import Derived.Lib.Hide
import Derived.Deep.QuietTactic
import Derived.BigQuiet
import Derived.WalkSpells
import Derived.WalkMore
namespace Go.Proofs.Ytdfakjpchgomdaa.ham
open Go.RowKit law bytes
set_option linter.unusedVariables false

/-- a value, and nothing but draws -/
def Still (v : Value) (w : World) (e : Ending) (w' : World) : Prop := e = .returned v ∧ ∃ k, w' = w.drewN k
theorem eq_get {a b : ByteArray} {k : Nat} (h1 : k < a.size) (h2 : k < b.size) (h : (a[k]'h1).toNat = (b[k]'h2).toNat) : (((a[k]'h1).toNat : Int) == ((b[k]'h2).toNat : Int)) = true ∧ (((a[k]'h1).toNat : Int) != ((b[k]'h2).toNat : Int)) = false := by rw [h]; simp
theorem ne_get {a b : ByteArray} {k : Nat} (h1 : k < a.size) (h2 : k < b.size) (h : (a[k]'h1).toNat ≠ (b[k]'h2).toNat) : (((a[k]'h1).toNat : Int) == ((b[k]'h2).toNat : Int)) = false ∧ (((a[k]'h1).toNat : Int) != ((b[k]'h2).toNat : Int)) = true := by
  have : (((a[k]'h1).toNat : Int) == ((b[k]'h2).toNat : Int)) = false := by simp; omega
  exact ⟨this, by simpa using this⟩

set_option maxHeartbeats 1600000 in
theorem upto_any (a b : ByteArray) (ha : a.size ≤ 9223372036854775807) (hb : b.size ≤ 9223372036854775807) (most : Int) (w : World) :
    Calls Try.prog 23 #[.string a, .string b, .int .i64 most] w (Still (.tuple #[.int .i64 (if (D a b : Int) ≤ most then (D a b : Int) else 0), .bool (decide ((D a b : Int) ≤ most))]) w) := by
  obtain ⟨r, hr⟩ : ∃ r : Int, r = if (D a b : Int) ≤ most then (D a b : Int) else 0 := ⟨_, rfl⟩
  obtain ⟨o, ho⟩ : ∃ o : Bool, o = decide ((D a b : Int) ≤ most) := ⟨_, rfl⟩
  rw [← hr, ← ho]
  have hyes : (D a b : Int) ≤ most → r = D a b ∧ o = true := fun h => ⟨by rw [hr, if_pos h], by rw [ho, decide_eq_true h]⟩
  have hno : most < (D a b : Int) → r = 0 ∧ o = false := fun h => ⟨by rw [hr, if_neg (by omega)], by rw [ho, decide_eq_false (by omega)]⟩
  clear hr ho
  have HY := Lib.hid hyes
  have HN := Lib.hid hno
  clear hyes hno
  go_enter Try.func23, Try.ntmps23
  go_wp2_with (fail)
  go_step3
  go_wp2_with (fail)
  all_goals
    have hL : lo a b = min a.size b.size := rfl
    have hM : mx a b = max a.size b.size := rfl
    have hD := D_eq a b
    have HD := Lib.hid hD
    clear hD
    go_step3
    go_wp2_with (fail)
    go_loopw [9, 24] (fun d i wr => ∃ k j n : Nat, k ≤ lo a b ∧ n = mx a b - lo a b + dk a b k ∧ i = .int .i64 k ∧ d = .int .i64 n ∧ wr = w.drewN j) (fun _ i _ => lo a b - (intOf i).toNat)
    case atStart => exact ⟨0, 0, mx a b - lo a b, Nat.zero_le _, by simp [dk], rfl, by congr 1; omega, rfl⟩
    case round =>
      obtain ⟨k, j, n, hk, hn, rfl, rfl, rfl⟩ := hrel
      have hdk := dk_le a b k
      have hn2 : n ≤ 9223372036854775807 - (lo a b - k) := by omega
      have hmono := dk_mono a b hk
      have HN1 := Lib.hid hn
      have hnD : n ≤ D a b := by have := HD.out; omega
      have HND := Lib.hid hnD
      clear hn hnD hdk hmono
      by_cases hlt : k < lo a b
      · have h1 : k < a.size := by omega
        have h2 : k < b.size := by omega
        by_cases hm : most < (n : Int)
        · obtain ⟨rfl, rfl⟩ := HN.out (by have := HND.out; omega)
          go_wp2_with (fail)
          refine bodyPost_ret (v := .tuple #[.int .i64 0, .bool false]) (by simp [results, Try.results23, go_sem]) rfl ?_
          exact ⟨rfl, j, rfl⟩
        · by_cases he : (a[k]'h1).toNat = (b[k]'h2).toNat
          · obtain ⟨q1, q2⟩ := eq_get h1 h2 he
            have hs := df_same h1 h2 he
            have HS := Lib.hid hs
            clear hs he
            go_wp2_with (fail)
            go_quiet (fail)
            go_wp2_with (fail)
            go_roundw
            case rel => exact ⟨k + 1, _, n, by omega, by rw [dk_succ, HS.out]; exact HN1.out, by go_num, rfl, rfl⟩
            case measure => simp [intOf]; omega
          · obtain ⟨q1, q2⟩ := ne_get h1 h2 he
            have hs := df_other h1 h2 he
            have HS := Lib.hid hs
            clear hs he
            go_wp2_with (fail)
            go_quiet (fail)
            go_wp2_with (fail)
            go_roundw
            case rel => exact ⟨k + 1, _, n + 1, by omega, by rw [dk_succ, HS.out, HN1.out]; omega, by go_num, by go_num, rfl⟩
            case measure => simp [intOf]; omega
      · have hk2 : k = lo a b := by omega
        have hnD : n = D a b := by rw [HD.out, HN1.out, hk2]; omega
        by_cases hm : most < (n : Int)
        · obtain ⟨rfl, rfl⟩ := HN.out (by omega)
          clear hnD hk2
          go_wp2_with (fail)
          refine bodyPost_ret (v := .tuple #[.int .i64 0, .bool false]) (by simp [results, Try.results23, go_sem]) rfl ?_
          exact ⟨rfl, j, rfl⟩
        · obtain ⟨hr, rfl⟩ := HY.out (by omega)
          rw [← hnD] at hr
          subst hr
          clear hnD hk2
          go_wp2_with (fail)
          refine bodyPost_ret (v := .tuple #[.int .i64 n, .bool true]) (by simp [results, Try.results23, go_sem]) rfl ?_
          exact ⟨rfl, j, rfl⟩
theorem still_of {P : Program} {f : FuncId} {args : Array Value} {v : Value} {w : World} {n : Nat} (h : Calls P f args (w.drewN n) (Still v (w.drewN n))) : Calls P f args (w.drewN n) (Still v w) :=
  h.mono fun _ _ ⟨he, k, hk⟩ => ⟨he, n + k, by rw [hk, World.drewN_drewN]⟩
set_option maxHeartbeats 800000 in
theorem dist_any (a b : ByteArray) (ha : a.size ≤ 9223372036854775807) (hb : b.size ≤ 9223372036854775807) (w : World) :
    Calls Try.prog 28 #[.string a, .string b] w (Still (.int .i64 (D a b)) w) := by
  have h := upto_any a b ha hb 9223372036854775807 w
  have hD := D_le a b
  have hle : (D a b : Int) ≤ 9223372036854775807 := by unfold mx at hD; omega
  rw [if_pos hle, decide_eq_true hle] at h
  have H := Lib.hid h
  clear h hle hD
  go_enter Try.func28, Try.ntmps28
  go_wp2_with (fail)
  refine H.out.mono ?_
  rintro e w1 ⟨rfl, k, rfl⟩
  go_wp2
  go_ret
  exact ⟨rfl, k, rfl⟩
/-! ### The document's own -/
set_option maxHeartbeats 1600000 in
theorem rdist_any (a b : ByteArray) (ha : a.size ≤ 9223372036854775807) (hb : b.size ≤ 9223372036854775807) (w : World) :
    Calls Try.prog 21 #[.string a, .string b] w (Still (.int .i64 (D a b)) w) := by
  have hM : mx a b = max a.size b.size := rfl
  have hD : D a b = dk a b (mx a b) := rfl
  have HD := Lib.hid hD
  clear hD
  go_enter Try.func21, Try.ntmps21
  go_wp2_with (fail)
  go_loopw [5, 6] (fun d i wr => ∃ k j n : Nat, k ≤ mx a b ∧ n = dk a b k ∧ i = .int .i64 k ∧ d = .int .i64 n ∧ wr = w.drewN j) (fun _ i _ => mx a b - (intOf i).toNat)
  case atStart => exact ⟨0, 0, 0, Nat.zero_le _, rfl, rfl, rfl, rfl⟩
  case round =>
    obtain ⟨k, j, n, hk, hn, rfl, rfl, rfl⟩ := hrel
    have hdk := dk_le a b k
    have hn2 : n ≤ k := by omega
    have HN1 := Lib.hid hn
    clear hn hdk
    by_cases h1 : k < a.size
    · by_cases h2 : k < b.size
      · by_cases he : (a[k]'h1).toNat = (b[k]'h2).toNat
        · obtain ⟨q1, q2⟩ := eq_get h1 h2 he
          have hs := df_same h1 h2 he
          have HS := Lib.hid hs
          clear hs he
          go_wp2_with (fail)
          go_quiet (fail)
          go_wp2_with (fail)
          go_roundw
          case rel => exact ⟨k + 1, _, n, by omega, by rw [dk_succ, HS.out]; exact HN1.out, by go_num, rfl, rfl⟩
          case measure => simp [intOf]; omega
        · obtain ⟨q1, q2⟩ := ne_get h1 h2 he
          have hs := df_other h1 h2 he
          have HS := Lib.hid hs
          clear hs he
          go_wp2_with (fail)
          go_quiet (fail)
          go_wp2_with (fail)
          go_roundw
          case rel => exact ⟨k + 1, _, n + 1, by omega, by rw [dk_succ, HS.out, HN1.out], by go_num, by go_num, rfl⟩
          case measure => simp [intOf]; omega
      · have hs := df_one (a := a) (b := b) (i := k) (by unfold lo; omega) (by omega)
        have HS := Lib.hid hs
        clear hs
        go_wp2_with (fail)
        go_quiet (fail)
        go_wp2_with (fail)
        go_roundw
        case rel => exact ⟨k + 1, _, n + 1, by omega, by rw [dk_succ, HS.out, HN1.out], by go_num, by go_num, rfl⟩
        case measure => simp [intOf]; omega
    · have d1 : decide (a.size ≤ k) = true := decide_eq_true (by omega)
      by_cases h2 : k < b.size
      · have hs := df_one (a := a) (b := b) (i := k) (by unfold lo; omega) (by omega)
        have HS := Lib.hid hs
        clear hs
        go_wp2_with (fail)
        go_quiet (fail)
        go_wp2_with (fail)
        go_roundw
        case rel => exact ⟨k + 1, _, n + 1, by omega, by rw [dk_succ, HS.out, HN1.out], by go_num, by go_num, rfl⟩
        case measure => simp [intOf]; omega
      · have hk2 : k = mx a b := by omega
        have HK2 := Lib.hid hk2
        clear hk2
        go_wp2_with (fail)
        go_ret
        exact ⟨ret_int (by rw [HD.out, ← HK2.out, ← HN1.out]), j, rfl⟩
end Go.Proofs.Ytdfakjpchgomdaa.ham
