/-
  Several texts in one.
-/
import Derived.Test.YtaamlidflfdjkaaRows
import Derived.Test.YtaamlidflfdjkaaGLib
import Derived.Test.YtaamlidflfdjkaaChecked
import Derived.Lib.Hide
import Derived.Deep.QuietTactic
import Derived.BigQuiet
import Derived.WalkSpells
import Derived.WalkMore
/-
  Mathematics: at how many places two texts are others.
-/
namespace Go.Proofs.Ytaamlidflfdjkaa.ham

/-- the sign at a place; 0 behind the end -/
def sy (s : ByteArray) (i : Nat) : Nat := if h : i < s.size then (s[i]'h).toNat + 1 else 0
/-- are they others at a place? -/
def df (a b : ByteArray) (i : Nat) : Nat := if sy a i = sy b i then 0 else 1
/-- at how many of the first k places -/
def dk (a b : ByteArray) : Nat → Nat
  | 0 => 0
  | k + 1 => dk a b k + df a b k
def mx (a b : ByteArray) : Nat := max a.size b.size
def lo (a b : ByteArray) : Nat := min a.size b.size
def D (a b : ByteArray) : Nat := dk a b (mx a b)
/-- which of the first k places -/
def pl (a b : ByteArray) : Nat → List Nat
  | 0 => []
  | k + 1 => if df a b k = 0 then pl a b k else pl a b k ++ [k]

theorem sy_lt {s : ByteArray} {i : Nat} (h : i < s.size) : sy s i = (s[i]'h).toNat + 1 := dif_pos h
theorem sy_ge {s : ByteArray} {i : Nat} (h : s.size ≤ i) : sy s i = 0 := dif_neg (by omega)
theorem df_le (a b : ByteArray) (i : Nat) : df a b i ≤ 1 := by unfold df; split <;> omega
theorem df_zero (a b : ByteArray) (i : Nat) : df a b i = 0 ↔ sy a i = sy b i := by unfold df; split <;> simp_all
theorem df_symm (a b : ByteArray) (i : Nat) : df a b i = df b a i := by
  unfold df
  by_cases h : sy a i = sy b i
  · rw [if_pos h, if_pos h.symm]
  · rw [if_neg h, if_neg (fun e => h e.symm)]
theorem df_tri (a b c : ByteArray) (i : Nat) : df a b i ≤ df a c i + df c b i := by
  have h1 := df_zero a b i
  have h2 := df_zero a c i
  have h3 := df_zero c b i
  have h4 := df_le a b i
  by_cases e2 : df a c i = 0
  · by_cases e3 : df c b i = 0
    · have := h1.2 ((h2.1 e2).trans (h3.1 e3)); omega
    · omega
  · omega
theorem df_same {a b : ByteArray} {i : Nat} (h1 : i < a.size) (h2 : i < b.size) (h : (a[i]'h1).toNat = (b[i]'h2).toNat) : df a b i = 0 := by rw [df_zero, sy_lt h1, sy_lt h2, h]
theorem df_other {a b : ByteArray} {i : Nat} (h1 : i < a.size) (h2 : i < b.size) (h : (a[i]'h1).toNat ≠ (b[i]'h2).toNat) : df a b i = 1 := by
  unfold df
  rw [if_neg]
  rw [sy_lt h1, sy_lt h2]
  omega
theorem df_one {a b : ByteArray} {i : Nat} (h1 : lo a b ≤ i) (h2 : i < mx a b) : df a b i = 1 := by
  unfold df lo mx at *
  rw [if_neg]
  by_cases h : i < a.size
  · rw [sy_lt h, sy_ge (by omega)]; omega
  · rw [sy_ge (by omega), sy_lt (by omega : i < b.size)]; omega
theorem dk_succ (a b : ByteArray) (k : Nat) : dk a b (k + 1) = dk a b k + df a b k := rfl
theorem dk_symm (a b : ByteArray) (k : Nat) : dk a b k = dk b a k := by
  induction k with
  | zero => rfl
  | succ k ih => rw [dk_succ, dk_succ, ih, df_symm]
theorem dk_tri (a b c : ByteArray) (k : Nat) : dk a b k ≤ dk a c k + dk c b k := by
  induction k with
  | zero => simp [dk]
  | succ k ih => have := df_tri a b c k; rw [dk_succ, dk_succ, dk_succ]; omega
theorem dk_le (a b : ByteArray) (k : Nat) : dk a b k ≤ k := by
  induction k with
  | zero => simp [dk]
  | succ k ih => have := df_le a b k; rw [dk_succ]; omega
theorem dk_mono (a b : ByteArray) {j k : Nat} (h : j ≤ k) : dk a b j ≤ dk a b k := by
  induction k with
  | zero => obtain rfl : j = 0 := by omega
            exact Nat.le_refl _
  | succ k ih =>
    by_cases hj : j = k + 1
    · subst hj; exact Nat.le_refl _
    · have h1 := ih (by omega)
      rw [dk_succ]
      omega
theorem dk_stop (a b : ByteArray) {k : Nat} (h : mx a b ≤ k) : dk a b k = D a b := by
  induction k with
  | zero => unfold D; rw [show mx a b = 0 from by omega]
  | succ k ih =>
    by_cases hk : mx a b = k + 1
    · unfold D; rw [hk]
    · have h1 := ih (by omega)
      have h2 : a.size ≤ k ∧ b.size ≤ k := by unfold mx at h hk; omega
      have h3 : df a b k = 0 := by rw [df_zero, sy_ge h2.1, sy_ge h2.2]
      rw [dk_succ]
      omega
theorem dk_zero (a b : ByteArray) (k : Nat) : dk a b k = 0 ↔ ∀ j, j < k → sy a j = sy b j := by
  induction k with
  | zero => simp [dk]
  | succ k ih =>
    have h3 := df_zero a b k
    constructor
    · intro h j hj
      rw [dk_succ] at h
      by_cases hjk : j = k
      · subst hjk; exact h3.1 (by omega)
      · exact ih.1 (by omega) j (by omega)
    · intro h
      have h4 := ih.2 (fun j hj => h j (by omega))
      have h5 := h3.2 (h k (by omega))
      rw [dk_succ]
      omega
theorem dk_tail (a b : ByteArray) {k : Nat} (h1 : lo a b ≤ k) (h2 : k ≤ mx a b) : dk a b k = dk a b (lo a b) + (k - lo a b) := by
  induction k with
  | zero => rw [show lo a b = 0 from by omega]; rfl
  | succ k ih =>
    by_cases hk : lo a b = k + 1
    · rw [hk]; omega
    · have := ih (by omega) (by omega)
      have := df_one (a := a) (b := b) (i := k) (by omega) (by omega)
      rw [dk_succ]
      omega
theorem lo_mx (a b : ByteArray) : lo a b ≤ mx a b := by unfold lo mx; omega
/-- what both have, and by how much one is longer -/
theorem D_eq (a b : ByteArray) : D a b = dk a b (lo a b) + (mx a b - lo a b) := dk_tail a b (lo_mx a b) (Nat.le_refl _)
theorem mx_symm (a b : ByteArray) : mx a b = mx b a := by unfold mx; omega
theorem D_symm (a b : ByteArray) : D a b = D b a := by unfold D; rw [mx_symm, dk_symm]
theorem D_le (a b : ByteArray) : D a b ≤ mx a b := dk_le _ _ _
theorem D_tri (a b c : ByteArray) : D a b ≤ D a c + D c b := by
  have h := dk_tri a b c (mx a b + mx a c + mx c b)
  rw [dk_stop a b (by omega), dk_stop a c (by omega), dk_stop c b (by omega)] at h
  exact h
theorem D_zero (a b : ByteArray) : D a b = 0 ↔ a = b := by
  unfold D
  rw [dk_zero]
  constructor
  · intro h
    have hs : a.size = b.size := by
      by_cases h1 : a.size < b.size
      · have := h a.size (by unfold mx; omega)
        rw [sy_ge (Nat.le_refl _), sy_lt h1] at this
        omega
      · by_cases h2 : b.size < a.size
        · have := h b.size (by unfold mx; omega)
          rw [sy_ge (s := b) (Nat.le_refl _), sy_lt h2] at this
          omega
        · omega
    apply ByteArray.ext_getElem hs
    intro i h1 h2
    have := h i (by unfold mx; omega)
    rw [sy_lt h1, sy_lt h2] at this
    exact UInt8.toNat_inj.1 (by omega)
  · rintro rfl j _
    rfl
theorem pl_succ (a b : ByteArray) (k : Nat) : pl a b (k + 1) = if df a b k = 0 then pl a b k else pl a b k ++ [k] := rfl
theorem pl_length (a b : ByteArray) (k : Nat) : (pl a b k).length ≤ k := by
  induction k with
  | zero => simp [pl]
  | succ k ih =>
    rw [pl_succ]
    split
    · omega
    · rw [List.length_append, List.length_singleton]; omega
theorem pl_lt (a b : ByteArray) (k : Nat) : ∀ j ∈ pl a b k, j < k := by
  induction k with
  | zero => simp [pl]
  | succ k ih =>
    rw [pl_succ]
    intro j hj
    split at hj
    · have := ih j hj; omega
    · rcases List.mem_append.1 hj with h | h
      · have := ih j h; omega
      · have := List.mem_singleton.1 h; omega
end Go.Proofs.Ytaamlidflfdjkaa.ham
/-
  The contracts of ham.Upto, ham.Dist and of what lives.
-/
namespace Go.Proofs.Ytaamlidflfdjkaa.ham
open Go.RowKit law bytes
set_option linter.unusedVariables false

/-- a value, and nothing but draws -/
def Still (v : Value) (w : World) (e : Ending) (w' : World) : Prop := e = .returned v ∧ ∃ k, w' = w.drewN k
theorem eq_get {a b : ByteArray} {k : Nat} (h1 : k < a.size) (h2 : k < b.size) (h : (a[k]'h1).toNat = (b[k]'h2).toNat) : (((a[k]'h1).toNat : Int) == ((b[k]'h2).toNat : Int)) = true ∧ (((a[k]'h1).toNat : Int) != ((b[k]'h2).toNat : Int)) = false := by rw [h]; simp
theorem ne_get {a b : ByteArray} {k : Nat} (h1 : k < a.size) (h2 : k < b.size) (h : (a[k]'h1).toNat ≠ (b[k]'h2).toNat) : (((a[k]'h1).toNat : Int) == ((b[k]'h2).toNat : Int)) = false ∧ (((a[k]'h1).toNat : Int) != ((b[k]'h2).toNat : Int)) = true := by
  have : (((a[k]'h1).toNat : Int) == ((b[k]'h2).toNat : Int)) = false := by simp; omega
  exact ⟨this, by simpa using this⟩

set_option maxHeartbeats 1600000 in
theorem upto_any (a b : ByteArray) (ha : a.size ≤ 9223372036854775807) (hb : b.size ≤ 9223372036854775807) (most : Int) (w : World) :
    Calls Try.prog 53 #[.string a, .string b, .int .i64 most] w (Still (.tuple #[.int .i64 (if (D a b : Int) ≤ most then (D a b : Int) else 0), .bool (decide ((D a b : Int) ≤ most))]) w) := by
  obtain ⟨r, hr⟩ : ∃ r : Int, r = if (D a b : Int) ≤ most then (D a b : Int) else 0 := ⟨_, rfl⟩
  obtain ⟨o, ho⟩ : ∃ o : Bool, o = decide ((D a b : Int) ≤ most) := ⟨_, rfl⟩
  rw [← hr, ← ho]
  have hyes : (D a b : Int) ≤ most → r = D a b ∧ o = true := fun h => ⟨by rw [hr, if_pos h], by rw [ho, decide_eq_true h]⟩
  have hno : most < (D a b : Int) → r = 0 ∧ o = false := fun h => ⟨by rw [hr, if_neg (by omega)], by rw [ho, decide_eq_false (by omega)]⟩
  clear hr ho
  have HY := Lib.hid hyes
  have HN := Lib.hid hno
  clear hyes hno
  go_enter Try.func53, Try.ntmps53
  go_wp2_with (fail)
  go_step3
  go_wp2_with (fail)
  all_goals
    have hL : lo a b = min a.size b.size := rfl
    have hM : mx a b = max a.size b.size := rfl
    have hD := D_eq a b
    have HD := Lib.hid hD
    clear hD
    go_step3
    go_wp2_with (fail)
    go_loopw [9, 24] (fun d i wr => ∃ k j n : Nat, k ≤ lo a b ∧ n = mx a b - lo a b + dk a b k ∧ i = .int .i64 k ∧ d = .int .i64 n ∧ wr = w.drewN j) (fun _ i _ => lo a b - (intOf i).toNat)
    case atStart => exact ⟨0, 0, mx a b - lo a b, Nat.zero_le _, by simp [dk], rfl, by congr 1; omega, rfl⟩
    case round =>
      obtain ⟨k, j, n, hk, hn, rfl, rfl, rfl⟩ := hrel
      have hdk := dk_le a b k
      have hn2 : n ≤ 9223372036854775807 - (lo a b - k) := by omega
      have hmono := dk_mono a b hk
      have HN1 := Lib.hid hn
      have hnD : n ≤ D a b := by have := HD.out; omega
      have HND := Lib.hid hnD
      clear hn hnD hdk hmono
      by_cases hlt : k < lo a b
      · have h1 : k < a.size := by omega
        have h2 : k < b.size := by omega
        by_cases hm : most < (n : Int)
        · obtain ⟨rfl, rfl⟩ := HN.out (by have := HND.out; omega)
          go_wp2_with (fail)
          refine bodyPost_ret (v := .tuple #[.int .i64 0, .bool false]) (by simp [results, Try.results53, go_sem]) rfl ?_
          exact ⟨rfl, j, rfl⟩
        · by_cases he : (a[k]'h1).toNat = (b[k]'h2).toNat
          · obtain ⟨q1, q2⟩ := eq_get h1 h2 he
            have hs := df_same h1 h2 he
            have HS := Lib.hid hs
            clear hs he
            go_wp2_with (fail)
            go_quiet (fail)
            go_wp2_with (fail)
            go_roundw
            case rel => exact ⟨k + 1, _, n, by omega, by rw [dk_succ, HS.out]; exact HN1.out, by go_num, rfl, rfl⟩
            case measure => simp [intOf]; omega
          · obtain ⟨q1, q2⟩ := ne_get h1 h2 he
            have hs := df_other h1 h2 he
            have HS := Lib.hid hs
            clear hs he
            go_wp2_with (fail)
            go_quiet (fail)
            go_wp2_with (fail)
            go_roundw
            case rel => exact ⟨k + 1, _, n + 1, by omega, by rw [dk_succ, HS.out, HN1.out]; omega, by go_num, by go_num, rfl⟩
            case measure => simp [intOf]; omega
      · have hk2 : k = lo a b := by omega
        have hnD : n = D a b := by rw [HD.out, HN1.out, hk2]; omega
        by_cases hm : most < (n : Int)
        · obtain ⟨rfl, rfl⟩ := HN.out (by omega)
          clear hnD hk2
          go_wp2_with (fail)
          refine bodyPost_ret (v := .tuple #[.int .i64 0, .bool false]) (by simp [results, Try.results53, go_sem]) rfl ?_
          exact ⟨rfl, j, rfl⟩
        · obtain ⟨hr, rfl⟩ := HY.out (by omega)
          rw [← hnD] at hr
          subst hr
          clear hnD hk2
          go_wp2_with (fail)
          refine bodyPost_ret (v := .tuple #[.int .i64 n, .bool true]) (by simp [results, Try.results53, go_sem]) rfl ?_
          exact ⟨rfl, j, rfl⟩
theorem still_of {P : Program} {f : FuncId} {args : Array Value} {v : Value} {w : World} {n : Nat} (h : Calls P f args (w.drewN n) (Still v (w.drewN n))) : Calls P f args (w.drewN n) (Still v w) :=
  h.mono fun _ _ ⟨he, k, hk⟩ => ⟨he, n + k, by rw [hk, World.drewN_drewN]⟩
set_option maxHeartbeats 800000 in
theorem dist_any (a b : ByteArray) (ha : a.size ≤ 9223372036854775807) (hb : b.size ≤ 9223372036854775807) (w : World) :
    Calls Try.prog 50 #[.string a, .string b] w (Still (.int .i64 (D a b)) w) := by
  have h := upto_any a b ha hb 9223372036854775807 w
  have hD := D_le a b
  have hle : (D a b : Int) ≤ 9223372036854775807 := by unfold mx at hD; omega
  rw [if_pos hle, decide_eq_true hle] at h
  have H := Lib.hid h
  clear h hle hD
  go_enter Try.func50, Try.ntmps50
  go_wp2_with (fail)
  refine H.out.mono ?_
  rintro e w1 ⟨rfl, k, rfl⟩
  go_wp2
  go_ret
  exact ⟨rfl, k, rfl⟩
/-! ### The document's own -/
set_option maxHeartbeats 1600000 in
theorem rdist_any (a b : ByteArray) (ha : a.size ≤ 9223372036854775807) (hb : b.size ≤ 9223372036854775807) (w : World) :
    Calls Try.prog 35 #[.string a, .string b] w (Still (.int .i64 (D a b)) w) := by
  have hM : mx a b = max a.size b.size := rfl
  have hD : D a b = dk a b (mx a b) := rfl
  have HD := Lib.hid hD
  clear hD
  go_enter Try.func35, Try.ntmps35
  go_wp2_with (fail)
  go_loopw [5, 6] (fun d i wr => ∃ k j n : Nat, k ≤ mx a b ∧ n = dk a b k ∧ i = .int .i64 k ∧ d = .int .i64 n ∧ wr = w.drewN j) (fun _ i _ => mx a b - (intOf i).toNat)
  case atStart => exact ⟨0, 0, 0, Nat.zero_le _, rfl, rfl, rfl, rfl⟩
  case round =>
    obtain ⟨k, j, n, hk, hn, rfl, rfl, rfl⟩ := hrel
    have hdk := dk_le a b k
    have hn2 : n ≤ k := by omega
    have HN1 := Lib.hid hn
    clear hn hdk
    by_cases h1 : k < a.size
    · by_cases h2 : k < b.size
      · by_cases he : (a[k]'h1).toNat = (b[k]'h2).toNat
        · obtain ⟨q1, q2⟩ := eq_get h1 h2 he
          have hs := df_same h1 h2 he
          have HS := Lib.hid hs
          clear hs he
          go_wp2_with (fail)
          go_quiet (fail)
          go_wp2_with (fail)
          go_roundw
          case rel => exact ⟨k + 1, _, n, by omega, by rw [dk_succ, HS.out]; exact HN1.out, by go_num, rfl, rfl⟩
          case measure => simp [intOf]; omega
        · obtain ⟨q1, q2⟩ := ne_get h1 h2 he
          have hs := df_other h1 h2 he
          have HS := Lib.hid hs
          clear hs he
          go_wp2_with (fail)
          go_quiet (fail)
          go_wp2_with (fail)
          go_roundw
          case rel => exact ⟨k + 1, _, n + 1, by omega, by rw [dk_succ, HS.out, HN1.out], by go_num, by go_num, rfl⟩
          case measure => simp [intOf]; omega
      · have hs := df_one (a := a) (b := b) (i := k) (by unfold lo; omega) (by omega)
        have HS := Lib.hid hs
        clear hs
        go_wp2_with (fail)
        go_quiet (fail)
        go_wp2_with (fail)
        go_roundw
        case rel => exact ⟨k + 1, _, n + 1, by omega, by rw [dk_succ, HS.out, HN1.out], by go_num, by go_num, rfl⟩
        case measure => simp [intOf]; omega
    · have d1 : decide (a.size ≤ k) = true := decide_eq_true (by omega)
      by_cases h2 : k < b.size
      · have hs := df_one (a := a) (b := b) (i := k) (by unfold lo; omega) (by omega)
        have HS := Lib.hid hs
        clear hs
        go_wp2_with (fail)
        go_quiet (fail)
        go_wp2_with (fail)
        go_roundw
        case rel => exact ⟨k + 1, _, n + 1, by omega, by rw [dk_succ, HS.out, HN1.out], by go_num, by go_num, rfl⟩
        case measure => simp [intOf]; omega
      · have hk2 : k = mx a b := by omega
        have HK2 := Lib.hid hk2
        clear hk2
        go_wp2_with (fail)
        go_ret
        exact ⟨ret_int (by rw [HD.out, ← HK2.out, ← HN1.out]), j, rfl⟩
end Go.Proofs.Ytaamlidflfdjkaa.ham
