/-
  Mathematics: at how many places two texts are others.
-/
import Derived.Test.YtdfakjpchgomdaaRows
namespace Go.Proofs.Ytdfakjpchgomdaa.ham

/-- the sign at a place; 0 behind the end -/
def sy (s : ByteArray) (i : Nat) : Nat := if h : i < s.size then (s[i]'h).toNat + 1 else 0
/-- are they others at a place? -/
def df (a b : ByteArray) (i : Nat) : Nat := if sy a i = sy b i then 0 else 1
/-- at how many of the first k places -/
def dk (a b : ByteArray) : Nat → Nat
  | 0 => 0
  | k + 1 => dk a b k + df a b k
def mx (a b : ByteArray) : Nat := max a.size b.size
def lo (a b : ByteArray) : Nat := min a.size b.size
def D (a b : ByteArray) : Nat := dk a b (mx a b)
/-- which of the first k places -/
def pl (a b : ByteArray) : Nat → List Nat
  | 0 => []
  | k + 1 => if df a b k = 0 then pl a b k else pl a b k ++ [k]

theorem sy_lt {s : ByteArray} {i : Nat} (h : i < s.size) : sy s i = (s[i]'h).toNat + 1 := dif_pos h
theorem sy_ge {s : ByteArray} {i : Nat} (h : s.size ≤ i) : sy s i = 0 := dif_neg (by omega)
theorem df_le (a b : ByteArray) (i : Nat) : df a b i ≤ 1 := by unfold df; split <;> omega
theorem df_zero (a b : ByteArray) (i : Nat) : df a b i = 0 ↔ sy a i = sy b i := by unfold df; split <;> simp_all
theorem df_symm (a b : ByteArray) (i : Nat) : df a b i = df b a i := by
  unfold df
  by_cases h : sy a i = sy b i
  · rw [if_pos h, if_pos h.symm]
  · rw [if_neg h, if_neg (fun e => h e.symm)]
theorem df_tri (a b c : ByteArray) (i : Nat) : df a b i ≤ df a c i + df c b i := by
  have h1 := df_zero a b i
  have h2 := df_zero a c i
  have h3 := df_zero c b i
  have h4 := df_le a b i
  by_cases e2 : df a c i = 0
  · by_cases e3 : df c b i = 0
    · have := h1.2 ((h2.1 e2).trans (h3.1 e3)); omega
    · omega
  · omega
theorem df_same {a b : ByteArray} {i : Nat} (h1 : i < a.size) (h2 : i < b.size) (h : (a[i]'h1).toNat = (b[i]'h2).toNat) : df a b i = 0 := by rw [df_zero, sy_lt h1, sy_lt h2, h]
theorem df_other {a b : ByteArray} {i : Nat} (h1 : i < a.size) (h2 : i < b.size) (h : (a[i]'h1).toNat ≠ (b[i]'h2).toNat) : df a b i = 1 := by
  unfold df
  rw [if_neg]
  rw [sy_lt h1, sy_lt h2]
  omega
theorem df_one {a b : ByteArray} {i : Nat} (h1 : lo a b ≤ i) (h2 : i < mx a b) : df a b i = 1 := by
  unfold df lo mx at *
  rw [if_neg]
  by_cases h : i < a.size
  · rw [sy_lt h, sy_ge (by omega)]; omega
  · rw [sy_ge (by omega), sy_lt (by omega : i < b.size)]; omega
theorem dk_succ (a b : ByteArray) (k : Nat) : dk a b (k + 1) = dk a b k + df a b k := rfl
theorem dk_symm (a b : ByteArray) (k : Nat) : dk a b k = dk b a k := by
  induction k with
  | zero => rfl
  | succ k ih => rw [dk_succ, dk_succ, ih, df_symm]
theorem dk_tri (a b c : ByteArray) (k : Nat) : dk a b k ≤ dk a c k + dk c b k := by
  induction k with
  | zero => simp [dk]
  | succ k ih => have := df_tri a b c k; rw [dk_succ, dk_succ, dk_succ]; omega
theorem dk_le (a b : ByteArray) (k : Nat) : dk a b k ≤ k := by
  induction k with
  | zero => simp [dk]
  | succ k ih => have := df_le a b k; rw [dk_succ]; omega
theorem dk_mono (a b : ByteArray) {j k : Nat} (h : j ≤ k) : dk a b j ≤ dk a b k := by
  induction k with
  | zero => obtain rfl : j = 0 := by omega
            exact Nat.le_refl _
  | succ k ih =>
    by_cases hj : j = k + 1
    · subst hj; exact Nat.le_refl _
    · have h1 := ih (by omega)
      rw [dk_succ]
      omega
theorem dk_stop (a b : ByteArray) {k : Nat} (h : mx a b ≤ k) : dk a b k = D a b := by
  induction k with
  | zero => unfold D; rw [show mx a b = 0 from by omega]
  | succ k ih =>
    by_cases hk : mx a b = k + 1
    · unfold D; rw [hk]
    · have h1 := ih (by omega)
      have h2 : a.size ≤ k ∧ b.size ≤ k := by unfold mx at h hk; omega
      have h3 : df a b k = 0 := by rw [df_zero, sy_ge h2.1, sy_ge h2.2]
      rw [dk_succ]
      omega
theorem dk_zero (a b : ByteArray) (k : Nat) : dk a b k = 0 ↔ ∀ j, j < k → sy a j = sy b j := by
  induction k with
  | zero => simp [dk]
  | succ k ih =>
    have h3 := df_zero a b k
    constructor
    · intro h j hj
      rw [dk_succ] at h
      by_cases hjk : j = k
      · subst hjk; exact h3.1 (by omega)
      · exact ih.1 (by omega) j (by omega)
    · intro h
      have h4 := ih.2 (fun j hj => h j (by omega))
      have h5 := h3.2 (h k (by omega))
      rw [dk_succ]
      omega
theorem dk_tail (a b : ByteArray) {k : Nat} (h1 : lo a b ≤ k) (h2 : k ≤ mx a b) : dk a b k = dk a b (lo a b) + (k - lo a b) := by
  induction k with
  | zero => rw [show lo a b = 0 from by omega]; rfl
  | succ k ih =>
    by_cases hk : lo a b = k + 1
    · rw [hk]; omega
    · have := ih (by omega) (by omega)
      have := df_one (a := a) (b := b) (i := k) (by omega) (by omega)
      rw [dk_succ]
      omega
theorem lo_mx (a b : ByteArray) : lo a b ≤ mx a b := by unfold lo mx; omega
/-- what both have, and by how much one is longer -/
theorem D_eq (a b : ByteArray) : D a b = dk a b (lo a b) + (mx a b - lo a b) := dk_tail a b (lo_mx a b) (Nat.le_refl _)
theorem mx_symm (a b : ByteArray) : mx a b = mx b a := by unfold mx; omega
theorem D_symm (a b : ByteArray) : D a b = D b a := by unfold D; rw [mx_symm, dk_symm]
theorem D_le (a b : ByteArray) : D a b ≤ mx a b := dk_le _ _ _
theorem D_tri (a b c : ByteArray) : D a b ≤ D a c + D c b := by
  have h := dk_tri a b c (mx a b + mx a c + mx c b)
  rw [dk_stop a b (by omega), dk_stop a c (by omega), dk_stop c b (by omega)] at h
  exact h
theorem D_zero (a b : ByteArray) : D a b = 0 ↔ a = b := by
  unfold D
  rw [dk_zero]
  constructor
  · intro h
    have hs : a.size = b.size := by
      by_cases h1 : a.size < b.size
      · have := h a.size (by unfold mx; omega)
        rw [sy_ge (Nat.le_refl _), sy_lt h1] at this
        omega
      · by_cases h2 : b.size < a.size
        · have := h b.size (by unfold mx; omega)
          rw [sy_ge (s := b) (Nat.le_refl _), sy_lt h2] at this
          omega
        · omega
    apply ByteArray.ext_getElem hs
    intro i h1 h2
    have := h i (by unfold mx; omega)
    rw [sy_lt h1, sy_lt h2] at this
    exact UInt8.toNat_inj.1 (by omega)
  · rintro rfl j _
    rfl
theorem pl_succ (a b : ByteArray) (k : Nat) : pl a b (k + 1) = if df a b k = 0 then pl a b k else pl a b k ++ [k] := rfl
theorem pl_length (a b : ByteArray) (k : Nat) : (pl a b k).length ≤ k := by
  induction k with
  | zero => simp [pl]
  | succ k ih =>
    rw [pl_succ]
    split
    · omega
    · rw [List.length_append, List.length_singleton]; omega
theorem pl_lt (a b : ByteArray) (k : Nat) : ∀ j ∈ pl a b k, j < k := by
  induction k with
  | zero => simp [pl]
  | succ k ih =>
    rw [pl_succ]
    intro j hj
    split at hj
    · have := ih j hj; omega
    · rcases List.mem_append.1 hj with h | h
      · have := ih j h; omega
      · have := List.mem_singleton.1 h; omega
end Go.Proofs.Ytdfakjpchgomdaa.ham
