/-
  Mathematics: the columns of a part, told by the distances of what is left of two texts.
-/
import Derived.Test.YtdfakjpchgomdaaLevM
import Derived.Test.YtdfakjpchgomdaaLevB
namespace Go.Proofs.Ytdfakjpchgomdaa.lev

/-- the table at b's place j, and at the k-th row from below of a part tx, below which a' is left -/
def V (tx a' b : List UInt8) (j k : Nat) : Nat := L (tx.drop (tx.length - k) ++ a') (b.drop j)
/-- how much more there is at a place of b than at the next one -/
def dl (l b : List UInt8) (j : Nat) : Int := (L l (b.drop j) : Int) - L l (b.drop (j + 1))
structure Col (tx a' b : List UInt8) (j : Nat) (m l : BitVec 64) : Prop where
  more : ∀ k, k < tx.length → m.getLsbD k = decide (V tx a' b j (k + 1) = V tx a' b j k + 1)
  less : ∀ k, k < tx.length → l.getLsbD k = decide (V tx a' b j (k + 1) + 1 = V tx a' b j k)
def Same (tx a' b : List UInt8) (j : Nat) (s : BitVec 64) : Prop := ∀ k, k < tx.length → s.getLsbD k = decide (V tx a' b j (k + 1) = V tx a' b (j + 1) k)
section
variable {tx a' b : List UInt8} {j : Nat}
theorem V_zero : V tx a' b j 0 = L a' (b.drop j) := by unfold V; rw [Nat.sub_zero, List.drop_length, List.nil_append]
theorem V_top : V tx a' b j tx.length = L (tx ++ a') (b.drop j) := by unfold V; rw [Nat.sub_self, List.drop_zero]
theorem V_succ {k : Nat} (hk : k < tx.length) : V tx a' b j (k + 1) = L (tx[tx.length - 1 - k] :: (tx.drop (tx.length - k) ++ a')) (b.drop j) := by
  unfold V
  rw [show tx.length - (k + 1) = tx.length - 1 - k from by omega, List.drop_eq_getElem_cons (by omega), List.cons_append, show tx.length - 1 - k + 1 = tx.length - k from by omega]
def eqs (tx : List UInt8) (c : Nat) (k : Nat) : Bool := decide (tx[tx.length - 1 - k]?.map (·.toNat) = some c)
theorem eqs_ne {c : UInt8} {k : Nat} (hk : k < tx.length) : (if eqs tx c.toNat k then 0 else 1) = ne tx[tx.length - 1 - k] c := by
  unfold eqs ne
  rw [List.getElem?_eq_getElem (by omega), Option.map_some]
  by_cases h : tx[tx.length - 1 - k] = c
  · rw [if_pos h, if_pos (by rw [h]; simp)]
  · rw [if_neg h, if_neg (fun e => h (UInt8.toNat_inj.1 (by simpa using e)))]
theorem V_ste (hj : j < b.length) : Ste tx.length (V tx a' b (j + 1)) (V tx a' b j) (eqs tx b[j].toNat) where
  up k hk := by
    rw [V_succ hk]
    exact ⟨L_del _ _ _, L_del' _ _ _⟩
  rc k hk := by
    rw [V_succ hk, V_succ hk, eqs_ne hk, List.drop_eq_getElem_cons hj, L_cons]
    unfold V
    rw [List.drop_eq_getElem_cons hj]
    exact congrArg _ (Nat.min_comm _ _)
  lo := by
    rw [V_zero, V_zero, List.drop_eq_getElem_cons hj]
    exact ⟨L_ins _ _ _, L_ins' _ _ _⟩
/-- at b's end all that is left goes -/
theorem Col.start (h64 : tx.length ≤ 64) : Col tx a' b b.length (BitVec.allOnes 64) 0#64 where
  more k hk := by
    rw [V_succ hk]; unfold V
    rw [List.drop_length, L_cons_nil, BitVec.getLsbD_allOnes, decide_eq_true (show k < 64 by omega)]; simp
  less k hk := by
    rw [V_succ hk]; unfold V
    rw [List.drop_length, L_cons_nil, BitVec.getLsbD_zero]; simp; omega
def blOf (a' b : List UInt8) (j : Nat) : Bool := decide (L a' (b.drop j) + 1 = L a' (b.drop (j + 1)))
def bmOf (a' b : List UInt8) (j : Nat) : Bool := decide (L a' (b.drop j) = L a' (b.drop (j + 1)) + 1)
theorem blm (a' b : List UInt8) (j : Nat) : (blOf a' b j && bmOf a' b j) = false := by
  unfold blOf bmOf
  rw [← Bool.decide_and, decide_eq_false_iff_not]; omega
theorem dl_below (a' b : List UInt8) (j : Nat) (hj : j < b.length) : dl a' b j = if bmOf a' b j then 1 else if blOf a' b j then -1 else 0 := by
  have h1 : L a' (b.drop j) ≤ L a' (b.drop (j + 1)) + 1 ∧ L a' (b.drop (j + 1)) ≤ L a' (b.drop j) + 1 := by
    rw [List.drop_eq_getElem_cons hj]; exact ⟨L_ins _ _ _, L_ins' _ _ _⟩
  unfold dl blOf bmOf
  simp only [decide_eq_true_eq]
  split
  · omega
  · split <;> omega
variable {eq m l : BitVec 64}
theorem Col.step (hc : Col tx a' b (j + 1) m l) (h64 : tx.length ≤ 64) (hj : j < b.length) (he : ∀ k, k < tx.length → eq.getLsbD k = eqs tx b[j].toNat k) :
    Col tx a' b j (nM eq m l (blOf a' b j) (bmOf a' b j)) (nL eq m l (blOf a' b j) (bmOf a' b j)) ∧ Same tx a' b j (sS eq m l (blOf a' b j)) := by
  have h1 : blOf a' b j = decide (V tx a' b j 0 + 1 = V tx a' b (j + 1) 0) := by rw [V_zero, V_zero]; rfl
  have h2 : bmOf a' b j = decide (V tx a' b j 0 = V tx a' b (j + 1) 0 + 1) := by rw [V_zero, V_zero]; rfl
  have hn := new_bits (V_ste hj) h64 he hc.more hc.less h1 h2
  exact ⟨⟨fun k hk => (hn k hk).1, fun k hk => (hn k hk).2⟩, same_bits (V_ste hj) h64 he hc.more hc.less h1⟩
theorem Col.above (hc : Col tx a' b (j + 1) m l) (h0 : 0 < tx.length) (h64 : tx.length ≤ 64) (hj : j < b.length) (he : ∀ k, k < tx.length → eq.getLsbD k = eqs tx b[j].toNat k) :
    ((if (sR eq m l (blOf a' b j)).getLsbD (tx.length - 1) then 1 else 0) - (if (sL eq m l (blOf a' b j)).getLsbD (tx.length - 1) then 1 else 0) : Int) = dl (tx ++ a') b j := by
  have h1 : blOf a' b j = decide (V tx a' b j 0 + 1 = V tx a' b (j + 1) 0) := by rw [V_zero, V_zero]; rfl
  obtain ⟨h3, h4⟩ := right_bits (V_ste hj) h64 he hc.more hc.less h1 (tx.length - 1) (by omega)
  have h5 := (V_ste (a' := a') hj (tx := tx)).ge tx.length (Nat.le_refl _)
  rw [show tx.length - 1 + 1 = tx.length from by omega, V_top, V_top] at h3 h4
  rw [V_top, V_top] at h5
  rw [h3, h4]
  unfold dl
  simp only [decide_eq_true_eq]
  split <;> split <;> omega
end
/-- what all that is told of a row comes to -/
def sm (f : Nat → Int) : Nat → Int
  | 0 => 0
  | k + 1 => sm f k + f k
theorem sm_dl (l b : List UInt8) (k : Nat) : sm (dl l b) k = (L l b : Int) - L l (b.drop k) := by
  induction k with
  | zero => simp [sm]
  | succ k ih => rw [sm, ih]; unfold dl; omega
theorem sm_all (l b : List UInt8) : (l.length : Int) + sm (dl l b) b.length = L l b := by
  rw [sm_dl, List.drop_length, L_nil']; omega
theorem dl_nil (b : List UInt8) (j : Nat) (hj : j < b.length) : dl [] b j = 1 := by
  unfold dl; rw [L_nil, L_nil, List.length_drop, List.length_drop]; omega
theorem dl_bd (l b : List UInt8) (j : Nat) : -1 ≤ dl l b j ∧ dl l b j ≤ 1 := by
  by_cases hj : j < b.length
  · rw [dl_below l b j hj]; split
    · omega
    · split <;> omega
  · unfold dl
    rw [List.drop_eq_nil_of_le (by omega), List.drop_eq_nil_of_le (by omega)]; omega
end Go.Proofs.Ytdfakjpchgomdaa.lev
