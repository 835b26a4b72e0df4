/-
  Mathematics: how many edits make one list of bytes of another one; that it is a metric; what bounds it.
-/
import Derived.Test.YtdfakjpchgomdaaRows
namespace Go.Proofs.Ytdfakjpchgomdaa.lev
/-- 0 where two bytes are the same, else 1 -/
def ne (x y : UInt8) : Nat := if x = y then 0 else 1
def Lr (x : UInt8) (f : List UInt8 → Nat) : List UInt8 → Nat
  | [] => f [] + 1
  | y :: b => min (f b + ne x y) (min (f (y :: b) + 1) (Lr x f b + 1))
/-- how many edits at least make b of a -/
def L : List UInt8 → List UInt8 → Nat
  | [] => List.length
  | x :: a => Lr x (L a)

theorem L_nil (b : List UInt8) : L [] b = b.length := rfl
theorem L_cons_nil (x : UInt8) (a : List UInt8) : L (x :: a) [] = L a [] + 1 := rfl
theorem L_cons (x y : UInt8) (a b : List UInt8) : L (x :: a) (y :: b) = min (L a b + ne x y) (min (L a (y :: b) + 1) (L (x :: a) b + 1)) := rfl
theorem L_nil' (a : List UInt8) : L a [] = a.length := by
  induction a with
  | nil => rfl
  | cons x a ih => rw [L_cons_nil, ih, List.length_cons]
theorem ne_le (x y : UInt8) : ne x y ≤ 1 := by unfold ne; split <;> omega
theorem ne_same (x : UInt8) : ne x x = 0 := if_pos rfl
theorem ne_symm (x y : UInt8) : ne x y = ne y x := by
  unfold ne
  by_cases h : x = y
  · rw [if_pos h, if_pos h.symm]
  · rw [if_neg h, if_neg (fun e => h e.symm)]
theorem ne_tri (x y z : UInt8) : ne x z ≤ ne x y + ne y z := by
  unfold ne
  split
  · omega
  · rename_i h
    split
    · rename_i e; subst e; rw [if_neg h]; omega
    · omega

/-- a way of n edits -/
inductive Way : List UInt8 → List UInt8 → Nat → Prop
  | nil : Way [] [] 0
  | sub {x y : UInt8} {a b : List UInt8} {n : Nat} : Way a b n → Way (x :: a) (y :: b) (n + ne x y)
  | del {x : UInt8} {a b : List UInt8} {n : Nat} : Way a b n → Way (x :: a) b (n + 1)
  | ins {y : UInt8} {a b : List UInt8} {n : Nat} : Way a b n → Way a (y :: b) (n + 1)

theorem way_ins : ∀ b : List UInt8, Way [] b b.length
  | [] => .nil
  | _ :: b => .ins (way_ins b)
theorem way_L : ∀ a b : List UInt8, Way a b (L a b)
  | [], b => way_ins b
  | x :: a, [] => .del (way_L a [])
  | x :: a, y :: b => by
    rw [L_cons]
    by_cases h1 : L a b + ne x y ≤ min (L a (y :: b) + 1) (L (x :: a) b + 1)
    · rw [Nat.min_eq_left h1]; exact .sub (way_L a b)
    · rw [Nat.min_eq_right (by omega)]
      by_cases h2 : L a (y :: b) + 1 ≤ L (x :: a) b + 1
      · rw [Nat.min_eq_left h2]; exact .del (way_L a (y :: b))
      · rw [Nat.min_eq_right (by omega)]; exact .ins (way_L (x :: a) b)
theorem L_del (x : UInt8) (a b : List UInt8) : L (x :: a) b ≤ L a b + 1 := by
  cases b with
  | nil => rw [L_cons_nil]; exact Nat.le_refl _
  | cons y b => rw [L_cons]; omega
theorem L_ins (y : UInt8) (a b : List UInt8) : L a (y :: b) ≤ L a b + 1 := by
  cases a with
  | nil => simp [L_nil]
  | cons x a => rw [L_cons]; omega
theorem L_sub (x y : UInt8) (a b : List UInt8) : L (x :: a) (y :: b) ≤ L a b + ne x y := by rw [L_cons]; omega
theorem L_way {a b : List UInt8} {n : Nat} (h : Way a b n) : L a b ≤ n := by
  induction h with
  | nil => exact Nat.le_refl _
  | sub _ ih => exact Nat.le_trans (L_sub _ _ _ _) (by omega)
  | del _ ih => exact Nat.le_trans (L_del _ _ _) (by omega)
  | ins _ ih => exact Nat.le_trans (L_ins _ _ _) (by omega)
theorem Way.symm {a b : List UInt8} {n : Nat} (h : Way a b n) : Way b a n := by
  induction h with
  | nil => exact .nil
  | sub _ ih => rw [ne_symm]; exact .sub ih
  | del _ ih => exact .ins ih
  | ins _ ih => exact .del ih
theorem L_symm (a b : List UInt8) : L a b = L b a := Nat.le_antisymm (L_way (way_L b a).symm) (L_way (way_L a b).symm)
theorem way_tri : ∀ (k : Nat) {a c b : List UInt8} {m n : Nat}, a.length + c.length + b.length ≤ k → Way a c m → Way c b n → ∃ d, d ≤ m + n ∧ Way a b d := by
  intro k
  induction k with
  | zero =>
    intro a c b m n hk h1 h2
    obtain rfl : a = [] := List.eq_nil_of_length_eq_zero (by omega)
    obtain rfl : b = [] := List.eq_nil_of_length_eq_zero (by omega)
    exact ⟨0, by omega, .nil⟩
  | succ k ih =>
    intro a c b m n hk h1 h2
    cases h1 with
    | nil => exact ⟨n, by omega, h2⟩
    | del h =>
      obtain ⟨d, hd, hw⟩ := ih (by simp only [List.length_cons] at hk; omega) h h2
      exact ⟨d + 1, by omega, .del hw⟩
    | sub h =>
      cases h2 with
      | sub h' =>
        obtain ⟨d, hd, hw⟩ := ih (by simp only [List.length_cons] at hk; omega) h h'
        refine ⟨_, ?_, .sub hw⟩
        have := ne_tri ‹UInt8› ‹UInt8› ‹UInt8›
        rename_i x y a1 c1 m1 z b1 n1
        have := ne_tri x y z
        omega
      | del h' =>
        obtain ⟨d, hd, hw⟩ := ih (by simp only [List.length_cons] at hk; omega) h h'
        exact ⟨d + 1, by omega, .del hw⟩
      | ins h' =>
        obtain ⟨d, hd, hw⟩ := ih (by simp only [List.length_cons] at hk ⊢; omega) (.sub h) h'
        exact ⟨d + 1, by omega, .ins hw⟩
    | ins h =>
      cases h2 with
      | sub h' =>
        obtain ⟨d, hd, hw⟩ := ih (by simp only [List.length_cons] at hk; omega) h h'
        exact ⟨d + 1, by omega, .ins hw⟩
      | del h' =>
        obtain ⟨d, hd, hw⟩ := ih (by simp only [List.length_cons] at hk; omega) h h'
        exact ⟨d, by omega, hw⟩
      | ins h' =>
        obtain ⟨d, hd, hw⟩ := ih (by simp only [List.length_cons] at hk ⊢; omega) (.ins h) h'
        exact ⟨d + 1, by omega, .ins hw⟩
theorem L_tri (a b c : List UInt8) : L a b ≤ L a c + L c b := by
  obtain ⟨d, hd, hw⟩ := way_tri _ (Nat.le_refl _) (way_L a c) (way_L c b)
  exact Nat.le_trans (L_way hw) hd
theorem L_refl (a : List UInt8) : L a a = 0 := by
  induction a with
  | nil => rfl
  | cons x a ih => have := L_sub x x a a; rw [ne_same] at this; omega
theorem way_zero {a b : List UInt8} {n : Nat} (h : Way a b n) : n = 0 → a = b := by
  induction h with
  | nil => intro _; rfl
  | @sub x y a b n _ ih =>
    intro h
    have hxy : x = y := by
      by_cases e : x = y
      · exact e
      · unfold ne at h; rw [if_neg e] at h; omega
    rw [ih (by omega), hxy]
  | del _ ih => intro h; omega
  | ins _ ih => intro h; omega
theorem L_zero (a b : List UInt8) : L a b = 0 ↔ a = b := ⟨fun h => way_zero (way_L a b) h, fun h => by rw [h, L_refl]⟩
theorem L_max (a b : List UInt8) : L a b ≤ max a.length b.length := by
  induction a generalizing b with
  | nil => rw [L_nil]; omega
  | cons x a ih =>
    cases b with
    | nil => rw [L_nil']; omega
    | cons y b => have h1 := L_sub x y a b; have h2 := ne_le x y; have h3 := ih b; simp only [List.length_cons]; omega
theorem way_len {a b : List UInt8} {n : Nat} (h : Way a b n) : a.length ≤ b.length + n ∧ b.length ≤ a.length + n := by
  induction h with
  | nil => exact ⟨Nat.le_refl _, Nat.le_refl _⟩
  | sub _ ih => simp only [List.length_cons]; omega
  | del _ ih => simp only [List.length_cons]; omega
  | ins _ ih => simp only [List.length_cons]; omega
/-! at the ends -/
theorem way_snoc_ins {a b : List UInt8} {n : Nat} (h : Way a b n) (y : UInt8) : Way a (b ++ [y]) (n + 1) := by
  induction h with
  | nil => exact .ins .nil
  | @sub x z a b n _ ih => rw [List.cons_append]; have := Way.sub (x := x) (y := z) ih; rwa [Nat.add_right_comm] at this
  | del _ ih => exact .del ih
  | ins _ ih => exact .ins ih
theorem way_snoc_del {a b : List UInt8} {n : Nat} (h : Way a b n) (x : UInt8) : Way (a ++ [x]) b (n + 1) := (way_snoc_ins h.symm x).symm
theorem way_snoc_sub {a b : List UInt8} {n : Nat} (h : Way a b n) (x y : UInt8) : Way (a ++ [x]) (b ++ [y]) (n + ne x y) := by
  induction h with
  | nil => exact Way.sub .nil
  | @sub u v a b n _ ih => rw [List.cons_append, List.cons_append, Nat.add_right_comm]; exact .sub ih
  | @del u a b n _ ih => rw [List.cons_append, Nat.add_right_comm]; exact .del ih
  | @ins u a b n _ ih => rw [List.cons_append, Nat.add_right_comm]; exact .ins ih
theorem way_reverse {a b : List UInt8} {n : Nat} (h : Way a b n) : Way a.reverse b.reverse n := by
  induction h with
  | nil => exact .nil
  | sub _ ih => rw [List.reverse_cons, List.reverse_cons]; exact way_snoc_sub ih _ _
  | del _ ih => rw [List.reverse_cons]; exact way_snoc_del ih _
  | ins _ ih => rw [List.reverse_cons]; exact way_snoc_ins ih _
theorem L_reverse (a b : List UInt8) : L a.reverse b.reverse = L a b := by
  refine Nat.le_antisymm (L_way (way_reverse (way_L a b))) ?_
  have := L_way (way_reverse (way_L a.reverse b.reverse))
  rwa [List.reverse_reverse, List.reverse_reverse] at this

/-! neighbours -/
theorem L_del' (x : UInt8) (a b : List UInt8) : L a b ≤ L (x :: a) b + 1 := by
  have h := L_tri a b (x :: a)
  have h1 : L a (x :: a) ≤ 1 := by have := L_ins x a a; rw [L_refl] at this; exact this
  omega
theorem L_ins' (y : UInt8) (a b : List UInt8) : L a b ≤ L a (y :: b) + 1 := by
  rw [L_symm a b, L_symm a (y :: b)]; exact L_del' y b a
theorem L_diag (x y : UInt8) (a b : List UInt8) : L a b ≤ L (x :: a) (y :: b) := by
  have h1 := L_ins' y a b
  have h2 := L_del' x a b
  rw [L_cons]; omega
theorem L_same (x : UInt8) (a b : List UInt8) : L (x :: a) (x :: b) = L a b := by
  have h1 := L_diag x x a b
  have h2 := L_sub x x a b
  rw [ne_same] at h2; omega
theorem L_pre (p a b : List UInt8) : L (p ++ a) (p ++ b) = L a b := by
  induction p with
  | nil => rfl
  | cons x p ih => rw [List.cons_append, List.cons_append, L_same, ih]
theorem L_suf (p a b : List UInt8) : L (a ++ p) (b ++ p) = L a b := by
  rw [← L_reverse, List.reverse_append, List.reverse_append, L_pre, L_reverse]

/-! ### counted bytes -/
def ct (c : Nat) : List UInt8 → Nat
  | [] => 0
  | x :: l => ct c l + if x.toNat = c then 1 else 0
def S (f : Nat → Nat) : Nat → Nat
  | 0 => 0
  | k + 1 => S f k + f k
theorem S_congr {f g : Nat → Nat} {k : Nat} (h : ∀ j, j < k → f j = g j) : S f k = S g k := by
  induction k with
  | zero => rfl
  | succ k ih => rw [S, S, ih (fun j hj => h j (by omega)), h k (by omega)]
theorem S_add (f g : Nat → Nat) (k : Nat) : S (fun c => f c + g c) k = S f k + S g k := by
  induction k with
  | zero => rfl
  | succ k ih => rw [S, S, S, ih]; omega
theorem S_le {f g : Nat → Nat} {k : Nat} (h : ∀ j, j < k → f j ≤ g j) : S f k ≤ S g k := by
  induction k with
  | zero => exact Nat.le_refl _
  | succ k ih => have h1 := ih (fun j hj => h j (by omega)); have h2 := h k (by omega); rw [S, S]; omega
theorem S_one (n k : Nat) : S (fun c => if n = c then 1 else 0) k = if n < k then 1 else 0 := by
  induction k with
  | zero => simp [S]
  | succ k ih =>
    rw [S, ih]
    by_cases h1 : n = k
    · subst h1; simp
    · by_cases h2 : n < k
      · rw [if_pos h2, if_neg h1, if_pos (by omega)]
      · rw [if_neg h2, if_neg h1, if_neg (by omega)]
theorem S_zero {f : Nat → Nat} {k : Nat} (h : ∀ j, j < k → f j = 0) : S f k = 0 := by
  induction k with
  | zero => rfl
  | succ k ih => rw [S, ih (fun j hj => h j (by omega)), h k (by omega)]
theorem ct_append (c : Nat) (a b : List UInt8) : ct c (a ++ b) = ct c a + ct c b := by
  induction a with
  | nil => simp [ct]
  | cons x a ih => rw [List.cons_append, ct, ct, ih]; omega
theorem ct_snoc (c : Nat) (a : List UInt8) (y : UInt8) : ct c (a ++ [y]) = ct c a + if y.toNat = c then 1 else 0 := by rw [ct_append, ct, ct]; omega
theorem S_ct (a : List UInt8) : S (fun c => ct c a) 256 = a.length := by
  induction a with
  | nil => exact S_zero fun _ _ => rfl
  | cons x a ih =>
    have := x.toNat_lt
    have h : S (fun c => ct c (x :: a)) 256 = S (fun c => ct c a + if x.toNat = c then 1 else 0) 256 := S_congr fun _ _ => rfl
    rw [h, S_add, ih, S_one, if_pos (by omega), List.length_cons]
def more (a b : List UInt8) : Nat := S (fun c => ct c a - ct c b) 256
def both (a b : List UInt8) : Nat := S (fun c => min (ct c a) (ct c b)) 256
theorem more_both (a b : List UInt8) : more a b + both a b = a.length := by
  rw [← S_ct, more, both, ← S_add]
  exact S_congr fun c _ => by omega
theorem both_symm (a b : List UInt8) : both a b = both b a := S_congr fun _ _ => Nat.min_comm _ _
theorem both_snoc (a b : List UInt8) (y : UInt8) : both a (b ++ [y]) = both a b + if ct y.toNat b < ct y.toNat a then 1 else 0 := by
  have := y.toNat_lt
  unfold both
  have h : S (fun c => min (ct c a) (ct c b) + if y.toNat = c then (if ct y.toNat b < ct y.toNat a then 1 else 0) else 0) 256 = S (fun c => min (ct c a) (ct c (b ++ [y]))) 256 := by
    refine S_congr fun c _ => ?_
    simp only [ct_snoc]
    by_cases h : y.toNat = c
    · subst h
      rw [if_pos rfl, if_pos rfl]
      split <;> omega
    · rw [if_neg h, if_neg h]; omega
  have h2 : S (fun c => if y.toNat = c then (if ct y.toNat b < ct y.toNat a then 1 else 0) else 0) 256 = if ct y.toNat b < ct y.toNat a then 1 else 0 := by
    by_cases hc : ct y.toNat b < ct y.toNat a
    · simp only [if_pos hc]; rw [S_one, if_pos (by omega)]
    · simp only [if_neg hc]
      exact S_zero fun c _ => by split <;> rfl
  rw [← h, S_add, h2]
/-- how many edits there are in any case -/
def least (a b : List UInt8) : Nat := max a.length b.length - both a b
theorem both_le (a b : List UInt8) : both a b ≤ min a.length b.length := by
  have h1 := more_both a b
  have h2 := more_both b a
  rw [both_symm] at h2
  omega
theorem least_more (a b : List UInt8) : least a b = max (max (more a b) (more b a)) (max (a.length - b.length) (b.length - a.length)) := by
  have h1 := more_both a b
  have h2 := more_both b a
  rw [both_symm] at h2
  unfold least
  omega
theorem more_way {a b : List UInt8} {n : Nat} (h : Way a b n) : more a b ≤ n ∧ more b a ≤ n := by
  have up (x : UInt8) (a b : List UInt8) : more (x :: a) b ≤ more a b + 1 := by
    have hx := x.toNat_lt
    have h1 : more (x :: a) b ≤ S (fun c => (ct c a - ct c b) + if x.toNat = c then 1 else 0) 256 := S_le fun c _ => by rw [ct]; omega
    rw [S_add, S_one, if_pos (by omega)] at h1
    exact h1
  have dn (x : UInt8) (a b : List UInt8) : more a (x :: b) ≤ more a b := S_le fun c _ => by rw [ct]; omega
  have sm (x : UInt8) (a b : List UInt8) : more (x :: a) (x :: b) = more a b := S_congr fun c _ => by rw [ct, ct]; omega
  induction h with
  | nil => exact ⟨Nat.le_of_eq (S_zero fun _ _ => rfl), Nat.le_of_eq (S_zero fun _ _ => rfl)⟩
  | @sub x y a b n _ ih =>
    by_cases e : x = y
    · subst e; rw [sm, sm, ne_same]; exact ih
    · have h1 := up x a b; have h2 := dn y (x :: a) b; have h3 := up y b a; have h4 := dn x (y :: b) a
      unfold ne; rw [if_neg e]; omega
  | @del x a b n _ ih => have h1 := up x a b; have h2 := dn x b a; omega
  | @ins y a b n _ ih => have h1 := dn y a b; have h2 := up y b a; omega
theorem least_le (a b : List UInt8) : least a b ≤ L a b := by
  have h := more_way (way_L a b)
  have h2 := way_len (way_L a b)
  rw [least_more]; omega
end Go.Proofs.Ytdfakjpchgomdaa.lev
