/-
  Several texts in one.
-/
import Derived.Test.YtaamlidflfdjkaaRows
import Derived.Test.YtaamlidflfdjkaaGLib
import Derived.Test.YtaamlidflfdjkaaChecked
import Derived.Lib.Hide
import Derived.Deep.QuietTactic
import Derived.Outline
import Derived.BigQuiet
import Derived.WalkSpells
import Derived.Laws.BitsAllLaws
import Derived.Laws.DeepNot64
import Derived.Laws.Shifts
import Derived.Lib.Strings
import Derived.Deep.WholeRow
import Derived.BigRegion
import Derived.Deep.RegionWith
import Derived.Test.YtaamlidflfdjkaaShelf
import Derived.Laws.MakeOwn
import Derived.Laws.CopyOwn
import Derived.Lib.MinMax
set_option maxRecDepth 100000
/-
  Mathematics: how many edits make one list of bytes of another one; that it is a metric; what bounds it.
-/
namespace Go.Proofs.Ytaamlidflfdjkaa.lev
/-- 0 where two bytes are the same, else 1 -/
def ne (x y : UInt8) : Nat := if x = y then 0 else 1
def Lr (x : UInt8) (f : List UInt8 → Nat) : List UInt8 → Nat
  | [] => f [] + 1
  | y :: b => min (f b + ne x y) (min (f (y :: b) + 1) (Lr x f b + 1))
/-- how many edits at least make b of a -/
def L : List UInt8 → List UInt8 → Nat
  | [] => List.length
  | x :: a => Lr x (L a)

theorem L_nil (b : List UInt8) : L [] b = b.length := rfl
theorem L_cons_nil (x : UInt8) (a : List UInt8) : L (x :: a) [] = L a [] + 1 := rfl
theorem L_cons (x y : UInt8) (a b : List UInt8) : L (x :: a) (y :: b) = min (L a b + ne x y) (min (L a (y :: b) + 1) (L (x :: a) b + 1)) := rfl
theorem L_nil' (a : List UInt8) : L a [] = a.length := by
  induction a with
  | nil => rfl
  | cons x a ih => rw [L_cons_nil, ih, List.length_cons]
theorem ne_le (x y : UInt8) : ne x y ≤ 1 := by unfold ne; split <;> omega
theorem ne_same (x : UInt8) : ne x x = 0 := if_pos rfl
theorem ne_symm (x y : UInt8) : ne x y = ne y x := by
  unfold ne
  by_cases h : x = y
  · rw [if_pos h, if_pos h.symm]
  · rw [if_neg h, if_neg (fun e => h e.symm)]
theorem ne_tri (x y z : UInt8) : ne x z ≤ ne x y + ne y z := by
  unfold ne
  split
  · omega
  · rename_i h
    split
    · rename_i e; subst e; rw [if_neg h]; omega
    · omega

/-- a way of n edits -/
inductive Way : List UInt8 → List UInt8 → Nat → Prop
  | nil : Way [] [] 0
  | sub {x y : UInt8} {a b : List UInt8} {n : Nat} : Way a b n → Way (x :: a) (y :: b) (n + ne x y)
  | del {x : UInt8} {a b : List UInt8} {n : Nat} : Way a b n → Way (x :: a) b (n + 1)
  | ins {y : UInt8} {a b : List UInt8} {n : Nat} : Way a b n → Way a (y :: b) (n + 1)

theorem way_ins : ∀ b : List UInt8, Way [] b b.length
  | [] => .nil
  | _ :: b => .ins (way_ins b)
theorem way_L : ∀ a b : List UInt8, Way a b (L a b)
  | [], b => way_ins b
  | x :: a, [] => .del (way_L a [])
  | x :: a, y :: b => by
    rw [L_cons]
    by_cases h1 : L a b + ne x y ≤ min (L a (y :: b) + 1) (L (x :: a) b + 1)
    · rw [Nat.min_eq_left h1]; exact .sub (way_L a b)
    · rw [Nat.min_eq_right (by omega)]
      by_cases h2 : L a (y :: b) + 1 ≤ L (x :: a) b + 1
      · rw [Nat.min_eq_left h2]; exact .del (way_L a (y :: b))
      · rw [Nat.min_eq_right (by omega)]; exact .ins (way_L (x :: a) b)
theorem L_del (x : UInt8) (a b : List UInt8) : L (x :: a) b ≤ L a b + 1 := by
  cases b with
  | nil => rw [L_cons_nil]; exact Nat.le_refl _
  | cons y b => rw [L_cons]; omega
theorem L_ins (y : UInt8) (a b : List UInt8) : L a (y :: b) ≤ L a b + 1 := by
  cases a with
  | nil => simp [L_nil]
  | cons x a => rw [L_cons]; omega
theorem L_sub (x y : UInt8) (a b : List UInt8) : L (x :: a) (y :: b) ≤ L a b + ne x y := by rw [L_cons]; omega
theorem L_way {a b : List UInt8} {n : Nat} (h : Way a b n) : L a b ≤ n := by
  induction h with
  | nil => exact Nat.le_refl _
  | sub _ ih => exact Nat.le_trans (L_sub _ _ _ _) (by omega)
  | del _ ih => exact Nat.le_trans (L_del _ _ _) (by omega)
  | ins _ ih => exact Nat.le_trans (L_ins _ _ _) (by omega)
theorem Way.symm {a b : List UInt8} {n : Nat} (h : Way a b n) : Way b a n := by
  induction h with
  | nil => exact .nil
  | sub _ ih => rw [ne_symm]; exact .sub ih
  | del _ ih => exact .ins ih
  | ins _ ih => exact .del ih
theorem L_symm (a b : List UInt8) : L a b = L b a := Nat.le_antisymm (L_way (way_L b a).symm) (L_way (way_L a b).symm)
theorem way_tri : ∀ (k : Nat) {a c b : List UInt8} {m n : Nat}, a.length + c.length + b.length ≤ k → Way a c m → Way c b n → ∃ d, d ≤ m + n ∧ Way a b d := by
  intro k
  induction k with
  | zero =>
    intro a c b m n hk h1 h2
    obtain rfl : a = [] := List.eq_nil_of_length_eq_zero (by omega)
    obtain rfl : b = [] := List.eq_nil_of_length_eq_zero (by omega)
    exact ⟨0, by omega, .nil⟩
  | succ k ih =>
    intro a c b m n hk h1 h2
    cases h1 with
    | nil => exact ⟨n, by omega, h2⟩
    | del h =>
      obtain ⟨d, hd, hw⟩ := ih (by simp only [List.length_cons] at hk; omega) h h2
      exact ⟨d + 1, by omega, .del hw⟩
    | sub h =>
      cases h2 with
      | sub h' =>
        obtain ⟨d, hd, hw⟩ := ih (by simp only [List.length_cons] at hk; omega) h h'
        refine ⟨_, ?_, .sub hw⟩
        have := ne_tri ‹UInt8› ‹UInt8› ‹UInt8›
        rename_i x y a1 c1 m1 z b1 n1
        have := ne_tri x y z
        omega
      | del h' =>
        obtain ⟨d, hd, hw⟩ := ih (by simp only [List.length_cons] at hk; omega) h h'
        exact ⟨d + 1, by omega, .del hw⟩
      | ins h' =>
        obtain ⟨d, hd, hw⟩ := ih (by simp only [List.length_cons] at hk ⊢; omega) (.sub h) h'
        exact ⟨d + 1, by omega, .ins hw⟩
    | ins h =>
      cases h2 with
      | sub h' =>
        obtain ⟨d, hd, hw⟩ := ih (by simp only [List.length_cons] at hk; omega) h h'
        exact ⟨d + 1, by omega, .ins hw⟩
      | del h' =>
        obtain ⟨d, hd, hw⟩ := ih (by simp only [List.length_cons] at hk; omega) h h'
        exact ⟨d, by omega, hw⟩
      | ins h' =>
        obtain ⟨d, hd, hw⟩ := ih (by simp only [List.length_cons] at hk ⊢; omega) (.ins h) h'
        exact ⟨d + 1, by omega, .ins hw⟩
theorem L_tri (a b c : List UInt8) : L a b ≤ L a c + L c b := by
  obtain ⟨d, hd, hw⟩ := way_tri _ (Nat.le_refl _) (way_L a c) (way_L c b)
  exact Nat.le_trans (L_way hw) hd
theorem L_refl (a : List UInt8) : L a a = 0 := by
  induction a with
  | nil => rfl
  | cons x a ih => have := L_sub x x a a; rw [ne_same] at this; omega
theorem way_zero {a b : List UInt8} {n : Nat} (h : Way a b n) : n = 0 → a = b := by
  induction h with
  | nil => intro _; rfl
  | @sub x y a b n _ ih =>
    intro h
    have hxy : x = y := by
      by_cases e : x = y
      · exact e
      · unfold ne at h; rw [if_neg e] at h; omega
    rw [ih (by omega), hxy]
  | del _ ih => intro h; omega
  | ins _ ih => intro h; omega
theorem L_zero (a b : List UInt8) : L a b = 0 ↔ a = b := ⟨fun h => way_zero (way_L a b) h, fun h => by rw [h, L_refl]⟩
theorem L_max (a b : List UInt8) : L a b ≤ max a.length b.length := by
  induction a generalizing b with
  | nil => rw [L_nil]; omega
  | cons x a ih =>
    cases b with
    | nil => rw [L_nil']; omega
    | cons y b => have h1 := L_sub x y a b; have h2 := ne_le x y; have h3 := ih b; simp only [List.length_cons]; omega
theorem way_len {a b : List UInt8} {n : Nat} (h : Way a b n) : a.length ≤ b.length + n ∧ b.length ≤ a.length + n := by
  induction h with
  | nil => exact ⟨Nat.le_refl _, Nat.le_refl _⟩
  | sub _ ih => simp only [List.length_cons]; omega
  | del _ ih => simp only [List.length_cons]; omega
  | ins _ ih => simp only [List.length_cons]; omega
/-! at the ends -/
theorem way_snoc_ins {a b : List UInt8} {n : Nat} (h : Way a b n) (y : UInt8) : Way a (b ++ [y]) (n + 1) := by
  induction h with
  | nil => exact .ins .nil
  | @sub x z a b n _ ih => rw [List.cons_append]; have := Way.sub (x := x) (y := z) ih; rwa [Nat.add_right_comm] at this
  | del _ ih => exact .del ih
  | ins _ ih => exact .ins ih
theorem way_snoc_del {a b : List UInt8} {n : Nat} (h : Way a b n) (x : UInt8) : Way (a ++ [x]) b (n + 1) := (way_snoc_ins h.symm x).symm
theorem way_snoc_sub {a b : List UInt8} {n : Nat} (h : Way a b n) (x y : UInt8) : Way (a ++ [x]) (b ++ [y]) (n + ne x y) := by
  induction h with
  | nil => exact Way.sub .nil
  | @sub u v a b n _ ih => rw [List.cons_append, List.cons_append, Nat.add_right_comm]; exact .sub ih
  | @del u a b n _ ih => rw [List.cons_append, Nat.add_right_comm]; exact .del ih
  | @ins u a b n _ ih => rw [List.cons_append, Nat.add_right_comm]; exact .ins ih
theorem way_reverse {a b : List UInt8} {n : Nat} (h : Way a b n) : Way a.reverse b.reverse n := by
  induction h with
  | nil => exact .nil
  | sub _ ih => rw [List.reverse_cons, List.reverse_cons]; exact way_snoc_sub ih _ _
  | del _ ih => rw [List.reverse_cons]; exact way_snoc_del ih _
  | ins _ ih => rw [List.reverse_cons]; exact way_snoc_ins ih _
theorem L_reverse (a b : List UInt8) : L a.reverse b.reverse = L a b := by
  refine Nat.le_antisymm (L_way (way_reverse (way_L a b))) ?_
  have := L_way (way_reverse (way_L a.reverse b.reverse))
  rwa [List.reverse_reverse, List.reverse_reverse] at this

/-! neighbours -/
theorem L_del' (x : UInt8) (a b : List UInt8) : L a b ≤ L (x :: a) b + 1 := by
  have h := L_tri a b (x :: a)
  have h1 : L a (x :: a) ≤ 1 := by have := L_ins x a a; rw [L_refl] at this; exact this
  omega
theorem L_ins' (y : UInt8) (a b : List UInt8) : L a b ≤ L a (y :: b) + 1 := by
  rw [L_symm a b, L_symm a (y :: b)]; exact L_del' y b a
theorem L_diag (x y : UInt8) (a b : List UInt8) : L a b ≤ L (x :: a) (y :: b) := by
  have h1 := L_ins' y a b
  have h2 := L_del' x a b
  rw [L_cons]; omega
theorem L_same (x : UInt8) (a b : List UInt8) : L (x :: a) (x :: b) = L a b := by
  have h1 := L_diag x x a b
  have h2 := L_sub x x a b
  rw [ne_same] at h2; omega
theorem L_pre (p a b : List UInt8) : L (p ++ a) (p ++ b) = L a b := by
  induction p with
  | nil => rfl
  | cons x p ih => rw [List.cons_append, List.cons_append, L_same, ih]
theorem L_suf (p a b : List UInt8) : L (a ++ p) (b ++ p) = L a b := by
  rw [← L_reverse, List.reverse_append, List.reverse_append, L_pre, L_reverse]

/-! ### counted bytes -/
def ct (c : Nat) : List UInt8 → Nat
  | [] => 0
  | x :: l => ct c l + if x.toNat = c then 1 else 0
def S (f : Nat → Nat) : Nat → Nat
  | 0 => 0
  | k + 1 => S f k + f k
theorem S_congr {f g : Nat → Nat} {k : Nat} (h : ∀ j, j < k → f j = g j) : S f k = S g k := by
  induction k with
  | zero => rfl
  | succ k ih => rw [S, S, ih (fun j hj => h j (by omega)), h k (by omega)]
theorem S_add (f g : Nat → Nat) (k : Nat) : S (fun c => f c + g c) k = S f k + S g k := by
  induction k with
  | zero => rfl
  | succ k ih => rw [S, S, S, ih]; omega
theorem S_le {f g : Nat → Nat} {k : Nat} (h : ∀ j, j < k → f j ≤ g j) : S f k ≤ S g k := by
  induction k with
  | zero => exact Nat.le_refl _
  | succ k ih => have h1 := ih (fun j hj => h j (by omega)); have h2 := h k (by omega); rw [S, S]; omega
theorem S_one (n k : Nat) : S (fun c => if n = c then 1 else 0) k = if n < k then 1 else 0 := by
  induction k with
  | zero => simp [S]
  | succ k ih =>
    rw [S, ih]
    by_cases h1 : n = k
    · subst h1; simp
    · by_cases h2 : n < k
      · rw [if_pos h2, if_neg h1, if_pos (by omega)]
      · rw [if_neg h2, if_neg h1, if_neg (by omega)]
theorem S_zero {f : Nat → Nat} {k : Nat} (h : ∀ j, j < k → f j = 0) : S f k = 0 := by
  induction k with
  | zero => rfl
  | succ k ih => rw [S, ih (fun j hj => h j (by omega)), h k (by omega)]
theorem ct_append (c : Nat) (a b : List UInt8) : ct c (a ++ b) = ct c a + ct c b := by
  induction a with
  | nil => simp [ct]
  | cons x a ih => rw [List.cons_append, ct, ct, ih]; omega
theorem ct_snoc (c : Nat) (a : List UInt8) (y : UInt8) : ct c (a ++ [y]) = ct c a + if y.toNat = c then 1 else 0 := by rw [ct_append, ct, ct]; omega
theorem S_ct (a : List UInt8) : S (fun c => ct c a) 256 = a.length := by
  induction a with
  | nil => exact S_zero fun _ _ => rfl
  | cons x a ih =>
    have := x.toNat_lt
    have h : S (fun c => ct c (x :: a)) 256 = S (fun c => ct c a + if x.toNat = c then 1 else 0) 256 := S_congr fun _ _ => rfl
    rw [h, S_add, ih, S_one, if_pos (by omega), List.length_cons]
def more (a b : List UInt8) : Nat := S (fun c => ct c a - ct c b) 256
def both (a b : List UInt8) : Nat := S (fun c => min (ct c a) (ct c b)) 256
theorem more_both (a b : List UInt8) : more a b + both a b = a.length := by
  rw [← S_ct, more, both, ← S_add]
  exact S_congr fun c _ => by omega
theorem both_symm (a b : List UInt8) : both a b = both b a := S_congr fun _ _ => Nat.min_comm _ _
theorem both_snoc (a b : List UInt8) (y : UInt8) : both a (b ++ [y]) = both a b + if ct y.toNat b < ct y.toNat a then 1 else 0 := by
  have := y.toNat_lt
  unfold both
  have h : S (fun c => min (ct c a) (ct c b) + if y.toNat = c then (if ct y.toNat b < ct y.toNat a then 1 else 0) else 0) 256 = S (fun c => min (ct c a) (ct c (b ++ [y]))) 256 := by
    refine S_congr fun c _ => ?_
    simp only [ct_snoc]
    by_cases h : y.toNat = c
    · subst h
      rw [if_pos rfl, if_pos rfl]
      split <;> omega
    · rw [if_neg h, if_neg h]; omega
  have h2 : S (fun c => if y.toNat = c then (if ct y.toNat b < ct y.toNat a then 1 else 0) else 0) 256 = if ct y.toNat b < ct y.toNat a then 1 else 0 := by
    by_cases hc : ct y.toNat b < ct y.toNat a
    · simp only [if_pos hc]; rw [S_one, if_pos (by omega)]
    · simp only [if_neg hc]
      exact S_zero fun c _ => by split <;> rfl
  rw [← h, S_add, h2]
/-- how many edits there are in any case -/
def least (a b : List UInt8) : Nat := max a.length b.length - both a b
theorem both_le (a b : List UInt8) : both a b ≤ min a.length b.length := by
  have h1 := more_both a b
  have h2 := more_both b a
  rw [both_symm] at h2
  omega
theorem least_more (a b : List UInt8) : least a b = max (max (more a b) (more b a)) (max (a.length - b.length) (b.length - a.length)) := by
  have h1 := more_both a b
  have h2 := more_both b a
  rw [both_symm] at h2
  unfold least
  omega
theorem more_way {a b : List UInt8} {n : Nat} (h : Way a b n) : more a b ≤ n ∧ more b a ≤ n := by
  have up (x : UInt8) (a b : List UInt8) : more (x :: a) b ≤ more a b + 1 := by
    have hx := x.toNat_lt
    have h1 : more (x :: a) b ≤ S (fun c => (ct c a - ct c b) + if x.toNat = c then 1 else 0) 256 := S_le fun c _ => by rw [ct]; omega
    rw [S_add, S_one, if_pos (by omega)] at h1
    exact h1
  have dn (x : UInt8) (a b : List UInt8) : more a (x :: b) ≤ more a b := S_le fun c _ => by rw [ct]; omega
  have sm (x : UInt8) (a b : List UInt8) : more (x :: a) (x :: b) = more a b := S_congr fun c _ => by rw [ct, ct]; omega
  induction h with
  | nil => exact ⟨Nat.le_of_eq (S_zero fun _ _ => rfl), Nat.le_of_eq (S_zero fun _ _ => rfl)⟩
  | @sub x y a b n _ ih =>
    by_cases e : x = y
    · subst e; rw [sm, sm, ne_same]; exact ih
    · have h1 := up x a b; have h2 := dn y (x :: a) b; have h3 := up y b a; have h4 := dn x (y :: b) a
      unfold ne; rw [if_neg e]; omega
  | @del x a b n _ ih => have h1 := up x a b; have h2 := dn x b a; omega
  | @ins y a b n _ ih => have h1 := dn y a b; have h2 := up y b a; omega
theorem least_le (a b : List UInt8) : least a b ≤ L a b := by
  have h := more_way (way_L a b)
  have h2 := way_len (way_L a b)
  rw [least_more]; omega
end Go.Proofs.Ytaamlidflfdjkaa.lev
/-
  Mathematics: a column of the table in the bits of numbers: one step of it.
-/
namespace Go.Proofs.Ytaamlidflfdjkaa.lev
section
variable (eq more less : BitVec 64) (bl : Bool)
/-- the sum of a byte's places and what the row below has less -/
def sE : BitVec 64 := eq ||| (if bl then 1#64 else 0#64)
def sS : BitVec 64 := sE eq bl ||| ((((sE eq bl &&& more) + more) ^^^ more) ||| less)
def sR : BitVec 64 := less ||| ~~~(sS eq more less bl ||| more)
def sL : BitVec 64 := sS eq more less bl &&& more
def sR1 (bm : Bool) : BitVec 64 := (sR eq more less bl <<< 1) ||| (if bm then 1#64 else 0#64)
def sL1 : BitVec 64 := (sL eq more less bl <<< 1) ||| (if bl then 1#64 else 0#64)
def nM (bm : Bool) : BitVec 64 := sL1 eq more less bl ||| ~~~(sS eq more less bl ||| sR1 eq more less bl bm)
def nL (bm : Bool) : BitVec 64 := sS eq more less bl &&& sR1 eq more less bl bm
end

theorem bit01 (b : Bool) (k : Nat) : (if b then 1#64 else 0#64 : BitVec 64).getLsbD k = (b && decide (k = 0)) := by
  cases b <;> simp [BitVec.getLsbD_one]

structure Ste (h : Nat) (u v : Nat → Nat) (e : Nat → Bool) : Prop where
  up : ∀ k, k < h → u (k + 1) ≤ u k + 1 ∧ u k ≤ u (k + 1) + 1
  rc : ∀ k, k < h → v (k + 1) = min (u k + if e k then 0 else 1) (min (u (k + 1) + 1) (v k + 1))
  lo : v 0 ≤ u 0 + 1 ∧ u 0 ≤ v 0 + 1

variable {eq more less : BitVec 64} {bl bm : Bool} {h : Nat} {u v : Nat → Nat} {e : Nat → Bool}
theorem Ste.ge (s : Ste h u v e) (k : Nat) (hk : k ≤ h) : v k ≤ u k + 1 ∧ u k ≤ v k + 1 := by
  induction k with
  | zero => exact s.lo
  | succ k ih =>
    have h1 := ih (by omega)
    have h2 := s.up k (by omega)
    have h3 := s.rc k (by omega)
    split at h3 <;> omega
theorem Ste.diag (s : Ste h u v e) (k : Nat) (hk : k < h) : u k ≤ v (k + 1) ∧ v (k + 1) ≤ u k + 1 := by
  have h1 := s.ge k (by omega)
  have h2 := s.up k (by omega)
  have h3 := s.rc k (by omega)
  split at h3 <;> omega

theorem Ste.le (s : Ste h u v e) (k : Nat) (hk : k < h) : v (k + 1) ≤ v k + 1 := by
  have h3 := s.rc k (by omega)
  omega
theorem step_bits (s : Ste h u v e)
    (he : ∀ k, k < h → eq.getLsbD k = e k) (hm : ∀ k, k < h → more.getLsbD k = decide (u (k + 1) = u k + 1)) 
    (hbl : bl = decide (v 0 + 1 = u 0)) :
    ∀ k, k < h → ((sE eq bl).getLsbD k || BitVec.carry k (sE eq bl &&& more) more false) = (e k || decide (v k + 1 = u k)) := by
  intro k
  induction k with
  | zero =>
    intro hk
    rw [BitVec.carry_zero, sE, BitVec.getLsbD_or, bit01, he 0 hk, hbl]; simp
  | succ k ih =>
    intro hk
    have h1 := ih (by omega)
    have h2 := s.up k (by omega)
    have h3 := s.rc k (by omega)
    have h4 := s.ge k (by omega)
    rw [BitVec.carry_succ, sE, BitVec.getLsbD_or, bit01, he _ hk, BitVec.getLsbD_and, hm k (by omega)]
    rw [show (decide (k + 1 = 0)) = false from by simp, Bool.and_false, Bool.or_false]
    congr 1
    have hat : ∀ p q c : Bool, Bool.atLeastTwo (p && q) q c = (q && (p || c)) := by decide
    rw [← sE, hat, h1]
    cases hE : e k
    · rw [hE, if_neg Bool.false_ne_true] at h3
      rw [Bool.false_or, ← Bool.decide_and, decide_eq_decide]; omega
    · rw [hE, if_pos rfl] at h3
      rw [Bool.true_or, Bool.and_true, decide_eq_decide]; omega
theorem same_bits (s : Ste h u v e) (h64 : h ≤ 64)
    (he : ∀ k, k < h → eq.getLsbD k = e k) (hm : ∀ k, k < h → more.getLsbD k = decide (u (k + 1) = u k + 1)) (hl : ∀ k, k < h → less.getLsbD k = decide (u (k + 1) + 1 = u k))
    (hbl : bl = decide (v 0 + 1 = u 0)) (k : Nat) (hk : k < h) : (sS eq more less bl).getLsbD k = decide (v (k + 1) = u k) := by
  have h1 := step_bits s he hm hbl k hk
  have h2 := s.up k (by omega)
  have h3 := s.rc k (by omega)
  have h4 := s.ge k (by omega)
  rw [sS, BitVec.getLsbD_or, BitVec.getLsbD_or, BitVec.getLsbD_xor, BitVec.getLsbD_add (by omega), BitVec.getLsbD_and]
  have hx : ∀ E M C B : Bool, (E || ((((E && M) ^^ (M ^^ C)) ^^ M) || B)) = ((E || C) || B) := by decide
  rw [hx, h1, hl k hk]
  cases hE : e k
  · rw [hE, if_neg Bool.false_ne_true] at h3
    rw [Bool.false_or, ← Bool.decide_or, decide_eq_decide]; omega
  · rw [hE, if_pos rfl] at h3
    rw [Bool.true_or, Bool.true_or, eq_comm, decide_eq_true_eq]; omega
theorem right_bits (s : Ste h u v e) (h64 : h ≤ 64)
    (he : ∀ k, k < h → eq.getLsbD k = e k) (hm : ∀ k, k < h → more.getLsbD k = decide (u (k + 1) = u k + 1)) (hl : ∀ k, k < h → less.getLsbD k = decide (u (k + 1) + 1 = u k))
    (hbl : bl = decide (v 0 + 1 = u 0)) (k : Nat) (hk : k < h) :
    (sR eq more less bl).getLsbD k = decide (v (k + 1) = u (k + 1) + 1) ∧ (sL eq more less bl).getLsbD k = decide (v (k + 1) + 1 = u (k + 1)) := by
  have h1 := same_bits s h64 he hm hl hbl k hk
  have h2 := s.up k (by omega)
  have h4 := s.diag k (by omega)
  have h5 := s.ge (k + 1) (by omega)
  constructor
  · rw [sR, BitVec.getLsbD_or, BitVec.getLsbD_not, BitVec.getLsbD_or, h1, hm k hk, hl k hk, decide_eq_true (show k < 64 by omega), Bool.true_and, ← Bool.decide_or, ← decide_not, ← Bool.decide_or, decide_eq_decide]
    omega
  · rw [sL, BitVec.getLsbD_and, h1, hm k hk, ← Bool.decide_and, decide_eq_decide]
    omega
theorem right1_bits (s : Ste h u v e) (h64 : h ≤ 64)
    (he : ∀ k, k < h → eq.getLsbD k = e k) (hm : ∀ k, k < h → more.getLsbD k = decide (u (k + 1) = u k + 1)) (hl : ∀ k, k < h → less.getLsbD k = decide (u (k + 1) + 1 = u k))
    (hbl : bl = decide (v 0 + 1 = u 0)) (hbm : bm = decide (v 0 = u 0 + 1)) (k : Nat) (hk : k < h) :
    (sR1 eq more less bl bm).getLsbD k = decide (v k = u k + 1) ∧ (sL1 eq more less bl).getLsbD k = decide (v k + 1 = u k) := by
  rw [sR1, sL1, BitVec.getLsbD_or, BitVec.getLsbD_or, bit01, bit01, BitVec.getLsbD_shiftLeft, BitVec.getLsbD_shiftLeft, decide_eq_true (show k < 64 by omega), Bool.true_and]
  cases k with
  | zero => simp [hbl, hbm]
  | succ k =>
    obtain ⟨h1, h2⟩ := right_bits s h64 he hm hl hbl k (by omega)
    rw [Nat.add_sub_cancel, h1, h2]
    simp
theorem new_bits (s : Ste h u v e) (h64 : h ≤ 64)
    (he : ∀ k, k < h → eq.getLsbD k = e k) (hm : ∀ k, k < h → more.getLsbD k = decide (u (k + 1) = u k + 1)) (hl : ∀ k, k < h → less.getLsbD k = decide (u (k + 1) + 1 = u k))
    (hbl : bl = decide (v 0 + 1 = u 0)) (hbm : bm = decide (v 0 = u 0 + 1)) (k : Nat) (hk : k < h) :
    (nM eq more less bl bm).getLsbD k = decide (v (k + 1) = v k + 1) ∧ (nL eq more less bl bm).getLsbD k = decide (v (k + 1) + 1 = v k) := by
  have h1 := same_bits s h64 he hm hl hbl k hk
  obtain ⟨h6, h7⟩ := right1_bits s h64 he hm hl hbl hbm k hk
  have h2 := s.up k (by omega)
  have h4 := s.diag k (by omega)
  have h5 := s.ge k (by omega)
  have h8 := s.le k (by omega)
  constructor
  · rw [nM, BitVec.getLsbD_or, BitVec.getLsbD_not, BitVec.getLsbD_or, h1, h6, h7, decide_eq_true (show k < 64 by omega), Bool.true_and, ← Bool.decide_or, ← decide_not, ← Bool.decide_or, decide_eq_decide]
    omega
  · rw [nL, BitVec.getLsbD_and, h1, h6, ← Bool.decide_and, decide_eq_decide]
    omega
end Go.Proofs.Ytaamlidflfdjkaa.lev
/-
  Mathematics: the columns of a part, told by the distances of what is left of two texts.
-/
namespace Go.Proofs.Ytaamlidflfdjkaa.lev

/-- the table at b's place j, and at the k-th row from below of a part tx, below which a' is left -/
def V (tx a' b : List UInt8) (j k : Nat) : Nat := L (tx.drop (tx.length - k) ++ a') (b.drop j)
/-- how much more there is at a place of b than at the next one -/
def dl (l b : List UInt8) (j : Nat) : Int := (L l (b.drop j) : Int) - L l (b.drop (j + 1))
structure Col (tx a' b : List UInt8) (j : Nat) (m l : BitVec 64) : Prop where
  more : ∀ k, k < tx.length → m.getLsbD k = decide (V tx a' b j (k + 1) = V tx a' b j k + 1)
  less : ∀ k, k < tx.length → l.getLsbD k = decide (V tx a' b j (k + 1) + 1 = V tx a' b j k)
def Same (tx a' b : List UInt8) (j : Nat) (s : BitVec 64) : Prop := ∀ k, k < tx.length → s.getLsbD k = decide (V tx a' b j (k + 1) = V tx a' b (j + 1) k)
section
variable {tx a' b : List UInt8} {j : Nat}
theorem V_zero : V tx a' b j 0 = L a' (b.drop j) := by unfold V; rw [Nat.sub_zero, List.drop_length, List.nil_append]
theorem V_top : V tx a' b j tx.length = L (tx ++ a') (b.drop j) := by unfold V; rw [Nat.sub_self, List.drop_zero]
theorem V_succ {k : Nat} (hk : k < tx.length) : V tx a' b j (k + 1) = L (tx[tx.length - 1 - k] :: (tx.drop (tx.length - k) ++ a')) (b.drop j) := by
  unfold V
  rw [show tx.length - (k + 1) = tx.length - 1 - k from by omega, List.drop_eq_getElem_cons (by omega), List.cons_append, show tx.length - 1 - k + 1 = tx.length - k from by omega]
def eqs (tx : List UInt8) (c : Nat) (k : Nat) : Bool := decide (tx[tx.length - 1 - k]?.map (·.toNat) = some c)
theorem eqs_ne {c : UInt8} {k : Nat} (hk : k < tx.length) : (if eqs tx c.toNat k then 0 else 1) = ne tx[tx.length - 1 - k] c := by
  unfold eqs ne
  rw [List.getElem?_eq_getElem (by omega), Option.map_some]
  by_cases h : tx[tx.length - 1 - k] = c
  · rw [if_pos h, if_pos (by rw [h]; simp)]
  · rw [if_neg h, if_neg (fun e => h (UInt8.toNat_inj.1 (by simpa using e)))]
theorem V_ste (hj : j < b.length) : Ste tx.length (V tx a' b (j + 1)) (V tx a' b j) (eqs tx b[j].toNat) where
  up k hk := by
    rw [V_succ hk]
    exact ⟨L_del _ _ _, L_del' _ _ _⟩
  rc k hk := by
    rw [V_succ hk, V_succ hk, eqs_ne hk, List.drop_eq_getElem_cons hj, L_cons]
    unfold V
    rw [List.drop_eq_getElem_cons hj]
    exact congrArg _ (Nat.min_comm _ _)
  lo := by
    rw [V_zero, V_zero, List.drop_eq_getElem_cons hj]
    exact ⟨L_ins _ _ _, L_ins' _ _ _⟩
/-- at b's end all that is left goes -/
theorem Col.start (h64 : tx.length ≤ 64) : Col tx a' b b.length (BitVec.allOnes 64) 0#64 where
  more k hk := by
    rw [V_succ hk]; unfold V
    rw [List.drop_length, L_cons_nil, BitVec.getLsbD_allOnes, decide_eq_true (show k < 64 by omega)]; simp
  less k hk := by
    rw [V_succ hk]; unfold V
    rw [List.drop_length, L_cons_nil, BitVec.getLsbD_zero]; simp; omega
def blOf (a' b : List UInt8) (j : Nat) : Bool := decide (L a' (b.drop j) + 1 = L a' (b.drop (j + 1)))
def bmOf (a' b : List UInt8) (j : Nat) : Bool := decide (L a' (b.drop j) = L a' (b.drop (j + 1)) + 1)
theorem blm (a' b : List UInt8) (j : Nat) : (blOf a' b j && bmOf a' b j) = false := by
  unfold blOf bmOf
  rw [← Bool.decide_and, decide_eq_false_iff_not]; omega
theorem dl_below (a' b : List UInt8) (j : Nat) (hj : j < b.length) : dl a' b j = if bmOf a' b j then 1 else if blOf a' b j then -1 else 0 := by
  have h1 : L a' (b.drop j) ≤ L a' (b.drop (j + 1)) + 1 ∧ L a' (b.drop (j + 1)) ≤ L a' (b.drop j) + 1 := by
    rw [List.drop_eq_getElem_cons hj]; exact ⟨L_ins _ _ _, L_ins' _ _ _⟩
  unfold dl blOf bmOf
  simp only [decide_eq_true_eq]
  split
  · omega
  · split <;> omega
variable {eq m l : BitVec 64}
theorem Col.step (hc : Col tx a' b (j + 1) m l) (h64 : tx.length ≤ 64) (hj : j < b.length) (he : ∀ k, k < tx.length → eq.getLsbD k = eqs tx b[j].toNat k) :
    Col tx a' b j (nM eq m l (blOf a' b j) (bmOf a' b j)) (nL eq m l (blOf a' b j) (bmOf a' b j)) ∧ Same tx a' b j (sS eq m l (blOf a' b j)) := by
  have h1 : blOf a' b j = decide (V tx a' b j 0 + 1 = V tx a' b (j + 1) 0) := by rw [V_zero, V_zero]; rfl
  have h2 : bmOf a' b j = decide (V tx a' b j 0 = V tx a' b (j + 1) 0 + 1) := by rw [V_zero, V_zero]; rfl
  have hn := new_bits (V_ste hj) h64 he hc.more hc.less h1 h2
  exact ⟨⟨fun k hk => (hn k hk).1, fun k hk => (hn k hk).2⟩, same_bits (V_ste hj) h64 he hc.more hc.less h1⟩
theorem Col.above (hc : Col tx a' b (j + 1) m l) (h0 : 0 < tx.length) (h64 : tx.length ≤ 64) (hj : j < b.length) (he : ∀ k, k < tx.length → eq.getLsbD k = eqs tx b[j].toNat k) :
    ((if (sR eq m l (blOf a' b j)).getLsbD (tx.length - 1) then 1 else 0) - (if (sL eq m l (blOf a' b j)).getLsbD (tx.length - 1) then 1 else 0) : Int) = dl (tx ++ a') b j := by
  have h1 : blOf a' b j = decide (V tx a' b j 0 + 1 = V tx a' b (j + 1) 0) := by rw [V_zero, V_zero]; rfl
  obtain ⟨h3, h4⟩ := right_bits (V_ste hj) h64 he hc.more hc.less h1 (tx.length - 1) (by omega)
  have h5 := (V_ste (a' := a') hj (tx := tx)).ge tx.length (Nat.le_refl _)
  rw [show tx.length - 1 + 1 = tx.length from by omega, V_top, V_top] at h3 h4
  rw [V_top, V_top] at h5
  rw [h3, h4]
  unfold dl
  simp only [decide_eq_true_eq]
  split <;> split <;> omega
end
/-- what all that is told of a row comes to -/
def sm (f : Nat → Int) : Nat → Int
  | 0 => 0
  | k + 1 => sm f k + f k
theorem sm_dl (l b : List UInt8) (k : Nat) : sm (dl l b) k = (L l b : Int) - L l (b.drop k) := by
  induction k with
  | zero => simp [sm]
  | succ k ih => rw [sm, ih]; unfold dl; omega
theorem sm_all (l b : List UInt8) : (l.length : Int) + sm (dl l b) b.length = L l b := by
  rw [sm_dl, List.drop_length, L_nil']; omega
theorem dl_nil (b : List UInt8) (j : Nat) (hj : j < b.length) : dl [] b j = 1 := by
  unfold dl; rw [L_nil, L_nil, List.length_drop, List.length_drop]; omega
theorem dl_bd (l b : List UInt8) (j : Nat) : -1 ≤ dl l b j ∧ dl l b j ≤ 1 := by
  by_cases hj : j < b.length
  · rw [dl_below l b j hj]; split
    · omega
    · split <;> omega
  · unfold dl
    rw [List.drop_eq_nil_of_le (by omega), List.drop_eq_nil_of_le (by omega)]; omega
end Go.Proofs.Ytaamlidflfdjkaa.lev
/-
  Mathematics: what two texts begin and end with alike; bytes of texts as lists.
-/
namespace Go.Proofs.Ytaamlidflfdjkaa.lev

/-- what is left where both begin alike -/
def strip : List UInt8 → List UInt8 → List UInt8 × List UInt8
  | x :: a, y :: b => if x = y then strip a b else (x :: a, y :: b)
  | [], b => ([], b)
  | a, [] => (a, [])
def pre : List UInt8 → List UInt8 → Nat
  | x :: a, y :: b => if x = y then pre a b + 1 else 0
  | _, _ => 0
theorem strip_same (x : UInt8) (a b : List UInt8) : strip (x :: a) (x :: b) = strip a b := by simp [strip]
theorem strip_other {x y : UInt8} (h : x ≠ y) (a b : List UInt8) : strip (x :: a) (y :: b) = (x :: a, y :: b) := by simp [strip, h]
theorem strip_nil (b : List UInt8) : strip [] b = ([], b) := by cases b <;> rfl
theorem strip_nil' (a : List UInt8) : strip a [] = (a, []) := by cases a <;> rfl
theorem pre_same (x : UInt8) (a b : List UInt8) : pre (x :: a) (x :: b) = pre a b + 1 := by simp [pre]
theorem pre_other {x y : UInt8} (h : x ≠ y) (a b : List UInt8) : pre (x :: a) (y :: b) = 0 := by simp [pre, h]
theorem pre_nil (b : List UInt8) : pre [] b = 0 := by cases b <;> rfl
theorem pre_nil' (a : List UInt8) : pre a [] = 0 := by cases a <;> rfl
theorem pre_le : ∀ a b : List UInt8, pre a b ≤ a.length ∧ pre a b ≤ b.length
  | x :: a, y :: b => by
    by_cases h : x = y
    · subst h; rw [pre_same]; have := pre_le a b; simp only [List.length_cons]; omega
    · rw [pre_other h]; omega
  | [], b => by rw [pre_nil]; omega
  | x :: a, [] => by rw [pre_nil']; omega
theorem strip_pre : ∀ a b : List UInt8, strip a b = (a.drop (pre a b), b.drop (pre a b))
  | x :: a, y :: b => by
    by_cases h : x = y
    · subst h; rw [strip_same, pre_same, strip_pre a b]; rfl
    · rw [strip_other h, pre_other h]; rfl
  | [], b => by rw [strip_nil, pre_nil]; rfl
  | x :: a, [] => by rw [strip_nil', pre_nil']; rfl
theorem pre_take : ∀ a b : List UInt8, a.take (pre a b) = b.take (pre a b)
  | x :: a, y :: b => by
    by_cases h : x = y
    · subst h; rw [pre_same, List.take_succ_cons, List.take_succ_cons, pre_take a b]
    · rw [pre_other h]; rfl
  | [], b => by rw [pre_nil]; rfl
  | x :: a, [] => by rw [pre_nil']; rfl
theorem L_strip : ∀ a b : List UInt8, L (strip a b).1 (strip a b).2 = L a b
  | x :: a, y :: b => by
    by_cases h : x = y
    · subst h; rw [strip_same, L_same, L_strip a b]
    · rw [strip_other h]
  | [], b => by rw [strip_nil]
  | x :: a, [] => by rw [strip_nil']
/-- what is left where both end alike -/
def stripR (a b : List UInt8) : List UInt8 × List UInt8 := ((strip a.reverse b.reverse).1.reverse, (strip a.reverse b.reverse).2.reverse)
def tr (a b : List UInt8) : List UInt8 × List UInt8 := stripR (strip a b).1 (strip a b).2
theorem L_stripR (a b : List UInt8) : L (stripR a b).1 (stripR a b).2 = L a b := by unfold stripR; rw [L_reverse, L_strip, L_reverse]
theorem L_tr (a b : List UInt8) : L (tr a b).1 (tr a b).2 = L a b := by unfold tr; rw [L_stripR, L_strip]
theorem stripR_same (x : UInt8) (a b : List UInt8) : stripR (a ++ [x]) (b ++ [x]) = stripR a b := by
  unfold stripR; rw [List.reverse_append, List.reverse_append]; simp [strip_same]
theorem stripR_other {x y : UInt8} (h : x ≠ y) (a b : List UInt8) : stripR (a ++ [x]) (b ++ [y]) = (a ++ [x], b ++ [y]) := by
  unfold stripR; rw [List.reverse_append, List.reverse_append]; simp [strip_other h]
theorem stripR_nil (b : List UInt8) : stripR [] b = ([], b) := by unfold stripR; simp [strip_nil]
theorem stripR_nil' (a : List UInt8) : stripR a [] = (a, []) := by unfold stripR; simp [strip_nil']
theorem strip_len (a b : List UInt8) : (strip a b).1.length ≤ a.length ∧ (strip a b).2.length ≤ b.length := by rw [strip_pre]; simp
theorem stripR_len (a b : List UInt8) : (stripR a b).1.length ≤ a.length ∧ (stripR a b).2.length ≤ b.length := by
  have := strip_len a.reverse b.reverse
  simpa [stripR] using this
theorem tr_len (a b : List UInt8) : (tr a b).1.length ≤ a.length ∧ (tr a b).2.length ≤ b.length := by
  have h1 := strip_len a b
  have h2 := stripR_len (strip a b).1 (strip a b).2
  unfold tr; omega

/-! ### texts as lists -/
def bl (s : ByteArray) : List UInt8 := s.data.toList
def of (l : List UInt8) : ByteArray := ⟨l.toArray⟩
theorem bl_len (s : ByteArray) : (bl s).length = s.size := Array.length_toList
theorem bl_of (l : List UInt8) : bl (of l) = l := rfl
theorem of_bl (s : ByteArray) : of (bl s) = s := by cases s; simp [of, bl]
theorem of_size (l : List UInt8) : (of l).size = l.length := by rw [← bl_len, bl_of]
theorem bl_ext {s t : ByteArray} (h : bl s = bl t) : s = t := by rw [← of_bl s, h, of_bl]
theorem of_inj {l m : List UInt8} (h : of l = of m) : l = m := by rw [← bl_of l, h, bl_of]
theorem bl_get (s : ByteArray) (k : Nat) (h : k < s.size) : (bl s)[k]'(by rw [bl_len]; exact h) = s[k]'h := rfl
theorem bl_extract (s : ByteArray) (i j : Nat) : bl (s.extract i j) = ((bl s).take j).drop i := by
  unfold bl
  rw [ByteArray.data_extract, Array.toList_extract]
  simp [List.extract_eq_take_drop, List.drop_take]
theorem bl_from (s : ByteArray) (i : Nat) : bl (s.extract i s.size) = (bl s).drop i := by
  rw [bl_extract, List.take_of_length_le (by rw [bl_len]; exact Nat.le_refl _)]
theorem bl_to (s : ByteArray) (j : Nat) : bl (s.extract 0 j) = (bl s).take j := by rw [bl_extract, List.drop_zero]
theorem bl_cons (s : ByteArray) (k : Nat) (h : k < s.size) : (bl s).drop k = s[k]'h :: (bl s).drop (k + 1) := by
  rw [List.drop_eq_getElem_cons (by rw [bl_len]; exact h)]; rfl
theorem bl_last (s : ByteArray) (h : 0 < s.size) : bl s = (bl s).take (s.size - 1) ++ [s[s.size - 1]'(by omega)] := by
  have := List.take_succ_eq_append_getElem (l := bl s) (i := s.size - 1) (by rw [bl_len]; omega)
  rw [show s.size - 1 + 1 = s.size from by omega, List.take_of_length_le (by rw [bl_len]; exact Nat.le_refl _)] at this
  exact this
end Go.Proofs.Ytaamlidflfdjkaa.lev
/-
  The climber's block; the contract of its step.
-/
namespace Go.Proofs.Ytaamlidflfdjkaa.lev
open Go.RowKit law bytes
set_option linter.unusedVariables false

/-- a number of 64 bits as the machine's -/
@[irreducible] def U (x : BitVec 64) : Int := x.toNat
theorem U_or (x y : BitVec 64) : bits .or .u64 (U x) (U y) = U (x ||| y) := by
  unfold U; rw [u64_or_nat _ _ (by have := x.isLt; omega) (by have := y.isLt; omega), BitVec.toNat_or]
theorem U_and (x y : BitVec 64) : bits .and .u64 (U x) (U y) = U (x &&& y) := by
  unfold U; rw [u64_and_nat _ _ (by have := x.isLt; omega) (by have := y.isLt; omega), BitVec.toNat_and]
theorem U_xor (x y : BitVec 64) : bits .xor .u64 (U x) (U y) = U (x ^^^ y) := by
  unfold U; rw [u64_xor_nat _ _ (by have := x.isLt; omega) (by have := y.isLt; omega), BitVec.toNat_xor]
theorem U_add (x y : BitVec 64) : IntKind.u64.wrap (U x + U y) = U (x + y) := by
  unfold U; rw [IntKind.wrap_u64, BitVec.toNat_add]; omega
theorem U_not (x : BitVec 64) : bits .xor .u64 IntKind.u64.max (U x) = U (~~~x) := by
  have h : IntKind.u64.max = U (BitVec.allOnes 64) := by unfold U; decide
  rw [h, U_xor, BitVec.allOnes_xor]
theorem U_shl (x : BitVec 64) : IntKind.u64.wrap (U x * 2) = U (x <<< 1) := by
  unfold U; rw [IntKind.wrap_u64, BitVec.toNat_shiftLeft, Nat.shiftLeft_eq]; omega
/-- a bit as a number -/
def bi (b : Bool) : Int := if b then 1 else 0
theorem U_bit (b : Bool) : (bi b : Int) = U (if b then 1#64 else 0#64) := by unfold U bi; cases b <;> rfl
theorem U_at (x : BitVec 64) (k : Nat) : bits .and .u64 (U x / 2 ^ k) 1 = bi (x.getLsbD k) := by
  have h1 : U x / 2 ^ k = ((x.toNat / 2 ^ k : Nat) : Int) := by unfold U; rw [Int.natCast_ediv, Int.natCast_pow]; rfl
  have h2 : x.toNat / 2 ^ k < 18446744073709551616 := Nat.lt_of_le_of_lt (Nat.div_le_self _ _) (by have := x.isLt; omega)
  rw [h1, show (1 : Int) = ((1 : Nat) : Int) from rfl, u64_and_nat _ _ h2 (by decide), Nat.and_one_is_mod, ← Nat.toNat_testBit, BitVec.testBit_toNat]
  unfold bi; cases x.getLsbD k <;> rfl
/-- how much more the first row has -/
def upD (R F : BitVec 64) (top : Nat) : Int := bi (R.getLsbD top) - bi (F.getLsbD top)
theorem upD_wrap (R F : BitVec 64) (top : Nat) : IntKind.i8.wrap (IntKind.i8.wrap (bits .and .u64 (U R / 2 ^ top) 1) - IntKind.i8.wrap (bits .and .u64 (U F / 2 ^ top) 1)) = upD R F top := by
  rw [U_at, U_at]; unfold upD bi; cases R.getLsbD top <;> cases F.getLsbD top <;> decide

/-- the block of a climber: three numbers, the places of each byte, the top row -/
def Cl (w : World) (g : Nat) (s m l : BitVec 64) (pl : Nat → BitVec 64) (top : Nat) : Prop :=
  ∃ cs : Array Value, Blk w g 125 cs ∧ cs.size = 260 ∧ cs[0]? = some (.int .u64 (U s)) ∧ cs[1]? = some (.int .u64 (U m)) ∧ cs[2]? = some (.int .u64 (U l)) ∧
    (∀ c, c < 256 → cs[3 + c]? = some (.int .u64 (U (pl c)))) ∧ cs[259]? = some (.int .i64 top)
theorem Cl.lt {w : World} {g : Nat} {s m l : BitVec 64} {pl : Nat → BitVec 64} {top : Nat} (h : Cl w g s m l pl top) : g < w.heap.size := by obtain ⟨cs, h, _⟩ := h; exact h.lt
theorem Cl.keep {w w' : World} {g : Nat} {s m l : BitVec 64} {pl : Nat → BitVec 64} {top : Nat} (h : Cl w g s m l pl top) (e : w'.heap[g]? = w.heap[g]?) : Cl w' g s m l pl top := by
  obtain ⟨cs, h, r⟩ := h; exact ⟨cs, h.keep e, r⟩
theorem Cl.cols {w : World} {g : Nat} {s m l : BitVec 64} {pl : Nat → BitVec 64} {top : Nat} (h : Cl w g s m l pl top) (n : Nat) (s' m' l' : BitVec 64) :
    Cl ((((w.drewN n).setCell ⟨g, 0, none⟩ (.int .u64 (U s'))).setCell ⟨g, 1, none⟩ (.int .u64 (U m'))).setCell ⟨g, 2, none⟩ (.int .u64 (U l'))) g s' m' l' pl top := by
  obtain ⟨cs, hb, hsz, h0, h1, h2, hp, ht⟩ := h
  refine ⟨_, (((hb.drewN n).set_ 0 _).set_ 1 _).set_ 2 _, by simpa using hsz, ?_, ?_, ?_, fun c hc => ?_, ?_⟩
  · simp [hsz]
  · simp [hsz]
  · simp [hsz]
  · simp [Array.getElem?_setIfInBounds, hsz]
    rw [if_neg (by omega), if_neg (by omega), if_neg (by omega)]; exact hp c hc
  · simp [hsz]
    exact (Array.getElem?_eq_some_iff.1 ht).2
theorem only_cols {w : World} {g : Nat} (n : Nat) (u v x : Value) : w.grownBy ((((w.drewN n).setCell ⟨g, 0, none⟩ u).setCell ⟨g, 1, none⟩ v).setCell ⟨g, 2, none⟩ x) (some g) :=
  only_setCell (g := g) (only_setCell (g := g) (only_setCell (g := g) (only_drewN (only_refl w _) n) (p := ⟨g, 0, none⟩) (.inl rfl) u) (p := ⟨g, 1, none⟩) (.inl rfl) v) (p := ⟨g, 2, none⟩) (.inl rfl) x

/-- a column was gone on to -/
def Stepped (g : Nat) (s m l : BitVec 64) (pl : Nat → BitVec 64) (top c : Nat) (bl bm : Bool) (w : World) (e : Ending) (w' : World) : Prop :=
  e = .returned (.int .i8 (upD (sR (pl c) m l bl) (sL (pl c) m l bl) top)) ∧ w.grownBy w' (some g) ∧ Cl w' g (sS (pl c) m l bl) (nM (pl c) m l bl bm) (nL (pl c) m l bl bm) pl top
def belowOf (bl bm : Bool) : Int := if bm then 1 else if bl then -1 else 0

set_option maxHeartbeats 1600000 in
set_option maxRecDepth 100000 in
theorem step_any (g : Nat) (s m l : BitVec 64) (pl : Nat → BitVec 64) (top c : Nat) (hc : c < 256) (ht : top < 64) (bl bm : Bool) (hbb : (bl && bm) = false) (w : World) (hw : Cl w g s m l pl top) :
    Calls Try.prog 63 #[.pointer (some ⟨g, 0, none⟩), .int .u8 c, .int .i8 (belowOf bl bm)] w (Stepped g s m l pl top c bl bm w) := by
  have hend := fun n => Cl.cols hw n (sS (pl c) m l bl) (nM (pl c) m l bl bm) (nL (pl c) m l bl bm)
  obtain ⟨cs, hblk, hsz, h0, h1, h2, hp, htop⟩ := hw
  have c0 : w.cell? ⟨g, 0, none⟩ = some (.int .u64 (U s)) := (hblk.cell 0).trans h0
  have c1 : w.cell? ⟨g, 1, none⟩ = some (.int .u64 (U m)) := (hblk.cell 1).trans h1
  have c2 : w.cell? ⟨g, 2, none⟩ = some (.int .u64 (U l)) := (hblk.cell 2).trans h2
  have cp : w.cell? ⟨g, 3 + c, none⟩ = some (.int .u64 (U (pl c))) := (hblk.cell _).trans (hp c hc)
  have ct : w.cell? ⟨g, 259, none⟩ = some (.int .i64 top) := (hblk.cell 259).trans htop
  have fr : ∀ i, w.frozen? ⟨g, i, none⟩ = false := fun i => hblk.frozen i
  have e0 : bits .or .u64 (U (pl c)) (bi bl) = U (sE (pl c) bl) := by rw [U_bit, U_or]; rfl
  have e1 : bits .or .u64 (U (sE (pl c) bl)) (bits .or .u64 (bits .xor .u64 (IntKind.u64.wrap (bits .and .u64 (U (sE (pl c) bl)) (U m) + U m)) (U m)) (U l)) = U (sS (pl c) m l bl) := by
    rw [U_and, U_add, U_xor, U_or, U_or]; rfl
  have e2 : bits .or .u64 (U l) (bits .xor .u64 IntKind.u64.max (bits .or .u64 (U (sS (pl c) m l bl)) (U m))) = U (sR (pl c) m l bl) := by rw [U_or, U_not, U_or]; rfl
  have e3 : bits .and .u64 (U (sS (pl c) m l bl)) (U m) = U (sL (pl c) m l bl) := by rw [U_and]; rfl
  have e4 := upD_wrap (sR (pl c) m l bl) (sL (pl c) m l bl) top
  have e5 : bits .or .u64 (IntKind.u64.wrap (U (sR (pl c) m l bl) * 2)) (bi bm) = U (sR1 (pl c) m l bl bm) := by rw [U_shl, U_bit, U_or]; rfl
  have e6 : bits .or .u64 (IntKind.u64.wrap (U (sL (pl c) m l bl) * 2)) (bi bl) = U (sL1 (pl c) m l bl) := by rw [U_shl, U_bit, U_or]; rfl
  have e7 : bits .or .u64 (U (sL1 (pl c) m l bl)) (bits .xor .u64 IntKind.u64.max (bits .or .u64 (U (sS (pl c) m l bl)) (U (sR1 (pl c) m l bl bm)))) = U (nM (pl c) m l bl bm) := by rw [U_or, U_not, U_or]; rfl
  have e8 : bits .and .u64 (U (sS (pl c) m l bl)) (U (sR1 (pl c) m l bl bm)) = U (nL (pl c) m l bl bm) := by rw [U_and]; rfl
  unfold Stepped
  generalize sE (pl c) bl = E at *
  generalize sS (pl c) m l bl = S at *
  generalize sR (pl c) m l bl = R at *
  generalize sL (pl c) m l bl = F at *
  generalize sR1 (pl c) m l bl bm = R1 at *
  generalize sL1 (pl c) m l bl = F1 at *
  generalize nM (pl c) m l bl bm = M' at *
  generalize nL (pl c) m l bl bm = L' at *
  have HE := Lib.hid hend
  clear hend hp h0 h1 h2 htop hblk
  obtain ⟨r, hr⟩ : ∃ r, r = upD R F top := ⟨_, rfl⟩
  rw [← hr] at e4 ⊢
  clear hr
  cases bl <;> cases bm <;> (try (exact absurd hbb (by decide))) <;> simp only [bi, belowOf, if_true, if_false, Bool.false_eq_true] at e0 e5 e6 ⊢
  all_goals
    go_enter Try.func63, Try.ntmps63
    go_wp2_with (fail)
    go_quiet (fail)
    go_wp2_with (fail)
    go_quiet (fail)
    go_wp2_with (fail)
    go_quiet (fail)
    go_wp2_with (fail)
    go_ret
    exact ⟨rfl, only_cols _ _ _ _, HE.out _⟩
end Go.Proofs.Ytaamlidflfdjkaa.lev
/-
  The contracts of lev.alike and lev.Trim, and of the document's own Trim.
-/
namespace Go.Proofs.Ytaamlidflfdjkaa.lev
open Go.RowKit law bytes
set_option linter.unusedVariables false

/-- a value, and nothing but draws -/
def Still (v : Value) (w : World) (e : Ending) (w' : World) : Prop := e = .returned v ∧ ∃ k, w' = w.drewN k
theorem eq_get {a b : ByteArray} {k j : Nat} (h1 : k < a.size) (h2 : j < b.size) (h : a[k]'h1 = b[j]'h2) : (((a[k]'h1).toNat : Int) == ((b[j]'h2).toNat : Int)) = true ∧ (((a[k]'h1).toNat : Int) != ((b[j]'h2).toNat : Int)) = false := by rw [h]; simp
theorem ne_get {a b : ByteArray} {k j : Nat} (h1 : k < a.size) (h2 : j < b.size) (h : a[k]'h1 ≠ b[j]'h2) : (((a[k]'h1).toNat : Int) == ((b[j]'h2).toNat : Int)) = false ∧ (((a[k]'h1).toNat : Int) != ((b[j]'h2).toNat : Int)) = true := by
  have hn : (a[k]'h1).toNat ≠ (b[j]'h2).toNat := fun e => h (UInt8.toNat_inj.1 e)
  have : (((a[k]'h1).toNat : Int) == ((b[j]'h2).toNat : Int)) = false := by simp; omega
  exact ⟨this, by simpa using this⟩

theorem bl_last' {s : ByteArray} {k : Nat} (h : s.size = k + 1) (hk : k < s.size) : bl s = (bl s).take k ++ [s[k]'hk] := by
  have := bl_last s (by omega)
  simp only [show s.size - 1 = k from by omega] at this
  exact this
theorem drop_nil {s : ByteArray} {k : Nat} (h : s.size ≤ k) : (bl s).drop k = [] := List.drop_eq_nil_of_le (by rw [bl_len]; exact h)
theorem ddd (w : World) (a b c : Nat) : ((w.drewN a).drewN b).drewN c = w.drewN (a + b + c) := by rw [World.drewN_drewN, World.drewN_drewN, Nat.add_assoc]
theorem dd (w : World) (a b : Nat) : (w.drewN a).drewN b = w.drewN (a + b) := World.drewN_drewN ..
set_option maxHeartbeats 1600000 in
theorem alike_any (a b : ByteArray) (ha : a.size ≤ 9223372036854775807) (hb : b.size ≤ 9223372036854775807) (w : World) :
    Calls Try.prog 60 #[.string a, .string b] w (Still (.int .i64 (pre (bl a) (bl b) : Nat)) w) := by
  obtain ⟨r, hr⟩ : ∃ r, r = pre (bl a) (bl b) := ⟨_, rfl⟩
  rw [← hr]
  have HR := Lib.hid hr
  clear hr
  go_enter Try.func60, Try.ntmps60
  go_wp2_with (fail)
  go_loopw [5] (fun i wr => ∃ k n : Nat, k ≤ a.size ∧ i = .int .i64 k ∧ Hid (r = k + pre ((bl a).drop k) ((bl b).drop k)) ∧ wr = w.drewN n) (fun i _ => a.size - (intOf i).toNat)
  case atStart => exact ⟨0, 0, Nat.zero_le _, rfl, Lib.hid (by rw [HR.out, Nat.zero_add, List.drop_zero, List.drop_zero]), rfl⟩
  case round =>
    obtain ⟨k, n, hk, rfl, HK, rfl⟩ := hrel
    by_cases h1 : k < a.size
    · by_cases h2 : k < b.size
      · by_cases he : a[k]'h1 = b[k]'h2
        · obtain ⟨q1, q2⟩ := eq_get h1 h2 he
          have hs : r = (k + 1) + pre ((bl a).drop (k + 1)) ((bl b).drop (k + 1)) := by
            rw [HK.out, bl_cons a k h1, bl_cons b k h2, he, pre_same]; omega
          have HS := Lib.hid hs
          clear hs he HK
          go_wp2_with (fail)
          go_quiet (fail)
          go_wp2_with (fail)
          go_roundw
          case rel => exact ⟨k + 1, _, by omega, by go_num, HS, rfl⟩
          case measure => simp [intOf]; omega
        · obtain ⟨q1, q2⟩ := ne_get h1 h2 he
          have hs : r = k := by rw [HK.out, bl_cons a k h1, bl_cons b k h2, pre_other he]; omega
          subst hs
          clear he HK
          go_wp2_with (fail)
          go_quiet (fail)
          go_wp2_with (fail)
          go_ret
          exact ⟨rfl, _, dd _ _ _⟩
      · have hs : r = k := by rw [HK.out, drop_nil (s := b) (by omega), pre_nil']; omega
        subst hs
        have d2 : decide (r < b.size) = false := decide_eq_false h2
        clear HK
        go_wp2_with (fail)
        go_quiet (fail)
        go_wp2_with (fail)
        go_ret
        exact ⟨rfl, _, dd _ _ _⟩
    · have hs : r = k := by rw [HK.out, drop_nil (s := a) (by omega), pre_nil]; omega
      subst hs
      have d1 : decide (r < a.size) = false := decide_eq_false h1
      clear HK
      go_wp2_with (fail)
      go_quiet (fail)
      go_wp2_with (fail)
      go_ret
      exact ⟨rfl, _, dd _ _ _⟩

theorem s_ne {s : ByteArray} (h : 0 < s.size) : (!s.toList.isEmpty) = true ∧ (s.toList == []) = false := by
  rw [ByteArray.toList_eq]
  cases hl : s.data.toList with
  | nil =>
    have h2 : s.data.toList.length = s.size := Array.length_toList
    rw [hl] at h2
    simp at h2
    omega
  | cons x r => simp
set_option maxHeartbeats 1600000 in
theorem trim_any (a b : ByteArray) (ha : a.size ≤ 140737488355328) (hb : b.size ≤ 140737488355328) (w : World) :
    Calls Try.prog 54 #[.string a, .string b] w (Still (.tuple #[.string (of (tr (bl a) (bl b)).1), .string (of (tr (bl a) (bl b)).2)]) w) := by
  have hal := alike_any a b (by omega) (by omega) w
  have hp := pre_le (bl a) (bl b)
  rw [bl_len, bl_len] at hp
  have htr : tr (bl a) (bl b) = stripR ((bl a).drop (pre (bl a) (bl b))) ((bl b).drop (pre (bl a) (bl b))) := by unfold tr; rw [strip_pre]
  obtain ⟨T, hT⟩ : ∃ T, T = tr (bl a) (bl b) := ⟨_, rfl⟩
  rw [← hT] at htr ⊢
  generalize pre (bl a) (bl b) = n at *
  have HT := Lib.hid htr
  have HAL := Lib.hid hal
  clear hT htr hal
  obtain ⟨hp1, hp2⟩ := hp
  go_enter Try.func54, Try.ntmps54
  go_wp2_with (fail)
  refine HAL.out.mono ?_
  rintro e w1 ⟨rfl, n1, rfl⟩
  go_wp2_with (fail)
  go_quiet (fail)
  go_wp2_with (fail)
  go_loopw [0, 1] (fun x y wr => ∃ (s t : ByteArray) (k : Nat), x = .string s ∧ y = .string t ∧ s.size ≤ 140737488355328 ∧ t.size ≤ 140737488355328 ∧ Hid (T = stripR (bl s) (bl t)) ∧ wr = w.drewN k) (fun x y _ => match x with | .string s => s.size | _ => 0)
  case atStart => exact ⟨_, _, _, rfl, rfl, by simp; omega, by simp; omega, Lib.hid (by rw [HT.out, bl_from, bl_from]), dd _ _ _⟩
  case round =>
    obtain ⟨s, t, k, rfl, rfl, hs, ht, HK, rfl⟩ := hrel
    by_cases h1 : 0 < s.size
    · by_cases h2 : 0 < t.size
      · obtain ⟨z1, z2⟩ := s_ne h1
        obtain ⟨z3, z4⟩ := s_ne h2
        obtain ⟨s1, hs1⟩ : ∃ s1, s.size = s1 + 1 := ⟨s.size - 1, by omega⟩
        obtain ⟨t1, ht1⟩ : ∃ t1, t.size = t1 + 1 := ⟨t.size - 1, by omega⟩
        have i1 : s1 < s.size := by omega
        have i2 : t1 < t.size := by omega
        have hw1 : IntKind.i64.wrap ((s.size : Int) - 1) = (s1 : Int) := by rw [IntKind.wrap_i64]; omega
        have hw2 : IntKind.i64.wrap ((t.size : Int) - 1) = (t1 : Int) := by rw [IntKind.wrap_i64]; omega
        have l1 := bl_last' hs1 i1
        have l2 := bl_last' ht1 i2
        have le1 : s1 ≤ s.size := by omega
        have le2 : t1 ≤ t.size := by omega
        have LS := Lib.hid hs1
        have LT := Lib.hid ht1
        clear hs1 ht1
        by_cases he : s[s1]'i1 = t[t1]'i2
        · obtain ⟨q1, q2⟩ := eq_get i1 i2 he
          have hn : T = stripR (bl (s.extract 0 s1)) (bl (t.extract 0 t1)) := by
            rw [HK.out, l1, l2, he, stripR_same, bl_to, bl_to]
          have HN := Lib.hid hn
          have z5 : (s.extract 0 s1).size = s1 := by simp; omega
          have z6 : (t.extract 0 t1).size = t1 := by simp; omega
          have HZ5 := Lib.hid z5
          have HZ6 := Lib.hid z6
          clear hn he HK l1 l2 z5 z6
          go_wp2_with (fail)
          go_quiet (fail)
          go_wp2_with (fail)
          go_quiet (fail)
          go_wp2_with (fail)
          go_roundw
          case rel => exact ⟨_, _, _, rfl, rfl, by rw [HZ5.out]; omega, by rw [HZ6.out]; omega, HN, ddd _ _ _ _⟩
          case measure =>
            show (s.extract 0 s1).size < s.size
            rw [HZ5.out]; exact i1
        · obtain ⟨q1, q2⟩ := ne_get i1 i2 he
          have hn : T = (bl s, bl t) := by rw [HK.out, l1, l2, stripR_other he, ← l1, ← l2]
          subst hn
          simp only [of_bl]
          clear he HK l1 l2
          go_wp2_with (fail)
          go_quiet (fail)
          go_wp2_with (fail)
          refine bodyPost_ret (v := .tuple #[.string s, .string t]) (by simp [results, Try.results54, go_sem]) rfl ?_
          exact ⟨rfl, _, dd _ _ _⟩
      · have z0 : t.size = 0 := by omega
        have ht0 : bl t = [] := List.eq_nil_of_length_eq_zero (by rw [bl_len]; exact z0)
        have hn : T = (bl s, bl t) := by rw [HK.out, ht0, stripR_nil']
        subst hn
        simp only [of_bl]
        obtain rfl : t = ByteArray.empty := by rw [← of_bl t, ht0]; rfl
        obtain ⟨z1, z2⟩ := s_ne h1
        clear HK ht0 h2 z0
        go_wp2_with (fail)
        go_quiet (fail)
        go_wp2_with (fail)
        refine bodyPost_ret (v := .tuple #[.string s, .string ByteArray.empty]) (by simp [results, Try.results54, go_sem]) rfl ?_
        exact ⟨rfl, _, dd _ _ _⟩
    · have z0 : s.size = 0 := by omega
      have ht0 : bl s = [] := List.eq_nil_of_length_eq_zero (by rw [bl_len]; exact z0)
      have hn : T = (bl s, bl t) := by rw [HK.out, ht0, stripR_nil]
      subst hn
      simp only [of_bl]
      obtain rfl : s = ByteArray.empty := by rw [← of_bl s, ht0]; rfl
      clear HK ht0 h1 z0
      go_wp2_with (fail)
      go_quiet (fail)
      go_wp2_with (fail)
      refine bodyPost_ret (v := .tuple #[.string ByteArray.empty, .string t]) (by simp [results, Try.results54, go_sem]) rfl ?_
      exact ⟨rfl, _, dd _ _ _⟩

end Go.Proofs.Ytaamlidflfdjkaa.lev
/-
  The contract of the climber's start.
-/
namespace Go.Proofs.Ytaamlidflfdjkaa.lev
open Go.RowKit law bytes
set_option linter.unusedVariables false

def zcl : Array Value := (Array.replicate 259 (.int .u64 0)).push (.int .i64 0)
theorem zero_cl : (Try.prog.info? 125).map (fun i => (i.zero, i.size)) = some (some (.agg zcl), 260) := by kernel_rfl
theorem zcl_size : zcl.size = 260 := by simp [zcl]

/-- the places of a byte in the first n of a text; the last place is bit 0 -/
def pls (text : ByteArray) (top : Nat) : Nat → Nat → BitVec 64
  | 0, _ => 0#64
  | n + 1, c => if text.data.toList[n]?.map (·.toNat) = some c then pls text top n c ||| 1#64 <<< (top - n) else pls text top n c
theorem pls_bit (text : ByteArray) (top c : Nat) (h64 : top < 64) (n : Nat) (hn : n ≤ top + 1) (k : Nat) (hk : k ≤ top) :
    (pls text top n c).getLsbD k = decide (top - k < n ∧ text.data.toList[top - k]?.map (·.toNat) = some c) := by
  induction n with
  | zero => simp [pls]
  | succ n ih =>
    have ih := ih (by omega)
    have hb : (1#64 <<< (top - n)).getLsbD k = decide (k = top - n) := by
      rw [BitVec.getLsbD_shiftLeft, BitVec.getLsbD_one]
      simp only [show k < 64 by omega, decide_true, Bool.true_and]
      rw [Bool.eq_iff_iff]; simp; omega
    rw [pls]
    by_cases h : text.data.toList[n]?.map (·.toNat) = some c
    · rw [if_pos h, BitVec.getLsbD_or, ih, hb, ← Bool.decide_or, decide_eq_decide]
      by_cases e : k = top - n
      · obtain rfl : n = top - k := by omega
        exact ⟨fun _ => ⟨by omega, h⟩, fun _ => .inr e⟩
      · exact ⟨fun h => h.elim (fun h => ⟨by omega, h.2⟩) (fun h => absurd h e), fun h => .inl ⟨by omega, h.2⟩⟩
    · rw [if_neg h, ih, decide_eq_decide]
      constructor
      · exact fun h => ⟨by omega, h.2⟩
      · intro h'
        refine ⟨?_, h'.2⟩
        by_cases e : top - k = n
        · rw [e] at h'; exact absurd h'.2 h
        · omega

theorem pls_succ (text : ByteArray) (top n : Nat) (hn : n < text.size) (c : Nat) : pls text top (n + 1) c = if (text[n]'hn).toNat = c then pls text top n c ||| 1#64 <<< (top - n) else pls text top n c := by
  have e : text.data.toList[n]?.map (·.toNat) = some (text[n]'hn).toNat := by
    rw [List.getElem?_eq_getElem (by simpa using hn)]; rfl
  rw [pls, e]
  by_cases h : (text[n]'hn).toNat = c
  · rw [if_pos h, if_pos (by rw [h])]
  · rw [if_neg h, if_neg (fun e => h (by injection e))]
theorem U_put (text : ByteArray) (k : Nat) (hk : k < text.size) (h64 : text.size ≤ 64) :
    bits .or .u64 (U (pls text (text.size - 1) k (text[k]'hk).toNat)) (IntKind.u64.wrap (2 ^ (text.size - 1 - k))) = U (pls text (text.size - 1) (k + 1) (text[k]'hk).toNat) := by
  have h : IntKind.u64.wrap (2 ^ (text.size - 1 - k)) = U (1#64 <<< (text.size - 1 - k)) := by
    unfold U
    rw [IntKind.wrap_u64, BitVec.toNat_shiftLeft, Nat.shiftLeft_eq, show (1#64).toNat = 1 from rfl, Nat.one_mul, Int.natCast_emod, Int.natCast_pow]
    rfl
  rw [h, U_or, pls_succ text _ k hk, if_pos rfl]
theorem Cl.place {w : World} {g : Nat} {s m l : BitVec 64} {pl pl' : Nat → BitVec 64} {top c : Nat} (h : Cl w g s m l pl top) (hc : c < 256) (hpl : ∀ d, d ≠ c → pl' d = pl d) (n : Nat) :
    Cl ((w.setCell ⟨g, 3 + c, none⟩ (.int .u64 (U (pl' c)))).drewN n) g s m l pl' top := by
  obtain ⟨cs, hb, hsz, h0, h1, h2, hp, ht⟩ := h
  refine ⟨_, (hb.set_ (3 + c) _).drewN n, by simpa using hsz, ?_, ?_, ?_, fun d hd => ?_, ?_⟩
  · rw [Array.getElem?_setIfInBounds, if_neg (by omega)]; exact h0
  · rw [Array.getElem?_setIfInBounds, if_neg (by omega)]; exact h1
  · rw [Array.getElem?_setIfInBounds, if_neg (by omega)]; exact h2
  · rw [Array.getElem?_setIfInBounds]
    by_cases e : d = c
    · subst e; rw [if_pos rfl, if_pos (by omega)]
    · rw [if_neg (by omega), hpl d e]; exact hp d hd
  · rw [Array.getElem?_setIfInBounds, if_neg (by omega)]; exact ht

/-- a climber was put at the end -/
def Started (g : Nat) (text : ByteArray) (w : World) (e : Ending) (w' : World) : Prop :=
  e = .returned (.tuple #[]) ∧ w.grownBy w' (some g) ∧ Cl w' g 0#64 (BitVec.allOnes 64) 0#64 (pls text (text.size - 1) text.size) (text.size - 1)
def st0 (zc : Array Value) (v : Value) : List Value := (((zc.toList.set 0 (Value.int IntKind.u64 0)).set 1 (Value.int IntKind.u64 18446744073709551615)).set 2 (Value.int IntKind.u64 0)).set 259 v
theorem zcl_at (i : Nat) (hi : i < 259) : zcl[i]? = some (.int .u64 0) := by
  unfold zcl
  rw [Array.getElem?_push_lt (by simpa using hi)]
  simp
theorem st0_one (v : Value) (hv : v.oneCell' = true) : ∀ u ∈ st0 zcl v, u.oneCell' = true := by
  have hz : ∀ u ∈ zcl.toList, u.oneCell' = true := by
    intro u hu
    unfold zcl at hu
    rw [Array.mem_toList_iff, Array.mem_push, Array.mem_replicate] at hu
    rcases hu with ⟨_, h⟩ | h <;> subst h <;> rfl
  intro u hu
  unfold st0 at hu
  rcases List.mem_or_eq_of_mem_set hu with h | h
  · rcases List.mem_or_eq_of_mem_set h with h | h
    · rcases List.mem_or_eq_of_mem_set h with h | h
      · rcases List.mem_or_eq_of_mem_set h with h | h
        · exact hz u h
        · subst h; rfl
      · subst h; rfl
    · subst h; rfl
  · subst h; exact hv
theorem st0_cl {w : World} {g : Nat} {cs : Array Value} (hb : Blk w g 125 cs) (text : ByteArray) (h1 : 0 < text.size) :
    Cl (w.setRow g (st0 zcl (.int .i64 (text.size - 1))).toArray) g 0#64 (BitVec.allOnes 64) 0#64 (pls text (text.size - 1) 0) (text.size - 1) := by
  have hsz := zcl_size
  have hsz2 : zcl.toList.length = 260 := by simpa using hsz
  have hU : U 0#64 = 0 := by unfold U; rfl
  have hU1 : U (BitVec.allOnes 64) = 18446744073709551615 := by unfold U; rfl
  refine ⟨_, setRow_heap w g cs _ _ _ hb, by simp [st0, hsz], ?_, ?_, ?_, fun c hc => ?_, ?_⟩
  · simp [st0, hsz, hU]
  · rw [hU1]; simp [st0, hsz]
  · simp [st0, hsz, hU]
  · rw [show U (pls text (text.size - 1) 0 c) = 0 from hU]
    simp only [st0, List.getElem?_toArray]
    rw [List.getElem?_set, if_neg (by omega), List.getElem?_set, if_neg (by omega), List.getElem?_set, if_neg (by omega), List.getElem?_set, if_neg (by omega), Array.getElem?_toList]
    exact zcl_at _ (by omega)
  · simp [st0, hsz]; omega
theorem only_setRow {w : World} {g : Nat} (cs : Array Value) : w.grownBy (w.setRow g cs) (some g) :=
  only_step (only_refl w _) rfl rfl rfl (by simp [World.setRow]) fun i hi hne => by
    show (w.setRow g cs).heap[i]? = _
    simp only [World.setRow, Array.getElem?_modify]
    rw [if_neg (fun e => hne (by rw [e]))]

set_option maxHeartbeats 1600000 in
set_option maxRecDepth 100000 in
theorem start_any (g : Nat) (text : ByteArray) (h1 : 0 < text.size) (h64 : text.size ≤ 64) (cs : Array Value) (w : World) (hb : Blk w g 125 cs) (hsz : cs.size = 260) :
    Calls Try.prog 62 #[.pointer (some ⟨g, 0, none⟩), .string text] w (Started g text w) := by
  have hst0 : Sem.run Try.prog (storeCells { block := g, off := 0 } (st0 zcl (.int .i64 (text.size - 1)))) w = .ok () (w.setRow g (st0 zcl (.int .i64 (text.size - 1))).toArray) := by
    have := run_storeCells_from (P := Try.prog) g _ (st0 zcl (.int .i64 (text.size - 1))) 0 cs w hb (by rw [hsz]; simp [st0, zcl_size]) (st0_one _ rfl)
    rwa [List.take_zero, List.nil_append] at this
  have hcl := st0_cl hb text h1
  have hgr := only_setRow (w := w) (g := g) (st0 zcl (.int .i64 (text.size - 1))).toArray
  obtain ⟨W1, hW1⟩ : ∃ W1, W1 = w.setRow g (st0 zcl (.int .i64 (text.size - 1))).toArray := ⟨_, rfl⟩
  obtain ⟨zc, hzc⟩ : ∃ zc, zc = zcl := ⟨_, rfl⟩
  have hz := (zero_of_info zero_cl).1
  have hs := zcl_size
  rw [← hW1] at hst0 hcl hgr
  rw [← hzc] at hz hs hst0
  have hst : Sem.run Try.prog (storeCells { block := g, off := 0 } ((((zc.toList.set 0 (Value.int IntKind.u64 0)).set 1 (Value.int IntKind.u64 18446744073709551615)).set 2 (Value.int IntKind.u64 0)).set 259 (Value.int IntKind.i64 (↑text.size - 1)))) w = .ok () W1 := hst0
  clear hW1 hb hzc hst0
  go_enter Try.func62, Try.ntmps62
  go_wp2_with (fail)
  go_loopw [14] (fun i wr => ∃ k : Nat, k ≤ text.size ∧ i = .int .i64 k ∧ Cl wr g 0#64 (BitVec.allOnes 64) 0#64 (pls text (text.size - 1) k) (text.size - 1) ∧ w.grownBy wr (some g)) (fun i _ => text.size - (intOf i).toNat)
  case atStart => exact ⟨0, Nat.zero_le _, rfl, hcl, hgr⟩
  case round =>
    obtain ⟨k, hk, rfl, hcl, hgr⟩ := hrel
    by_cases hlt : k < text.size
    · have HC := Lib.hid hcl
      obtain ⟨cs, hblk, hsz, h0, h1, h2, hp, htop⟩ := hcl
      have hc : (text[k]'hlt).toNat < 256 := (text[k]'hlt).toNat_lt
      have cp : wr.cell? ⟨g, 3 + (text[k]'hlt).toNat, none⟩ = some (.int .u64 (U (pls text (text.size - 1) k (text[k]'hlt).toNat))) := (hblk.cell _).trans (hp _ hc)
      have ct : wr.cell? ⟨g, 259, none⟩ = some (.int .i64 (text.size - 1)) := (hblk.cell 259).trans (htop.trans (by simp; omega))
      have fr : ∀ i, wr.frozen? ⟨g, i, none⟩ = false := fun i => hblk.frozen i
      have ep := U_put text k hlt h64
      clear hblk h0 h1 h2 hp htop hz hst hs
      go_wp2_with (fail)
      go_region
      go_wp2_with (fail)
      go_roundw
      case rel =>
        refine ⟨k + 1, by omega, by go_num, Cl.place (pl' := pls text (text.size - 1) (k + 1)) HC.out hc (fun d hd => ?_) 1, only_drewN (only_setCell (g := g) hgr (p := ⟨g, 3 + (text[k]'hlt).toNat, none⟩) (.inl rfl) _) 1⟩
        rw [pls_succ text _ k hlt, if_neg (fun e => hd e.symm)]
      case measure => simp [intOf]; omega
    · obtain rfl : k = text.size := by omega
      go_wp2_with (fail)
      refine bodyPost_end (results_none rfl _ _ _) rfl ?_
      exact ⟨rfl, hgr, hcl⟩
end Go.Proofs.Ytaamlidflfdjkaa.lev
/-
  A row of numbers of one byte; the contracts of climb.
-/
namespace Go.Proofs.Ytaamlidflfdjkaa.lev
open Go.RowKit law bytes
set_option linter.unusedVariables false

/-- block g holds just n numbers -/
def Row (w : World) (g n : Nat) (f : Nat → Int) : Prop := ∃ (t : TypeId) (cs : Array Value), Blk w g t cs ∧ cs.size = n ∧ ∀ i, i < n → cs[i]? = some (.int .i8 (f i))
section
variable {w w' : World} {g n : Nat} {f f' : Nat → Int}
theorem Row.lt (h : Row w g n f) : g < w.heap.size := by obtain ⟨t, cs, h, _⟩ := h; exact h.lt
theorem Row.keep (h : Row w g n f) (e : w'.heap[g]? = w.heap[g]?) : Row w' g n f := by obtain ⟨t, cs, h, r⟩ := h; exact ⟨t, cs, h.keep e, r⟩
theorem Row.alloc (h : Row w g n f) (o : Obj) : Row (w.alloc o) g n f := h.keep (Below.heap_alloc w o g h.lt)
theorem Row.grown {row : Option Nat} (h : Row w g n f) (hb : w.grownBy w' row) (hg : some g ≠ row) : Row w' g n f := h.keep (hb.block g h.lt hg)
theorem Row.drewN (h : Row w g n f) (k : Nat) : Row (w.drewN k) g n f := h
theorem Row.congr (h : Row w g n f) (hf : ∀ i, i < n → f i = f' i) : Row w g n f' := by
  obtain ⟨t, cs, h, hs, hc⟩ := h; exact ⟨t, cs, h, hs, fun i hi => by rw [← hf i hi]; exact hc i hi⟩
theorem Row.cell (h : Row w g n f) {i : Nat} (hi : i < n) : w.cell? ⟨g, i, none⟩ = some (.int .i8 (f i)) := by
  obtain ⟨t, cs, h, hs, hc⟩ := h; exact (h.cell i).trans (hc i hi)
theorem Row.frozen (h : Row w g n f) (i : Nat) : w.frozen? ⟨g, i, none⟩ = false := by obtain ⟨t, cs, h, _⟩ := h; exact h.frozen i
theorem Row.set_ (h : Row w g n f) {i : Nat} (hi : i < n) (x : Int) (hf : ∀ k, k ≠ i → f' k = f k) (hx : f' i = x) : Row (w.setCell ⟨g, i, none⟩ (.int .i8 x)) g n f' := by
  obtain ⟨t, cs, h, hs, hc⟩ := h
  refine ⟨t, _, h.set_ i _, by simpa using hs, fun k hk => ?_⟩
  rw [Array.getElem?_setIfInBounds]
  by_cases e : i = k
  · subst e; rw [if_pos rfl, if_pos (by omega), hx]
  · rw [if_neg e, hf k (fun h => e h.symm)]; exact hc k hk
theorem Row.far (h : Row w g n f) {p : Addr} (hp : g ≠ p.block) (u : Value) : Row (w.setCell p u) g n f := h.keep (Below.heap_setCell w p u g hp)
end
theorem tl_at {s : ByteArray} {k : Nat} (hk : k < s.size) : s.data.toList[k]? = some (s[k]'hk) := by
  rw [List.getElem?_eq_getElem (by simpa using hk)]; rfl
theorem pls_eqs (text : ByteArray) (c k : Nat) (h64 : text.size ≤ 64) (hk : k < text.data.toList.length) : (pls text (text.size - 1) text.size c).getLsbD k = eqs text.data.toList c k := by
  have hl : text.data.toList.length = text.size := Array.length_toList
  rw [hl] at hk
  rw [pls_bit text _ c (by omega) _ (by omega) k (by omega), eqs, hl, decide_eq_decide]
  exact ⟨fun h => h.2, fun h => ⟨by omega, h⟩⟩

theorem only_two {w wr w2 : World} {g : Nat} (h : w.grownBy wr (some g)) (h2 : wr.drew.grownBy w2 (some w.heap.size)) : w.grownBy w2 (some g) :=
  only_step (b := wr) h h2.os h2.tape h2.output h2.size fun i hi _ => h2.block i (by show i < wr.heap.size; have := h.size; omega) (by simp; omega)
/-- a row was climbed -/
def Climbed (gr n : Nat) (f : Nat → Int) (w : World) (e : Ending) (w' : World) : Prop :=
  e = .returned (.tuple #[]) ∧ w.grownBy w' (some gr) ∧ Row w' gr n f
def mix (old new : Nat → Int) (j i : Nat) : Int := if i < j then old i else new i

set_option maxHeartbeats 1600000 in
set_option maxRecDepth 100000 in
theorem climb_any (text b : ByteArray) (a' : List UInt8) (h1 : 0 < text.size) (h64 : text.size ≤ 64) (hb : b.size ≤ 1048576) (gr c : Nat) (hc : b.size ≤ c) (w : World) (hr : Row w gr b.size (dl a' b.data.toList)) :
    Calls Try.prog 57 #[.string text, .string b, .slice (some ⟨gr, 0, none⟩) b.size c] w (Climbed gr b.size (dl (text.data.toList ++ a') b.data.toList) w) := by
  obtain ⟨zc, hzc⟩ : ∃ zc, zc = zcl := ⟨_, rfl⟩
  have hz := (zero_of_info zero_cl).1
  have hs := zcl_size
  rw [← hzc] at hz hs
  clear hzc
  have hlt := hr.lt
  have hst := start_any w.heap.size text h1 h64 zc (w.alloc (.cells zc 125)) (Blk.new w _ _) hs
  have HST := Lib.hid hst
  have HR := Lib.hid hr
  have HZ := Lib.hid hs
  clear hst hr hs
  go_enter Try.func57, Try.ntmps57
  go_wp2_with (fail)
  refine HST.out.mono ?_
  rintro e w1 ⟨rfl, hg1, hcl1⟩
  have hgw : w.grownBy w1 (some gr) := by
    refine ⟨hg1.os, hg1.tape, hg1.output, by have := hg1.size; simp at this; omega, fun i hi _ => ?_⟩
    rw [hg1.block i (by simp; omega) (by simp; omega), Below.heap_alloc w _ i hi]
  have hr1 := HR.out.grown (row := some w.heap.size) (w' := w1) ⟨hg1.os, hg1.tape, hg1.output, by have := hg1.size; simp at this; omega, fun i hi hne => by rw [hg1.block i (by simp; omega) hne, Below.heap_alloc w _ i hi]⟩ (by simp; omega)
  have HCL := Lib.hid hcl1
  have HR1 := Lib.hid hr1
  have HGW := Lib.hid hgw
  have hlen : b.data.toList.length = b.size := Array.length_toList
  have htl : text.data.toList.length = text.size := Array.length_toList
  have HLEN := Lib.hid hlen
  have HTL := Lib.hid htl
  clear hcl1 hr1 hgw hg1 HST HR HZ hz hlen htl
  go_wp2_with (fail)
  go_loopw [7] (fun x wr => ∃ (j : Nat) (s m l : BitVec 64), j ≤ b.size ∧ x = .int .i64 ((j : Int) - 1) ∧ Cl wr w.heap.size s m l (pls text (text.size - 1) text.size) (text.size - 1) ∧
    Col text.data.toList a' b.data.toList j m l ∧ Row wr gr b.size (mix (dl a' b.data.toList) (dl (text.data.toList ++ a') b.data.toList) j) ∧ w.grownBy wr (some gr)) (fun x _ => (intOf x + 1).toNat)
  case atStart =>
    refine ⟨b.size, _, _, _, Nat.le_refl _, rfl, HCL.out, ?_, HR1.out.congr (fun i hi => by unfold mix; rw [if_pos hi]), HGW.out⟩
    rw [← HLEN.out]
    exact Col.start (by rw [HTL.out]; exact h64)
  case round =>
    obtain ⟨j, s, m, l, hj, rfl, hcl, hcol, hrow, hgw⟩ := hrel
    rcases j with _ | j
    · rw [show (((0 : Nat) : Int) - 1) = -1 from rfl]
      go_wp2_with (fail)
      refine bodyPost_end (results_none rfl _ _ _) rfl ?_
      exact ⟨rfl, hgw, hrow.congr (fun i hi => by unfold mix; rw [if_neg (by omega)])⟩
    · rw [show (((j + 1 : Nat) : Int) - 1) = (j : Int) from by omega]
      have hjl : j < b.data.toList.length := by rw [HLEN.out]; omega
      have hst := step_any w.heap.size s m l (pls text (text.size - 1) text.size) (text.size - 1) (b[j]'(by omega)).toNat (b[j]'(by omega)).toNat_lt (by omega) (blOf a' b.data.toList j) (bmOf a' b.data.toList j) (blm _ _ _)
      have hbe : belowOf (blOf a' b.data.toList j) (bmOf a' b.data.toList j) = dl a' b.data.toList j := (dl_below _ _ _ hjl).symm
      rw [hbe] at hst
      have hcell : wr.cell? ⟨gr, j, none⟩ = some (.int .i8 (dl a' b.data.toList j)) := by rw [hrow.cell (by omega)]; unfold mix; rw [if_pos (by omega)]
      have hfr : ∀ i, wr.frozen? ⟨gr, i, none⟩ = false := hrow.frozen
      have heq : ∀ k, k < text.data.toList.length → (pls text (text.size - 1) text.size (b[j]'(by omega)).toNat).getLsbD k = eqs text.data.toList (b.data.toList[j]'hjl).toNat k := fun k hk => pls_eqs text _ k h64 hk
      have HEQ := Lib.hid heq
      clear heq
      have HST2 := Lib.hid (hst wr.drew (hcl.keep rfl))
      have HCOL := Lib.hid hcol
      have HROW := Lib.hid hrow
      clear hst hbe hcol hrow hcl
      generalize dl a' b.data.toList j = x at *
      go_wp2_with (fail)
      have hne : some gr ≠ some w.heap.size := by simp; omega
      go_region_with ((go_at_call 63; (with_reducible refine HST2.out.mono ?_); rintro e w2 ⟨rfl, hg2, hcl2⟩; have hr2 := Row.grown (w := wr.drew) (HROW.out.drewN 1) hg2 hne; have hc2 := hr2.cell (i := j) (by omega); have hf2 := hr2.frozen; have HR2 := Lib.hid hr2; clear hr2))
      all_goals
        go_wp2_with (fail)
        go_roundw
        case rel =>
          have hcs := HCOL.out.step (by rw [HTL.out]; exact h64) hjl HEQ.out
          have hup : upD (sR (pls text (text.size - 1) text.size (b[j]'(by omega)).toNat) m l (blOf a' b.data.toList j)) (sL (pls text (text.size - 1) text.size (b[j]'(by omega)).toNat) m l (blOf a' b.data.toList j)) (text.size - 1) = dl (text.data.toList ++ a') b.data.toList j := by
            rw [← HCOL.out.above (by rw [HTL.out]; exact h1) (by rw [HTL.out]; exact h64) hjl HEQ.out, HTL.out]
            rfl
          rw [hup]
          exact ⟨j, _, _, _, by omega, rfl, hcl2.keep (Below.heap_setCell _ _ _ _ (by simp; omega)), hcs.1, HR2.out.set_ (by omega) _ (fun k hk => by unfold mix; by_cases h : k < j <;> simp [h] <;> omega) (by unfold mix; rw [if_neg (by omega)]),
            only_setCell (g := gr) (only_two hgw hg2) (p := ⟨gr, j, none⟩) (.inl rfl) _⟩
        case measure => simp [intOf]
end Go.Proofs.Ytaamlidflfdjkaa.lev
/-
  The contracts of slices.Repeat at one number and of lastRow.
-/
namespace Go.Proofs.Ytaamlidflfdjkaa.lev
open Go.RowKit law bytes
set_option linter.unusedVariables false

theorem i8E : Elem Try.prog 116 (.int .i8 0) 1 := elem_mk (by kernel_rfl) rfl
theorem make8 (n : Nat) (hn : n ≤ 140737488355328) (u : World) : (Instr.makeSlice 111 (.int .i64 (n : Int)) (.int .i64 (n : Int))).run Try.prog u =
    .ok (.slice (some ⟨u.heap.size, 0, none⟩) n n) (u.alloc (.cells (List.replicate n (Value.int .i8 0)).toArray 116)) := by
  obtain ⟨i, hi, hz, hsz, hby, hzs⟩ := i8E
  have h := run_make (P := Try.prog) u 111 116 i (.int .i8 0) Try.underlying111 hi hz .i64 .i64 n n (by omega) (by omega) (by rw [hby]; omega) (by omega)
  rw [h, hsz]
  simp only [Int.toNat_natCast, Nat.mul_one]
  congr 3
  unfold madeCells
  apply Array.ext
  · simp
  · intro k h1 h2
    simp [Value.cells, Nat.mod_one]
/-- the first k of m are 1 -/
def fillL (k m : Nat) : List Value := List.replicate k (Value.int .i8 1) ++ List.replicate (m - k) (Value.int .i8 0)
theorem fillL_len (k m : Nat) (h : k ≤ m) : (fillL k m).length = m := by simp [fillL]; omega
theorem fillL_splice (k c m : Nat) (h : k + c ≤ m) : splice (fillL k m) k (List.replicate c (Value.int .i8 1)) = fillL (k + c) m := by
  unfold splice fillL
  rw [List.take_left' (by simp), List.length_replicate, List.drop_append, List.drop_eq_nil_of_le (by simp), List.nil_append, List.length_replicate, List.drop_replicate, ← List.append_assoc, List.replicate_append_replicate]
  rw [show m - k - (k + c - k) = m - (k + c) from by omega]
theorem fillL_at (k m i : Nat) (h : i < k) : (fillL k m)[i]? = some (Value.int .i8 1) := by
  unfold fillL
  rw [List.getElem?_append_left (by simpa using h), List.getElem?_replicate, if_pos h]
/-- new memory of m numbers 1 -/
def Ones (m : Nat) (w : World) (e : Ending) (w' : World) : Prop :=
  ∃ g, e = .returned (.slice (some ⟨g, 0, none⟩) m m) ∧ w.heap.size ≤ g ∧ Row w' g m (fun _ => 1) ∧ Below w.heap.size w w'

theorem src_one {w : World} {gx q : Nat} (hx : w.cell? ⟨gx, 0, none⟩ = some (.int .i8 1)) (o : Obj) (hq : q ≤ 1) (j : Nat) (v : Value) (hj : (List.replicate q (Value.int .i8 1))[j]? = some v) :
    (w.alloc o).cell? ((⟨gx, 0, none⟩ : Addr).add j) = some v := by
  rw [List.getElem?_replicate] at hj
  split at hj
  · rename_i hlt
    obtain rfl : j = 0 := by omega
    injection hj with hj
    rw [← hj]
    exact (World.cell?_alloc_lt w o _ (World.block_lt_of_cell? _ _ hx)).trans hx
  · cases hj

theorem src_fill {w : World} {g k m x : Nat} {t : TypeId} (hg : w.heap[g]? = some (.cells (fillL k m).toArray t (0, 0))) (hx : x ≤ k) (j : Nat) (v : Value) (hj : (List.replicate x (Value.int .i8 1))[j]? = some v) :
    w.drew.cell? ((⟨g, 0, none⟩ : Addr).add j) = some v := by
  rw [List.getElem?_replicate] at hj
  split at hj
  · rename_i hlt
    injection hj with hj
    have hadd : (⟨g, 0, none⟩ : Addr).add j = ⟨g, j, none⟩ := by unfold Addr.add; split <;> simp_all
    rw [hadd, ← hj]
    exact (cell_of_row w g j _ t (0, 0) hg).trans (by simpa using fillL_at k m j (by omega))
  · cases hj

set_option maxHeartbeats 1600000 in
theorem repeat_any (m : Nat) (hm : m ≤ 1048576) (gx : Nat) (w : World) (hx : w.cell? ⟨gx, 0, none⟩ = some (.int .i8 1)) :
    Calls Try.prog 61 #[.slice (some ⟨gx, 0, none⟩) 1 1, .int .i64 m] w (Ones m w) := by
  have hmul := Try.bits_Mul 1 m (by omega) (by omega)
  rw [Nat.one_mul, Nat.div_eq_of_lt (by omega), Nat.mod_eq_of_lt (by omega)] at hmul
  have hmk0 := make8 m (by omega)
  have hfl0 : (List.replicate m (Value.int .i8 0)) = fillL 0 m := by simp [fillL]
  rw [hfl0] at hmk0
  have hlen := fillL_len 0 m (by omega)
  obtain ⟨Z, hZ⟩ : ∃ Z, Z = (fillL 0 m).toArray := ⟨_, rfl⟩
  obtain ⟨q, hq⟩ : ∃ q, q = min 1 m := ⟨_, rfl⟩
  rw [← hZ] at hmk0
  have hmk := hmk0 w
  have HMUL := Lib.hid hmul
  have HZ := Lib.hid hZ
  have HQ := Lib.hid hq
  have HX := Lib.hid hx
  have HLEN := Lib.hid hlen
  clear hmul hZ hmk0 hfl0 hq hx hlen
  have hd1 : decide ((m : Int) < 0) = false := decide_eq_false (by omega)
  have hd2 : decide ((9223372036854775807 : Int) < (m : Int)) = false := decide_eq_false (by omega)
  go_enter Try.func61, Try.ntmps61
  go_wp2_with (fail)
  refine (HMUL.out _).mono ?_
  rintro e w1 ⟨rfl, rfl⟩
  go_wp2_with (refine wpList_copy_splice rfl (.tmp 31) (.tmp 32) 111 111 rfl 116 Try.underlying111 (by kernel_rfl) (some ⟨w1.heap.size, 0, none⟩) (some ⟨gx, 0, none⟩) m m 1 1 rfl rfl w1.heap.size 0 (fillL 0 m) 116 (by rw [← HZ.out]; exact heap_alloc_new w1 _) (List.replicate q (.int .i8 1)) ((List.length_replicate).trans HQ.out) (fun h => ⟨rfl, _, rfl, src_one HX.out _ (by rw [HQ.out]; omega)⟩) (by rw [HLEN.out, List.length_replicate, HQ.out]; omega) (fun v hv => by rw [List.eq_of_mem_replicate hv]; rfl) w1.heap.size w1 (Below.alloc (Below.refl _ _) (Nat.le_refl _) _) (Nat.le_refl _) ?_)
  intro w4 HG4 hB4
  have hsp : splice (fillL 0 m) 0 (List.replicate q (.int .i8 1)) = fillL q m := by have := fillL_splice 0 q m (by rw [HQ.out]; omega); rwa [Nat.zero_add] at this
  rw [hsp] at HG4
  have hqm : q ≤ m := by rw [HQ.out]; omega
  have hqp : 0 < m → 0 < q := by rw [HQ.out]; omega
  have HQP := Lib.hid hqp
  clear hsp hqp HZ HMUL HX hmk
  go_wp2_with (fail)
  go_loopw [8] (fun x wr => ∃ k : Nat, k ≤ m ∧ q ≤ k ∧ x = .int .i64 k ∧ Hid (wr.heap[w1.heap.size]? = some (.cells (fillL k m).toArray 116 (0, 0))) ∧ Below w1.heap.size w1 wr) (fun x _ => m - (intOf x).toNat)
  case atStart => exact ⟨q, hqm, Nat.le_refl _, rfl, HG4, hB4⟩
  case round =>
    obtain ⟨k, hk, hqk, rfl, HG, hB⟩ := hrel
    by_cases hlt : k < m
    · have hk0 : 0 < k := by have := HQP.out (by omega); omega
      have hkk : ∃ x, x = min k (m - k) := ⟨_, rfl⟩
      obtain ⟨x, hx⟩ := hkk
      have HXX := Lib.hid hx
      clear hx
      have hne : ¬ m = k := by omega
      have hsrc := src_fill HG.out (show x ≤ k by rw [HXX.out]; omega)
      have HSRC := Lib.hid hsrc
      clear hsrc
      have hxm : k + x ≤ m := by rw [HXX.out]; omega
      have hxp : 0 < x := by rw [HXX.out]; omega
      have hsp := fillL_splice k x m hxm
      have HSP := Lib.hid hsp
      clear hsp
      have hwr : IntKind.i64.wrap ((k : Int) + (x : Int)) = (k : Int) + (x : Int) := by rw [IntKind.wrap_i64]; omega
      have hl2 : (List.replicate x (Value.int .i8 1)).length = x := List.length_replicate
      go_wp2_with (fail)
      go_region_law (refine step_copy_splice rfl (.tmp 41) (.tmp 44) 111 111 rfl 116 Try.underlying111 (by kernel_rfl) (some ⟨w1.heap.size, k, none⟩) (some ⟨w1.heap.size, 0, none⟩) (m - k) (m - k) k m (by simp [Act.eval, Act.put]) (by simp [Act.eval, Act.put]) w1.heap.size k (fillL k m) 116 HG.out (List.replicate x (.int .i8 1)) ((List.length_replicate).trans HXX.out) (fun h => ⟨rfl, _, rfl, HSRC.out⟩) (by rw [fillL_len k m hk, List.length_replicate]; exact hxm) (fun v hv => by rw [List.eq_of_mem_replicate hv]; rfl) w1.heap.size w1 (below_drewN' hB 1) (Nat.le_refl _) ?_; intro w5 HG5 hB5; rw [HSP.out] at HG5)
      all_goals
        go_simp
        go_roundw
        case rel =>
          repeat apply Exists.intro
          refine ⟨⟨k + x, hxm, by omega, ?_, HG5, hB5⟩, rfl⟩
          go_num
        case measure => simp [intOf]; omega
    · obtain rfl : k = m := by omega
      go_wp2_with (fail)
      go_ret
      exact ⟨_, rfl, Nat.le_refl _, ⟨_, _, HG.out, by simpa using fillL_len k k (Nat.le_refl _), fun i hi => by simpa using fillL_at k k i hi⟩, hB⟩
theorem last_any (b : ByteArray) (hb : b.size ≤ 1048576) (w : World) :
    Calls Try.prog 55 #[.string b] w (Ones b.size w) := by
  have hr := repeat_any b.size hb w.heap.size (w.alloc (.cells #[.int .i8 1] 116)) ((Blk.new w _ _).cell 0)
  have HR := Lib.hid hr
  clear hr
  go_enter Try.func55, Try.ntmps55
  go_wp2_with (fail)
  refine HR.out.mono ?_
  rintro e w1 ⟨g, rfl, hg, hrow, hb1⟩
  go_wp2_with (fail)
  go_ret
  exact ⟨g, rfl, by simp at hg; omega, hrow, ((Below.refl _ _).alloc (Nat.le_refl _) _).trans (hb1.mono (by simp))⟩
/-! ### parts of texts -/
theorem parts_any (a : ByteArray) (ha : a.size ≤ 1048576) (w : World) :
    Calls Try.prog 56 #[.string a] w fun e w' => e = .returned (.int .i64 ((a.size + 63) / 64 : Nat)) ∧ w = w' := by
  go_enter Try.func56, Try.ntmps56
  go_wp2_with (fail)
  go_ret
  exact ⟨ret_int (by omega), rfl⟩
/-- a text's part -/
def pt (a : ByteArray) (p : Nat) : ByteArray := a.extract (p * 64) (min ((p + 1) * 64) a.size)
theorem part_any (a : ByteArray) (ha : a.size ≤ 1048576) (p : Nat) (hp : p * 64 < a.size) (w : World) :
    Calls Try.prog 58 #[.string a, .int .i64 p] w fun e w' => e = .returned (.string (pt a p)) ∧ w = w' := by
  go_enter Try.func58, Try.ntmps58
  go_wp2_with (fail)
  all_goals
    go_ret
    exact ⟨congrArg (fun n => Ending.returned (.string (a.extract (p * 64) n))) (by omega), rfl⟩
end Go.Proofs.Ytaamlidflfdjkaa.lev
/-
  The contract of lev.Dist.
-/
namespace Go.Proofs.Ytaamlidflfdjkaa.lev
open Go.RowKit law bytes
set_option linter.unusedVariables false

theorem sm_bd (l b : List UInt8) (k : Nat) : -(k : Int) ≤ sm (dl l b) k ∧ sm (dl l b) k ≤ k := by
  induction k with
  | zero => simp [sm]
  | succ k ih => have h := dl_bd l b k; rw [sm]; omega
/-- a value; all that there was is as it was -/
def Tells (v : Value) (w : World) (e : Ending) (w' : World) : Prop := e = .returned v ∧ Below w.heap.size w w'
theorem pt_size (a : ByteArray) (p : Nat) (hp : p * 64 < a.size) : 0 < (pt a p).size ∧ (pt a p).size ≤ 64 := by
  unfold pt; rw [ByteArray.size_extract]; omega
theorem pt_bl (a : ByteArray) (p : Nat) : bl (pt a p) ++ (bl a).drop ((p + 1) * 64) = (bl a).drop (p * 64) := by
  unfold pt
  rw [bl_extract]
  by_cases h : (p + 1) * 64 ≤ a.size
  · rw [Nat.min_eq_left h, show (bl a).drop ((p + 1) * 64) = ((bl a).drop ((p + 1) * 64)).drop 0 from rfl]
    rw [List.drop_take, List.drop_zero]
    have e : (bl a).drop ((p + 1) * 64) = ((bl a).drop (p * 64)).drop 64 := by rw [List.drop_drop]; congr 1; omega
    rw [e, show (p + 1) * 64 - p * 64 = 64 from by omega, List.take_append_drop]
  · rw [Nat.min_eq_right (by omega), List.take_of_length_le (by rw [bl_len]; exact Nat.le_refl _), drop_nil (s := a) (k := (p + 1) * 64) (by omega), List.append_nil]

set_option maxHeartbeats 1600000 in
theorem dist_any (a b : ByteArray) (ha : a.size ≤ 1048576) (hb : b.size ≤ 1048576) (w : World) :
    Calls Try.prog 51 #[.string a, .string b] w (Tells (.int .i64 (L (bl a) (bl b))) w) := by
  have htr := trim_any a b (by omega) (by omega) w
  have hL := L_tr (bl a) (bl b)
  obtain ⟨hl1, hl2⟩ := tr_len (bl a) (bl b)
  rw [bl_len] at hl1 hl2
  obtain ⟨D, hD⟩ : ∃ D, D = L (bl a) (bl b) := ⟨_, rfl⟩
  rw [← hD] at hL ⊢
  generalize tr (bl a) (bl b) = T at *
  have hs1 : (of T.1).size = T.1.length := of_size _
  have hs2 : (of T.2).size = T.2.length := of_size _
  have hLL : L (bl (of T.1)) (bl (of T.2)) = D := hL
  generalize of T.1 = s at *
  generalize of T.2 = t at *
  have hsa : s.size ≤ 1048576 := by omega
  have hta : t.size ≤ 1048576 := by omega
  have HT := Lib.hid htr
  have HL := Lib.hid hLL
  clear htr hL hLL hD hs1 hs2 hl1 hl2
  go_enter Try.func51, Try.ntmps51
  go_wp2_with (fail)
  refine HT.out.mono ?_
  rintro e w1 ⟨rfl, n1, rfl⟩
  clear HT
  by_cases hlt : s.size < t.size
  · have d0 : decide (s.size < t.size) = true := decide_eq_true hlt
    have HLX : Hid (L (bl t) (bl s) = D) := Lib.hid ((L_symm _ _).trans HL.out)
    have hlast := last_any s (by omega) (w.drewN n1)
    have hparts := fun W => parts_any t (by omega) W
    obtain ⟨P, hP⟩ : ∃ P, P = (t.size + 63) / 64 := ⟨_, rfl⟩
    rw [← hP] at hparts
    have hP1 : P * 64 ≤ t.size + 63 := by omega
    have hP2 : t.size ≤ P * 64 := by omega
    have HLAST := Lib.hid hlast
    have HPARTS := Lib.hid hparts
    clear hlast hparts hP HL
    go_wp2_with (fail)
    refine HLAST.out.mono ?_
    rintro e w2 ⟨g, rfl, hg, hrow, hb2⟩
    have hB2 : Below w.heap.size w w2 := (below_drewN' (Below.refl _ _) n1).trans hb2
    have hrow2 : Row w2 g s.size (dl ((bl t).drop (P * 64)) (bl s)) := hrow.congr fun i hi => by rw [drop_nil hP2, dl_nil _ _ (by rw [bl_len]; exact hi)]
    have hgw : w.heap.size ≤ g := hg
    have HROW := Lib.hid hrow2
    clear hrow hrow2 hb2 HLAST hg
    go_wp2_with (fail)
    refine (HPARTS.out _).mono ?_
    rintro e w3 ⟨rfl, rfl⟩
    clear HPARTS
    go_wp2_with (fail)
    go_loopw [6] (fun v wr => ∃ p : Nat, p ≤ P ∧ v = .int .i64 ((p : Int) - 1) ∧ Row wr g s.size (dl ((bl t).drop (p * 64)) (bl s)) ∧ Below w.heap.size w wr) (fun v _ => (intOf v + 1).toNat)
    case atStart => exact ⟨P, Nat.le_refl _, rfl, HROW.out, hB2⟩
    case round =>
      obtain ⟨p, hp, rfl, hrow, hB⟩ := hrel
      rcases p with _ | p
      · rw [show (((0 : Nat) : Int) - 1) = -1 from rfl]
        have hrow0 : Row wr g s.size (dl (bl t) (bl s)) := by simpa using hrow
        have HR0 := Lib.hid hrow0
        clear hrow hrow0
        go_wp2_with (fail)
        go_loop [7, 42] (fun v i => ∃ k : Nat, k ≤ s.size ∧ i = .int .i64 k ∧ v = .int .i64 ((t.size : Int) + sm (dl (bl t) (bl s)) k)) (fun _ i => s.size - (intOf i).toNat)
        case atStart => exact ⟨0, Nat.zero_le _, rfl, by simp [sm]⟩
        case round =>
          obtain ⟨k, hk, rfl, rfl⟩ := hrel
          have hz := sm_bd (bl t) (bl s) k
          by_cases hlt : k < s.size
          · have hc := HR0.out.cell hlt
            have hd := dl_bd (bl t) (bl s) k
            have hsu : sm (dl (bl t) (bl s)) (k + 1) = sm (dl (bl t) (bl s)) k + dl (bl t) (bl s) k := rfl
            have HSU := Lib.hid hsu
            clear hsu
            generalize dl (bl t) (bl s) k = x at *
            generalize hzz : sm (dl (bl t) (bl s)) k = z at *
            have HZZ := Lib.hid hzz
            clear hzz
            go_wp2_with (fail)
            go_round
            case rel => exact ⟨k + 1, by omega, by go_num, by rw [HSU.out]; go_num⟩
            case measure => simp [intOf]; omega
          · obtain rfl : k = s.size := by omega
            have hall := sm_all (bl t) (bl s)
            rw [bl_len, bl_len] at hall
            have hfin : (t.size : Int) + sm (dl (bl t) (bl s)) s.size = D := by rw [hall, HLX.out]
            have HF := Lib.hid hfin
            clear hall hfin
            go_wp2_with (fail)
            go_ret
            exact ⟨ret_int HF.out, hB⟩
      · rw [show (((p + 1 : Nat) : Int) - 1) = (p : Int) from by omega]
        have hpp : p * 64 < t.size := by omega
        obtain ⟨hs0, hs64⟩ := pt_size t p hpp
        have hpart := fun W => part_any t (by omega) p hpp W
        have hclimb : Calls Try.prog 57 #[.string (pt t p), .string s, .slice (some ⟨g, 0, none⟩) s.size s.size] wr (Climbed g s.size (dl (bl (pt t p) ++ (bl t).drop ((p + 1) * 64)) (bl s)) wr) := climb_any (pt t p) s ((bl t).drop ((p + 1) * 64)) hs0 hs64 (by omega) g s.size (Nat.le_refl _) wr hrow
        rw [pt_bl] at hclimb
        have HPART := Lib.hid hpart
        have HCL := Lib.hid hclimb
        have hge := hrow.lt
        clear hpart hclimb hrow
        go_wp2_with (fail)
        refine (HPART.out _).mono ?_
        rintro e w4 ⟨rfl, rfl⟩
        go_wp2_with (fail)
        refine HCL.out.mono ?_
        rintro e w5 ⟨rfl, hg5, hrow5⟩
        have hB5 := hB.grown hg5 hB.size (fun k hk => by injection hk with hk; subst hk; exact hgw)
        have HR5 := Lib.hid hrow5
        clear HPART HCL hg5 hrow5
        go_wp2_with (fail)
        go_roundw
        case rel => exact ⟨p, by omega, rfl, HR5.out, hB5⟩
        case measure => simp [intOf]
  · have d0 : decide (s.size < t.size) = false := decide_eq_false hlt
    have HLX : Hid (L (bl s) (bl t) = D) := HL
    have hlast := last_any t (by omega) (w.drewN n1)
    have hparts := fun W => parts_any s (by omega) W
    obtain ⟨P, hP⟩ : ∃ P, P = (s.size + 63) / 64 := ⟨_, rfl⟩
    rw [← hP] at hparts
    have hP1 : P * 64 ≤ s.size + 63 := by omega
    have hP2 : s.size ≤ P * 64 := by omega
    have HLAST := Lib.hid hlast
    have HPARTS := Lib.hid hparts
    clear hlast hparts hP HL
    go_wp2_with (fail)
    refine HLAST.out.mono ?_
    rintro e w2 ⟨g, rfl, hg, hrow, hb2⟩
    have hB2 : Below w.heap.size w w2 := (below_drewN' (Below.refl _ _) n1).trans hb2
    have hrow2 : Row w2 g t.size (dl ((bl s).drop (P * 64)) (bl t)) := hrow.congr fun i hi => by rw [drop_nil hP2, dl_nil _ _ (by rw [bl_len]; exact hi)]
    have hgw : w.heap.size ≤ g := hg
    have HROW := Lib.hid hrow2
    clear hrow hrow2 hb2 HLAST hg
    go_wp2_with (fail)
    refine (HPARTS.out _).mono ?_
    rintro e w3 ⟨rfl, rfl⟩
    clear HPARTS
    go_wp2_with (fail)
    go_loopw [6] (fun v wr => ∃ p : Nat, p ≤ P ∧ v = .int .i64 ((p : Int) - 1) ∧ Row wr g t.size (dl ((bl s).drop (p * 64)) (bl t)) ∧ Below w.heap.size w wr) (fun v _ => (intOf v + 1).toNat)
    case atStart => exact ⟨P, Nat.le_refl _, rfl, HROW.out, hB2⟩
    case round =>
      obtain ⟨p, hp, rfl, hrow, hB⟩ := hrel
      rcases p with _ | p
      · rw [show (((0 : Nat) : Int) - 1) = -1 from rfl]
        have hrow0 : Row wr g t.size (dl (bl s) (bl t)) := by simpa using hrow
        have HR0 := Lib.hid hrow0
        clear hrow hrow0
        go_wp2_with (fail)
        go_loop [7, 42] (fun v i => ∃ k : Nat, k ≤ t.size ∧ i = .int .i64 k ∧ v = .int .i64 ((s.size : Int) + sm (dl (bl s) (bl t)) k)) (fun _ i => t.size - (intOf i).toNat)
        case atStart => exact ⟨0, Nat.zero_le _, rfl, by simp [sm]⟩
        case round =>
          obtain ⟨k, hk, rfl, rfl⟩ := hrel
          have hz := sm_bd (bl s) (bl t) k
          by_cases hlt : k < t.size
          · have hc := HR0.out.cell hlt
            have hd := dl_bd (bl s) (bl t) k
            have hsu : sm (dl (bl s) (bl t)) (k + 1) = sm (dl (bl s) (bl t)) k + dl (bl s) (bl t) k := rfl
            have HSU := Lib.hid hsu
            clear hsu
            generalize dl (bl s) (bl t) k = x at *
            generalize hzz : sm (dl (bl s) (bl t)) k = z at *
            have HZZ := Lib.hid hzz
            clear hzz
            go_wp2_with (fail)
            go_round
            case rel => exact ⟨k + 1, by omega, by go_num, by rw [HSU.out]; go_num⟩
            case measure => simp [intOf]; omega
          · obtain rfl : k = t.size := by omega
            have hall := sm_all (bl s) (bl t)
            rw [bl_len, bl_len] at hall
            have hfin : (s.size : Int) + sm (dl (bl s) (bl t)) t.size = D := by rw [hall, HLX.out]
            have HF := Lib.hid hfin
            clear hall hfin
            go_wp2_with (fail)
            go_ret
            exact ⟨ret_int HF.out, hB⟩
      · rw [show (((p + 1 : Nat) : Int) - 1) = (p : Int) from by omega]
        have hpp : p * 64 < s.size := by omega
        obtain ⟨hs0, hs64⟩ := pt_size s p hpp
        have hpart := fun W => part_any s (by omega) p hpp W
        have hclimb : Calls Try.prog 57 #[.string (pt s p), .string t, .slice (some ⟨g, 0, none⟩) t.size t.size] wr (Climbed g t.size (dl (bl (pt s p) ++ (bl s).drop ((p + 1) * 64)) (bl t)) wr) := climb_any (pt s p) t ((bl s).drop ((p + 1) * 64)) hs0 hs64 (by omega) g t.size (Nat.le_refl _) wr hrow
        rw [pt_bl] at hclimb
        have HPART := Lib.hid hpart
        have HCL := Lib.hid hclimb
        have hge := hrow.lt
        clear hpart hclimb hrow
        go_wp2_with (fail)
        refine (HPART.out _).mono ?_
        rintro e w4 ⟨rfl, rfl⟩
        go_wp2_with (fail)
        refine HCL.out.mono ?_
        rintro e w5 ⟨rfl, hg5, hrow5⟩
        have hB5 := hB.grown hg5 hB.size (fun k hk => by injection hk with hk; subst hk; exact hgw)
        have HR5 := Lib.hid hrow5
        clear HPART HCL hg5 hrow5
        go_wp2_with (fail)
        go_roundw
        case rel => exact ⟨p, by omega, rfl, HR5.out, hB5⟩
        case measure => simp [intOf]
end Go.Proofs.Ytaamlidflfdjkaa.lev
/-
  The contracts of lev.Least and of the document's own count and Least; lev.Upto.
-/
namespace Go.Proofs.Ytaamlidflfdjkaa.lev
open Go.RowKit law bytes
set_option linter.unusedVariables false

/-- block g holds just n ints -/
def IRow (w : World) (g n : Nat) (f : Nat → Nat) : Prop := ∃ (t : TypeId) (cs : Array Value), Blk w g t cs ∧ cs.size = n ∧ ∀ i, i < n → cs[i]? = some (.int .i64 (f i : Nat))
section
variable {w w' : World} {g n : Nat} {f f' : Nat → Nat}
theorem IRow.lt (h : IRow w g n f) : g < w.heap.size := by obtain ⟨t, cs, h, _⟩ := h; exact h.lt
theorem IRow.cell (h : IRow w g n f) {i : Nat} (hi : i < n) : w.cell? ⟨g, i, none⟩ = some (.int .i64 (f i : Nat)) := by
  obtain ⟨t, cs, h, hs, hc⟩ := h; exact (h.cell i).trans (hc i hi)
theorem IRow.frozen (h : IRow w g n f) (i : Nat) : w.frozen? ⟨g, i, none⟩ = false := by obtain ⟨t, cs, h, _⟩ := h; exact h.frozen i
theorem IRow.congr (h : IRow w g n f) (hf : ∀ i, i < n → f i = f' i) : IRow w g n f' := by
  obtain ⟨t, cs, h, hs, hc⟩ := h; exact ⟨t, cs, h, hs, fun i hi => by rw [← hf i hi]; exact hc i hi⟩
theorem IRow.set_ (h : IRow w g n f) {i : Nat} (hi : i < n) (x : Nat) (hf : ∀ k, k ≠ i → f' k = f k) (hx : f' i = x) (v : Value) (hv : v = .int .i64 (x : Int)) : IRow (w.setCell ⟨g, i, none⟩ v) g n f' := by
  subst hv
  obtain ⟨t, cs, h, hs, hc⟩ := h
  refine ⟨t, _, h.set_ i _, by simpa using hs, fun k hk => ?_⟩
  rw [Array.getElem?_setIfInBounds]
  by_cases e : i = k
  · subst e; rw [if_pos rfl, if_pos (by omega), hx]
  · rw [if_neg e, hf k (fun h => e h.symm)]; exact hc k hk
end
theorem bl_take_succ (s : ByteArray) (k : Nat) (h : k < s.size) : (bl s).take (k + 1) = (bl s).take k ++ [s[k]'h] := by
  rw [List.take_succ_eq_append_getElem (by rw [bl_len]; exact h)]; rfl
theorem ct_le (c : Nat) (l : List UInt8) : ct c l ≤ l.length := by
  induction l with
  | nil => simp [ct]
  | cons x l ih => rw [ct, List.length_cons]; split <;> omega
theorem ct_take (c k : Nat) (s : ByteArray) : ct c ((bl s).take k) ≤ k := Nat.le_trans (ct_le _ _) (List.length_take_le _ _)
def zci : Array Value := Array.replicate 256 (.int .i64 0)
theorem zci_row (w : World) (t : TypeId) : IRow (w.alloc (.cells zci t)) w.heap.size 256 (fun _ => 0) := by
  refine ⟨t, zci, Blk.new w t zci, by simp [zci], fun i hi => ?_⟩
  unfold zci
  rw [Array.getElem?_replicate, if_pos hi]
  rfl

/-! ### the document's own -/
end Go.Proofs.Ytaamlidflfdjkaa.lev
/-
  The contract of the document's own Least.
-/
namespace Go.Proofs.Ytaamlidflfdjkaa.lev
open Go.RowKit law bytes
set_option linter.unusedVariables false

end Go.Proofs.Ytaamlidflfdjkaa.lev
/-
  The contract of the document's own Dist: cell by cell of the whole table.
-/
namespace Go.Proofs.Ytaamlidflfdjkaa.lev
open Go.RowKit law bytes
set_option linter.unusedVariables false

theorem intE : Elem Try.prog 3 (.int .i64 0) 8 := elem_mk (by kernel_rfl) (by decide)
theorem rowE : Elem Try.prog 39 (.slice none 0 0) 24 := elem_mk (by kernel_rfl) (by decide)
def nv (l : List Nat) : List Value := l.map fun (n : Nat) => Value.int .i64 (n : Int)
theorem nv_length (l : List Nat) : (nv l).length = l.length := by simp [nv]
theorem nv_append (l m : List Nat) : nv (l ++ m) = nv l ++ nv m := by simp [nv]
theorem nv_one (n : Nat) : nv [n] = [.int .i64 (n : Int)] := rfl
theorem own_alloc' {w w' : World} {base : Nat} {e : TypeId} {size n : Nat} {v : Value} {xs : List Value} (h : w.ownsRow base e size v n xs) (hh : w'.heap = w.heap) (o : Obj) : (w'.alloc o).ownsRow base e size v n xs := by
  have h2 : w'.ownsRow base e size v n xs := by
    refine ⟨h.1, ?_⟩
    rw [hh]
    exact h.2
  exact h2.alloc o

theorem min3 {Q : Program} (W : World) (ts : Array TypeId) (t : TypeId) (x y z : Int) : (Builtin.min_ ts t #[.int .i64 x, .int .i64 y, .int .i64 z]).run Q W = .ok (.int .i64 (min x (min y z))) W := by
  have e : (if z < (if y < x then y else x) then z else (if y < x then y else x)) = min x (min y z) := by
    split <;> split <;> omega
  rw [run_min_int3, e]
/-- the table: prefix by prefix -/
def P (a b : List UInt8) (i k : Nat) : Nat := L (a.take i).reverse (b.take k).reverse
theorem P_row (a b : List UInt8) (i : Nat) (hi : i ≤ a.length) : P a b i 0 = i := by unfold P; rw [List.take_zero, List.reverse_nil, L_nil', List.length_reverse, List.length_take]; omega
theorem P_col (a b : List UInt8) (k : Nat) (hk : k ≤ b.length) : P a b 0 k = k := by unfold P; rw [List.take_zero, List.reverse_nil, L_nil, List.length_reverse, List.length_take]; omega
theorem P_rec (a b : List UInt8) (i k : Nat) (hi : i < a.length) (hk : k < b.length) :
    P a b (i + 1) (k + 1) = min (P a b i k + ne a[i] b[k]) (min (P a b i (k + 1) + 1) (P a b (i + 1) k + 1)) := by
  unfold P
  rw [List.take_succ_eq_append_getElem hi, List.take_succ_eq_append_getElem hk, List.reverse_append, List.reverse_append]
  exact L_cons _ _ _ _
theorem P_all (a b : List UInt8) : P a b a.length b.length = L a b := by unfold P; rw [List.take_length, List.take_length, L_reverse]
theorem P_bd (a b : List UInt8) (i k : Nat) : P a b i k ≤ max i k := by
  unfold P
  have := L_max (a.take i).reverse (b.take k).reverse
  rw [List.length_reverse, List.length_reverse] at this
  have h1 := List.length_take_le i a
  have h2 := List.length_take_le k b
  omega
/-- the first k of a row -/
def pr (a b : List UInt8) (i k : Nat) : List Nat := (List.range k).map (P a b i)
theorem pr_succ (a b : List UInt8) (i k : Nat) : nv (pr a b i (k + 1)) = nv (pr a b i k) ++ [.int .i64 (P a b i k : Int)] := by
  unfold pr; rw [List.range_succ, List.map_append, nv_append]; rfl
theorem pr_at (a b : List UInt8) (i k j : Nat) (hj : j < k) : (nv (pr a b i k))[j]? = some (.int .i64 (P a b i j : Int)) := by
  unfold pr nv
  rw [List.getElem?_map, List.getElem?_map, List.getElem?_range hj]
  rfl

/-- block g begins with n ints -/
def ICells (w : World) (g n : Nat) (f : Nat → Nat) : Prop := ∃ (t : TypeId) (cs : Array Value), Blk w g t cs ∧ ∀ i, i < n → cs[i]? = some (.int .i64 (f i : Nat))
section
variable {w w' : World} {g n : Nat} {f : Nat → Nat}
theorem ICells.lt (h : ICells w g n f) : g < w.heap.size := by obtain ⟨t, cs, h, _⟩ := h; exact h.lt
theorem ICells.keep (h : ICells w g n f) (e : w'.heap[g]? = w.heap[g]?) : ICells w' g n f := by obtain ⟨t, cs, h, r⟩ := h; exact ⟨t, cs, h.keep e, r⟩
theorem ICells.cell (h : ICells w g n f) {i : Nat} (hi : i < n) : w.cell? ⟨g, i, none⟩ = some (.int .i64 (f i : Nat)) := by
  obtain ⟨t, cs, h, hc⟩ := h; exact (h.cell i).trans (hc i hi)
end
theorem ICells.of_own {w : World} {base : Nat} {e : TypeId} {n c : Nat} {g : Nat} {a b : List UInt8} {i : Nat} (h : w.ownsRow base e 1 (.slice (some ⟨g, 0, none⟩) n c) n (nv (pr a b i n))) (hn : 0 < n) : ICells w g n (P a b i) := by
  rcases h.2 with ⟨h', _⟩ | ⟨g', cap, cur, hv, hb, hh, hnc, hcm, hcs, ht⟩
  · cases h'
  · injection hv with hg
    injection hg with hg
    injection hg with hg
    subst hg
    refine ⟨e, cur, hh, fun j hj => ?_⟩
    have := pr_at a b i n j hj
    rw [← ht, List.getElem?_take, if_pos (by omega)] at this
    rw [← Array.getElem?_toList]
    exact this
/-- the last row of a table of i rows -/
def Last (w : World) (base : Nat) (v : Value) (ts : List Value) (i m : Nat) (a b : List UInt8) : Prop :=
  i = 0 ∨ ∃ g c i', i = i' + 1 ∧ ts[i']? = some (.slice (some ⟨g, 0, none⟩) m c) ∧ m ≤ c ∧ base ≤ g ∧ ICells w g m (P a b i') ∧ v.ownBlock ≠ some g

theorem last_next {w0 wr w4 : World} {base i c m cr : Nat} {A R : Option Addr} {ts : List Value} {v4 : Value} {e1 e2 : TypeId} {a b : List UInt8} (hown : w0.ownsRow base e1 1 (.slice A i c) i ts) (hbase : base ≤ w0.heap.size)
    (hrow : wr.ownsRow w0.heap.size e2 1 (.slice R m cr) m (nv (pr a b i m))) (hm : 0 < m) (hB : Below w0.heap.size w0 wr) (o : Obj) (hg4 : (wr.alloc o).grownBy w4 (Value.slice A i c).ownBlock)
    (hat4 : v4.ownBlock = (Value.slice A i c).ownBlock ∨ v4.ownBlock = some (wr.alloc o).heap.size) : Last w4 base v4 (ts ++ [.slice R m cr]) (i + 1) m a b := by
  obtain ⟨g, c', hv, hgb, hgl, hmc⟩ := own_form hrow hm
  injection hv with hR _ hc
  subst hR
  subst hc
  have hts : ts.length = i := by have := hown.1; omega
  have hne : (Value.slice A i c).ownBlock ≠ some g := fun e => by have := (hown.lt g e).2; omega
  refine .inr ⟨g, cr, i, rfl, ?_, hmc, by omega, ?_, ?_⟩
  · rw [List.getElem?_append_right (by omega), hts, Nat.sub_self]; rfl
  · refine (ICells.of_own hrow hm).keep ?_
    rw [hg4.block g (by simp; omega) (fun e => hne e.symm), Below.heap_alloc wr o g hgl]
  · rcases hat4 with h | h
    · rw [h]; exact hne
    · rw [h]; simp; omega
set_option maxHeartbeats 3200000 in
set_option maxRecDepth 100000 in
theorem rdist_any (a b : ByteArray) (ha : a.size ≤ 1048576) (hb : b.size ≤ 1048576) (w : World) :
    Calls Try.prog 36 #[.string a, .string b] w (Tells (.int .i64 (L (bl a) (bl b))) w) := by
  obtain ⟨D, hD⟩ : ∃ D, D = L (bl a) (bl b) := ⟨_, rfl⟩
  rw [← hD]
  obtain ⟨m, hm⟩ : ∃ m, m = b.size + 1 := ⟨_, rfl⟩
  have HD := Lib.hid hD
  have HM := Lib.hid hm
  have hm1 : 1 ≤ m := by omega
  have hm2 : m ≤ 1048577 := by omega
  have hmb : b.size < m := by omega
  clear hD hm
  go_enter Try.func36, Try.ntmps36
  go_wp2_with (fail)
  go_loopw [5, 6] (fun t i wr => ∃ (k c : Nat) (A : Option Addr) (ts : List Value), k ≤ a.size + 1 ∧ i = .int .i64 k ∧ t = .slice A k c ∧ wr.ownsRow w.heap.size 39 1 (.slice A k c) k ts ∧ Last wr w.heap.size (.slice A k c) ts k m (bl a) (bl b) ∧ Below w.heap.size w wr) (fun _ i _ => a.size + 1 - (intOf i).toNat)
  case atStart => exact ⟨0, 0, none, [], Nat.zero_le _, rfl, rfl, World.ownsRow_nil _ _ _ _, .inl rfl, Below.refl _ _⟩
  case round =>
    obtain ⟨w0, hw0⟩ : ∃ w0 : World, w0 = wr := ⟨_, rfl⟩
    subst hw0
    obtain ⟨i, c, A, ts, hi, rfl, rfl, hown, hlast, hB⟩ := hrel
    by_cases hlt : i ≤ a.size
    · have HOWN := Lib.hid hown
      have HLAST := Lib.hid hlast
      have HB := Lib.hid hB
      clear hown hlast hB
      rcases Nat.eq_zero_or_pos i with hi0 | hi0
      · have d1 : decide (0 < i) = false := decide_eq_false (by omega)
        have hcol : ∀ k, k ≤ b.size → ((i : Int) + (k : Int)) = (P (bl a) (bl b) i k : Int) := fun k hk => by rw [hi0, P_col _ _ _ (by rw [bl_len]; exact hk)]; simp
        have HCOL := Lib.hid hcol
        have HI0 := Lib.hid hi0
        clear hcol hi0
        go_wp2_with (fail)
        go_loopw [7, 8] (fun v j wi => ∃ (k cr : Nat) (R : Option Addr), k ≤ m ∧ j = .int .i64 k ∧ v = .slice R k cr ∧ wi.ownsRow w0.heap.size 3 1 (.slice R k cr) k (nv (pr (bl a) (bl b) i k)) ∧ Below w0.heap.size w0 wi) (fun _ j _ => m - (intOf j).toNat)
        case atStart => exact ⟨0, 0, none, Nat.zero_le _, rfl, rfl, World.ownsRow_nil _ _ _ _, Below.refl _ _⟩
        case round =>
          obtain ⟨k, cr, R, hk, rfl, rfl, hrown, hBi⟩ := hrel
          by_cases hkm : k ≤ b.size
          · have HVAL := Lib.hid (HCOL.out k hkm)
            go_wp2_with (at_builtin
                         refine wpList_append_sl _ rfl (.tmp 68) (.tmp 70) _ rfl w0.heap.size 3 _ 8 Try.underlying39 intE (.slice R k cr) k (nv (pr (bl a) (bl b) i k)) rfl (own_alloc' hrown rfl _) _ _ 1 1 [.int .i64 ((i : Int) + (k : Int))] rfl (Sl.one _ _ _) rfl (by simp [Value.oneCell']) (by omega) (by unfold maxLen; omega) (by have := hBi.size; simp; omega) ?_
                         intro v4 w4 hown4 hg4 hat4
                         obtain ⟨A4, c4, rfl, hc4⟩ := own_slice hown4)
            go_roundw
            case rel => exact ⟨k + 1, c4, A4, by omega, by go_num, rfl, by rw [pr_succ, ← HVAL.out]; exact hown4, below_append (below_drewN' hBi 0) (by have := hBi.size; exact this) _ hrown (Nat.le_refl _) hg4⟩
            case measure => simp [intOf]; omega

          · obtain rfl : k = m := by rw [HM.out]; rw [HM.out] at hk; omega
            have hownr := own_below HOWN.out hBi (Nat.le_refl _)
            have hBw := HB.out.trans (hBi.mono HB.out.size)
            have hszw := hBw.size
            have hszi := hBi.size
            go_wp2_with (at_builtin
                         refine wpList_append_sl _ rfl (.tmp 72) (.tmp 74) _ rfl w.heap.size 39 _ 24 Try.underlying101 rowE (.slice A i c) i ts rfl (own_alloc' hownr rfl _) _ _ 1 1 [.slice R k cr] rfl (Sl.one _ _ _) rfl (by simp [Value.oneCell']) (by omega) (by unfold maxLen; omega) (by simp; omega) ?_
                         intro v4 w4 hown4 hg4 hat4
                         obtain ⟨A4, c4, rfl, hc4⟩ := own_slice hown4)
            go_roundw
            case rel => exact ⟨i + 1, c4, A4, ts ++ [.slice R k cr], by omega, by go_num, rfl, hown4, last_next HOWN.out HB.out.size hrown hm1 hBi _ hg4 hat4, below_append hBw hszw _ hownr (Nat.le_refl _) hg4⟩
            case measure => simp [intOf]; omega
      · obtain ⟨g, c', i', hi', hts, hmc, hgb, hic, hne⟩ : ∃ g c' i', i = i' + 1 ∧ ts[i']? = some (.slice (some ⟨g, 0, none⟩) m c') ∧ m ≤ c' ∧ w.heap.size ≤ g ∧ ICells w0 g m (P (bl a) (bl b) i') ∧ (Value.slice A i c).ownBlock ≠ some g := by
          rcases HLAST.out with h | h
          · omega
          · exact h
        obtain ⟨gt, ct', htv, hgtb, hgtl, hgtc⟩ := own_form HOWN.out hi0
        injection htv with hA _ hc
        subst hA
        subst hc
        have hia : i' < a.size := by omega
        have hii : i' < i := by omega
        have hct : w0.cell? ⟨gt, i', none⟩ = some (.slice (some ⟨g, 0, none⟩) m c') := (HOWN.out.cellAt i' (by omega)).trans hts
        have hw1 : IntKind.i64.wrap ((i : Int) - 1) = (i' : Int) := by rw [IntKind.wrap_i64]; omega
        have hv1 : (i : Int) - 1 = (i' : Int) := by omega
        have HI := Lib.hid hi'
        have CT := Lib.hid hct
        have HIC := Lib.hid hic
        clear hi' hct hic hts hne
        go_wp2_with (fail)
        go_loopw [7, 8] (fun v j wi => ∃ (k cr : Nat) (R : Option Addr), k ≤ m ∧ j = .int .i64 k ∧ v = .slice R k cr ∧ wi.ownsRow w0.heap.size 3 1 (.slice R k cr) k (nv (pr (bl a) (bl b) i k)) ∧ Below w0.heap.size w0 wi) (fun _ j _ => m - (intOf j).toNat)
        case atStart => exact ⟨0, 0, none, Nat.zero_le _, rfl, rfl, World.ownsRow_nil _ _ _ _, Below.refl _ _⟩
        case round =>
          obtain ⟨k, cr, R, hk, rfl, rfl, hrown, hBi⟩ := hrel
          by_cases hkm : k ≤ b.size
          · rcases Nat.eq_zero_or_pos k with hk0 | hk0
            · have d2 : decide (0 < k) = false := decide_eq_false (by omega)
              have hval : ((i : Int) + (k : Int)) = (P (bl a) (bl b) i k : Int) := by rw [hk0, P_row _ _ _ (by rw [bl_len]; omega)]; simp
              have HVAL := Lib.hid hval
              have HK0 := Lib.hid hk0
              clear hval hk0
              go_wp2_with (at_builtin
                           refine wpList_append_sl _ rfl (.tmp 68) (.tmp 70) _ rfl w0.heap.size 3 _ 8 Try.underlying39 intE (.slice R k cr) k (nv (pr (bl a) (bl b) i k)) rfl (own_alloc' hrown rfl _) _ _ 1 1 [.int .i64 ((i : Int) + (k : Int))] rfl (Sl.one _ _ _) rfl (by simp [Value.oneCell']) (by omega) (by unfold maxLen; omega) (by have := hBi.size; simp; omega) ?_
                           intro v4 w4 hown4 hg4 hat4
                           obtain ⟨A4, c4, rfl, hc4⟩ := own_slice hown4)
              go_roundw
              case rel => exact ⟨k + 1, c4, A4, by omega, by go_num, rfl, by rw [pr_succ, ← HVAL.out]; exact hown4, below_append (below_drewN' hBi 0) (by have := hBi.size; exact this) _ hrown (Nat.le_refl _) hg4⟩
              case measure => simp [intOf]; omega
            · obtain ⟨k', hk'⟩ : ∃ k', k = k' + 1 := ⟨k - 1, by omega⟩
              have hkb : k' < b.size := by omega
              have hkk : k' < k := by omega
              have hkm1 : k' < m := by omega
              have hkm2 : k < m := by omega
              have hw2 : IntKind.i64.wrap ((k : Int) - 1) = (k' : Int) := by rw [IntKind.wrap_i64]; omega
              have hv2 : (k : Int) - 1 = (k' : Int) := by omega
              have hrec : P (bl a) (bl b) i k = min (P (bl a) (bl b) i' k' + ne (a[i']'hia) (b[k']'hkb)) (min (P (bl a) (bl b) i' k + 1) (P (bl a) (bl b) i k' + 1)) := by
                rw [HI.out, hk']; exact P_rec (bl a) (bl b) i' k' (by rw [bl_len]; exact hia) (by rw [bl_len]; exact hkb)
              obtain ⟨gr, cr', hrv, hgrb, hgrl, hgrc⟩ := own_form hrown (by omega)
              injection hrv with hR _ hc
              subst hR
              subst hc
              have cr1 : wr.cell? ⟨gr, k', none⟩ = some (.int .i64 (P (bl a) (bl b) i k' : Int)) := (hrown.cellAt k' (by omega)).trans (pr_at _ _ _ _ _ hkk)
              have ct1 : wr.cell? ⟨gt, i', none⟩ = some (.slice (some ⟨g, 0, none⟩) m c') := (hBi.cell (p := ⟨gt, i', none⟩) hgtl).trans CT.out
              have cg1 : wr.cell? ⟨g, k', none⟩ = some (.int .i64 (P (bl a) (bl b) i' k' : Int)) := (hBi.cell (p := ⟨g, k', none⟩) HIC.out.lt).trans (HIC.out.cell (by omega))
              have cg2 : wr.cell? ⟨g, k, none⟩ = some (.int .i64 (P (bl a) (bl b) i' k : Int)) := (hBi.cell (p := ⟨g, k, none⟩) HIC.out.lt).trans (HIC.out.cell (by omega))
              have bx := P_bd (bl a) (bl b) i' k'
              have by' := P_bd (bl a) (bl b) i' k
              have bz := P_bd (bl a) (bl b) i k'
              have hxb : P (bl a) (bl b) i' k' ≤ 1048577 := by omega
              have hyb : P (bl a) (bl b) i' k ≤ 1048577 := by omega
              have hzb : P (bl a) (bl b) i k' ≤ 1048577 := by omega
              have hrb : P (bl a) (bl b) i k ≤ 1048577 := by have := P_bd (bl a) (bl b) i k; omega
              clear bx by' bz
              obtain ⟨r, hr⟩ : ∃ r, r = P (bl a) (bl b) i k := ⟨_, rfl⟩
              have HVAL : Hid ((r : Int) = (P (bl a) (bl b) i k : Int)) := Lib.hid (by rw [hr])
              rw [← hr] at hrec hrb
              generalize P (bl a) (bl b) i' k' = x at *
              generalize P (bl a) (bl b) i' k = y at *
              generalize P (bl a) (bl b) i k' = z at *
              have hwx : IntKind.i64.wrap ((x : Int) + 1) = (x : Int) + 1 := by rw [IntKind.wrap_i64]; omega
              have hwy : IntKind.i64.wrap ((y : Int) + 1) = (y : Int) + 1 := by rw [IntKind.wrap_i64]; omega
              have hwz : IntKind.i64.wrap ((z : Int) + 1) = (z : Int) + 1 := by rw [IntKind.wrap_i64]; omega
              by_cases he : a[i']'hia = b[k']'hkb
              · obtain ⟨q1, q2⟩ := eq_get hia hkb he
                rw [he, ne_same, Nat.add_zero] at hrec
                have hmin : ∀ W, (Builtin.min_ #[3, 3, 3] 3 #[.int .i64 x, .int .i64 ((y : Int) + 1), .int .i64 ((z : Int) + 1)]).run Try.prog W = .ok (.int .i64 r) W := fun W => by
                  rw [min3]; congr 2; omega
                have HK' := Lib.hid hk'
                clear hk' hrec he hr
                go_wp2_with (fail)
                go_quiet (fail)
                go_wp2_with (fail)
                go_quiet (fail)
                go_wp2_with (at_builtin
                             refine wpList_append_sl _ rfl (.tmp 68) (.tmp 70) _ rfl w0.heap.size 3 _ 8 Try.underlying39 intE (.slice (some ⟨gr, 0, none⟩) k cr) k (nv (pr (bl a) (bl b) i k)) rfl (own_alloc' hrown rfl _) _ _ 1 1 [.int .i64 (r : Int)] rfl (Sl.one _ _ _) rfl (by simp [Value.oneCell']) (by omega) (by unfold maxLen; omega) (by have := hBi.size; simp; omega) ?_
                             intro v4 w4 hown4 hg4 hat4
                             obtain ⟨A4, c4, rfl, hc4⟩ := own_slice hown4)
                go_roundw
                case rel => exact ⟨k + 1, c4, A4, by omega, by go_num, rfl, by rw [pr_succ, ← HVAL.out]; exact hown4, below_append (below_drewN' hBi _) (by have := hBi.size; exact this) _ hrown (Nat.le_refl _) hg4⟩
                case measure => simp [intOf]; omega
              · obtain ⟨q1, q2⟩ := ne_get hia hkb he
                rw [show ne (a[i']'hia) (b[k']'hkb) = 1 from if_neg he] at hrec
                have hmin : ∀ W, (Builtin.min_ #[3, 3, 3] 3 #[.int .i64 ((x : Int) + 1), .int .i64 ((y : Int) + 1), .int .i64 ((z : Int) + 1)]).run Try.prog W = .ok (.int .i64 r) W := fun W => by
                  rw [min3]; congr 2; omega
                have HK' := Lib.hid hk'
                clear hk' hrec he hr
                go_wp2_with (fail)
                go_quiet (fail)
                go_wp2_with (fail)
                go_quiet (fail)
                go_wp2_with (at_builtin
                             refine wpList_append_sl _ rfl (.tmp 68) (.tmp 70) _ rfl w0.heap.size 3 _ 8 Try.underlying39 intE (.slice (some ⟨gr, 0, none⟩) k cr) k (nv (pr (bl a) (bl b) i k)) rfl (own_alloc' hrown rfl _) _ _ 1 1 [.int .i64 (r : Int)] rfl (Sl.one _ _ _) rfl (by simp [Value.oneCell']) (by omega) (by unfold maxLen; omega) (by have := hBi.size; simp; omega) ?_
                             intro v4 w4 hown4 hg4 hat4
                             obtain ⟨A4, c4, rfl, hc4⟩ := own_slice hown4)
                go_roundw
                case rel => exact ⟨k + 1, c4, A4, by omega, by go_num, rfl, by rw [pr_succ, ← HVAL.out]; exact hown4, below_append (below_drewN' hBi _) (by have := hBi.size; exact this) _ hrown (Nat.le_refl _) hg4⟩
                case measure => simp [intOf]; omega
          · obtain rfl : k = m := by rw [HM.out]; rw [HM.out] at hk; omega
            have hownr := own_below HOWN.out hBi (Nat.le_refl _)
            have hBw := HB.out.trans (hBi.mono HB.out.size)
            have hszw := hBw.size
            have hszi := hBi.size
            go_wp2_with (at_builtin
                         refine wpList_append_sl _ rfl (.tmp 72) (.tmp 74) _ rfl w.heap.size 39 _ 24 Try.underlying101 rowE (.slice (some ⟨gt, 0, none⟩) i c) i ts rfl (own_alloc' hownr rfl _) _ _ 1 1 [.slice R k cr] rfl (Sl.one _ _ _) rfl (by simp [Value.oneCell']) (by omega) (by unfold maxLen; omega) (by simp; omega) ?_
                         intro v4 w4 hown4 hg4 hat4
                         obtain ⟨A4, c4, rfl, hc4⟩ := own_slice hown4)
            go_roundw
            case rel => exact ⟨i + 1, c4, A4, ts ++ [.slice R k cr], by omega, by go_num, rfl, hown4, last_next HOWN.out HB.out.size hrown hm1 hBi _ hg4 hat4, below_append hBw hszw _ hownr (Nat.le_refl _) hg4⟩
            case measure => simp [intOf]; omega
    · obtain ⟨g, c', i', hi', hts, hmc, hgb, hic, hne⟩ : ∃ g c' i', i = i' + 1 ∧ ts[i']? = some (.slice (some ⟨g, 0, none⟩) m c') ∧ m ≤ c' ∧ w.heap.size ≤ g ∧ ICells w0 g m (P (bl a) (bl b) i') ∧ (Value.slice A i c).ownBlock ≠ some g := by
        rcases hlast with h | h
        · omega
        · exact h
      obtain ⟨gt, ct', htv, hgtb, hgtl, hgtc⟩ := own_form hown (by omega)
      injection htv with hA _ hc
      subst hA
      subst hc
      obtain rfl : i' = a.size := by omega
      have hct : w0.cell? ⟨gt, a.size, none⟩ = some (.slice (some ⟨g, 0, none⟩) m c') := (hown.cellAt a.size (by omega)).trans hts
      have hall : P (bl a) (bl b) a.size b.size = D := by have := P_all (bl a) (bl b); rw [bl_len, bl_len] at this; rw [this, HD.out]
      have hcg : w0.cell? ⟨g, b.size, none⟩ = some (.int .i64 (D : Int)) := by rw [hic.cell hmb, hall]
      have hii : a.size < i := by omega
      clear hts hlast hown hic hall hi' hne
      go_wp2_with (fail)
      go_ret
      exact ⟨rfl, hB⟩
end Go.Proofs.Ytaamlidflfdjkaa.lev
