/-
  Program-free: how near two things may be by what their rows of distances tell (the greatest difference at one place); that it is never more than how far they are apart.
-/
import Derived.Test.YtgbjpobgjmkjgaaGreatRows
namespace Go.Proofs.YtgbjpobgjmkjgaaGreat.lae
set_option linter.unusedVariables false

/-- a number brought between 0 and the greatest distance -/
def clip (a : Int) : Int := min (max a 0) 1125899906842624
/-- how far two numbers are apart -/
def ap (a b : Int) : Int := max (clip a - clip b) (clip b - clip a)
theorem ap_nonneg (a b : Int) : 0 ≤ ap a b := by unfold ap; omega
theorem ap_le {a b c : Int} (h1 : a - b ≤ c) (h2 : b - a ≤ c) (h0 : 0 ≤ c) : ap a b ≤ c := by unfold ap clip; omega
theorem ap_symm (a b : Int) : ap a b = ap b a := by unfold ap; omega
/-- the greatest difference at one place -/
def lw : List Int → List Int → Int
  | a :: l, b :: m => max (ap a b) (lw l m)
  | _, _ => 0
theorem lw_nil_left (m : List Int) : lw [] m = 0 := by cases m <;> rfl
theorem lw_nil_right (l : List Int) : lw l [] = 0 := by cases l <;> rfl
theorem lw_nonneg : ∀ l m : List Int, 0 ≤ lw l m
  | [], m => by rw [lw_nil_left]; omega
  | a :: l, [] => by rw [lw_nil_right]; omega
  | a :: l, b :: m => by have := lw_nonneg l m; have := ap_nonneg a b; simp only [lw]; omega
theorem lw_symm : ∀ l m : List Int, lw l m = lw m l
  | [], m => by rw [lw_nil_left, lw_nil_right]
  | a :: l, [] => by rw [lw_nil_left, lw_nil_right]
  | a :: l, b :: m => by simp only [lw]; rw [lw_symm l m, ap_symm]
/-- place by place, from the first one on -/
theorem lw_snoc : ∀ {l m : List Int} {k : Nat} {a b : Int}, l[k]? = some a → m[k]? = some b → lw (l.take (k + 1)) (m.take (k + 1)) = max (lw (l.take k) (m.take k)) (ap a b)
  | [], m, k, a, b, h1, h2 => by simp at h1
  | x :: l, [], k, a, b, h1, h2 => by simp at h2
  | x :: l, y :: m, 0, a, b, h1, h2 => by
    simp only [List.getElem?_cons_zero, Option.some.injEq] at h1 h2
    subst h1 h2
    have h0 := ap_nonneg x y
    simp [lw]
    omega
  | x :: l, y :: m, k + 1, a, b, h1, h2 => by
    simp only [List.getElem?_cons_succ] at h1 h2
    have ih := lw_snoc h1 h2
    simp only [List.take_succ_cons, lw]
    rw [ih]
    omega
/-- behind the shorter one's end nothing counts -/
theorem lw_min (l m : List Int) : lw l m = lw (l.take (min l.length m.length)) (m.take (min l.length m.length)) := by
  induction l generalizing m with
  | nil => simp [lw_nil_left]
  | cons a l ih =>
    cases m with
    | nil => simp [lw_nil_right]
    | cons b m =>
      have e : min (a :: l).length (b :: m).length = min l.length m.length + 1 := by simp only [List.length_cons]; omega
      rw [e, List.take_succ_cons, List.take_succ_cons]
      simp only [lw]
      rw [← ih m]
theorem lw_le {c : Int} (h0 : 0 ≤ c) : ∀ {l m : List Int}, (∀ (k : Nat) (a b : Int), l[k]? = some a → m[k]? = some b → a - b ≤ c ∧ b - a ≤ c) → lw l m ≤ c
  | [], m, h => by rw [lw_nil_left]; exact h0
  | a :: l, [], h => by rw [lw_nil_right]; exact h0
  | a :: l, b :: m, h => by
    have h1 := h 0 a b rfl rfl
    have h2 := lw_le h0 (l := l) (m := m) fun k x y hx hy => h (k + 1) x y hx hy
    have h3 := ap_le h1.1 h1.2 h0
    simp only [lw]
    omega
section
variable {α : Type} {d : α → α → Int}
/-- how far a thing is from each of some -/
def row (d : α → α → Int) (P : List α) (x : α) : List Int := P.map fun p => d x p
/-- THE TRIANGLE: by their rows no two things are farther than they are -/
theorem lw_row (hs : ∀ x y, d x y = d y x) (ht : ∀ x y z, d x y ≤ d x z + d z y) (hn : ∀ x y, 0 ≤ d x y) (P : List α) (x y : α) : lw (row d P x) (row d P y) ≤ d x y := by
  refine lw_le (hn x y) fun k a b ha hb => ?_
  unfold row at ha hb
  rw [List.getElem?_map] at ha hb
  cases hp : P[k]? with
  | none => rw [hp] at ha; cases ha
  | some p =>
    rw [hp] at ha hb
    simp only [Option.map_some, Option.some.injEq] at ha hb
    subst ha hb
    have h1 := ht x p y
    have h2 := ht y p x
    rw [hs y x] at h2
    exact ⟨by omega, by omega⟩
/-- what is left out for its row isn't near: the near ones by both tests are the near ones -/
theorem near_both (hs : ∀ x y, d x y = d y x) (ht : ∀ x y z, d x y ≤ d x z + d z y) (hn : ∀ x y, 0 ≤ d x y) (P l : List α) (q : α) (r : Int) :
    l.filter (fun x => decide (lw (row d P q) (row d P x) ≤ r) && decide (d q x ≤ r)) = l.filter fun x => decide (d q x ≤ r) := by
  refine List.filter_congr fun x _ => ?_
  have h := lw_row hs ht hn P q x
  by_cases e : d q x ≤ r
  · simp [e, Int.le_trans h e]
  · simp [e]
theorem row_snoc (P : List α) (p x : α) : row d (P ++ [p]) x = row d P x ++ [d x p] := by simp [row]
theorem row_length (P : List α) (x : α) : (row d P x).length = P.length := by simp [row]
end
end Go.Proofs.YtgbjpobgjmkjgaaGreat.lae
