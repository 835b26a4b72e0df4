/-
  Program-free: rows in stable order: sorted by a key, those of each key in the order in which they stood; what an exchange, a cut in the middle, a merge come to.
-/
import Derived.Test.YtcdjmgmombaiaaaRows
namespace Go.Proofs.Ytcdjmgmombaiaaa.stb
set_option linter.unusedVariables false

section
variable {α β : Type} {k : α → Int} {a b c d l m : List α}
/-- sorted by a key -/
def Srt (k : α → Int) (l : List α) : Prop := l.Pairwise fun x y => k x ≤ k y
/-- of each key the same ones, in the same order -/
def Eqf (k : α → Int) (l m : List α) : Prop := ∀ v, l.filter (fun x => k x == v) = m.filter (fun x => k x == v)
theorem Eqf.refl (l : List α) : Eqf k l l := fun _ => rfl
theorem Eqf.symm (h : Eqf k l m) : Eqf k m l := fun v => (h v).symm
theorem Eqf.trans (h : Eqf k a b) (h2 : Eqf k b c) : Eqf k a c := fun v => (h v).trans (h2 v)
theorem Eqf.append (h : Eqf k a b) (h2 : Eqf k c d) : Eqf k (a ++ c) (b ++ d) := fun v => by rw [List.filter_append, List.filter_append, h v, h2 v]
theorem Eqf.mem (h : Eqf k a b) (x : α) : x ∈ a ↔ x ∈ b := by
  have e : ∀ l : List α, x ∈ l ↔ x ∈ l.filter (fun y => k y == k x) := fun l => by simp
  rw [e a, e b, h]
theorem Eqf.swap (h : ∀ x ∈ a, ∀ y ∈ b, k x ≠ k y) : Eqf k (a ++ b) (b ++ a) := fun v => by
  rw [List.filter_append, List.filter_append]
  by_cases hv : ∃ x ∈ a, k x = v
  · obtain ⟨x, hx, rfl⟩ := hv
    have e : b.filter (fun y => k y == k x) = [] := List.filter_eq_nil_iff.2 fun y hy => by simpa using fun e => h x hx y hy e.symm
    rw [e]; simp
  · have e : a.filter (fun y => k y == v) = [] := List.filter_eq_nil_iff.2 fun y hy => by simpa using fun e => hv ⟨y, hy, e⟩
    rw [e]; simp
theorem Eqf.map {k' : β → Int} {f : α → β} (hf : ∀ x, k' (f x) = k x) (h : Eqf k a b) : Eqf k' (a.map f) (b.map f) := fun v => by
  have e : ((fun x => k' x == v) ∘ f) = fun x => k x == v := by funext x; simp [hf]
  rw [List.filter_map, List.filter_map, e, h v]
/-- in stable order -/
structure Stb (k : α → Int) (l m : List α) : Prop where
  srt : Srt k m
  eqf : Eqf k l m
  len : m.length = l.length
theorem Stb.of_srt (h : Srt k l) : Stb k l l := ⟨h, Eqf.refl _, rfl⟩
theorem Stb.of_eqf (h : Stb k l m) (e : Eqf k a l) (hl : l.length = a.length) : Stb k a m := ⟨h.srt, e.trans h.eqf, h.len.trans hl⟩
theorem srt_nil : Srt k [] := List.Pairwise.nil
theorem srt_append : Srt k (a ++ b) ↔ Srt k a ∧ Srt k b ∧ ∀ x ∈ a, ∀ y ∈ b, k x ≤ k y := List.pairwise_append
theorem srt_one (x : α) : Srt k [x] := List.pairwise_singleton _ _
theorem Stb.nil : Stb k ([] : List α) [] := Stb.of_srt srt_nil
theorem Stb.map {k' : β → Int} {f : α → β} (hf : ∀ x, k' (f x) = k x) (h : Stb k a b) : Stb k' (a.map f) (b.map f) := by
  refine ⟨?_, h.eqf.map hf, by simpa using h.len⟩
  unfold Srt
  rw [List.pairwise_map]
  refine h.srt.imp fun {x y} e => ?_
  rw [hf, hf]; exact e
/-- two rows in order, all of the one ahead of all of the other -/
theorem Stb.append (h : Stb k a b) (h2 : Stb k c d) (hle : ∀ x ∈ a, ∀ y ∈ c, k x ≤ k y) : Stb k (a ++ c) (b ++ d) :=
  ⟨srt_append.2 ⟨h.srt, h2.srt, fun x hx y hy => hle x ((h.eqf.mem x).2 hx) y ((h2.eqf.mem y).2 hy)⟩, h.eqf.append h2.eqf, by simp [h.len, h2.len]⟩
theorem srt_eq : ∀ {a b : List α}, Srt k a → Srt k b → Eqf k a b → a = b := by
  intro a
  induction a with
  | nil =>
    intro b _ _ h
    cases b with
    | nil => rfl
    | cons y b => have := (h.mem y).2 (by simp); simp at this
  | cons x a ih =>
    intro b ha hb h
    cases b with
    | nil => have := (h.mem x).1 (by simp); simp at this
    | cons y b =>
      have hx : k y ≤ k x := by
        have := (h.mem x).1 (by simp)
        rcases List.mem_cons.1 this with rfl | h1
        · exact Int.le_refl _
        · exact (List.pairwise_cons.1 hb).1 x h1
      have hy : k x ≤ k y := by
        have := (h.mem y).2 (by simp)
        rcases List.mem_cons.1 this with rfl | h1
        · exact Int.le_refl _
        · exact (List.pairwise_cons.1 ha).1 y h1
      have e : k x = k y := by omega
      have h1 := h (k x)
      rw [List.filter_cons_of_pos (by simp), List.filter_cons_of_pos (by simp [e])] at h1
      injection h1 with h1 h2
      subst h1
      rw [ih (List.pairwise_cons.1 ha).2 (List.pairwise_cons.1 hb).2 fun v => ?_]
      have h3 := h v
      by_cases hv : k x = v
      · subst hv; exact h2
      · rwa [List.filter_cons_of_neg (by simpa using hv), List.filter_cons_of_neg (by simpa using hv)] at h3
theorem Stb.eq (h : Stb k l a) (h2 : Stb k l b) : a = b := srt_eq h.srt h2.srt (h.eqf.symm.trans h2.eqf)
/-- one more, behind all that aren't greater -/
theorem Stb.put {D1 D2 : List α} {x : α} (h : Stb k l (D1 ++ D2)) (h1 : ∀ y ∈ D1, k y ≤ k x) (h2 : ∀ y ∈ D2, k x < k y) : Stb k (l ++ [x]) (D1 ++ x :: D2) := by
  obtain ⟨s1, s2, s3⟩ := srt_append.1 h.srt
  refine ⟨srt_append.2 ⟨s1, List.pairwise_cons.2 ⟨fun y hy => by have := h2 y hy; omega, s2⟩, fun y hy z hz => ?_⟩, ?_, by have := h.len; simp at this ⊢; omega⟩
  · rcases List.mem_cons.1 hz with rfl | hz
    · exact h1 y hy
    · exact s3 y hy z hz
  · refine (h.eqf.append (Eqf.refl [x])).trans ?_
    rw [List.append_assoc]
    exact (Eqf.refl D1).append (Eqf.swap (b := [x]) fun y hy z hz => by rw [List.mem_singleton.1 hz]; have := h2 y hy; omega)
/-! ### first and last parts of a sorted row -/
theorem srt_le {l : List α} (h : Srt k l) {i j : Nat} {x y : α} (hi : l[i]? = some x) (hj : l[j]? = some y) (hij : i ≤ j) : k x ≤ k y := by
  obtain ⟨h1, rfl⟩ := List.getElem?_eq_some_iff.1 hi
  obtain ⟨h2, rfl⟩ := List.getElem?_eq_some_iff.1 hj
  rcases Nat.lt_or_ge i j with e | e
  · exact (List.pairwise_iff_getElem.1 h) i j h1 h2 e
  · obtain rfl : i = j := by omega
    exact Int.le_refl _
theorem srt_take {l : List α} (h : Srt k l) {s : Nat} {c : Int} (hs : s = 0 ∨ ∃ y, l[s - 1]? = some y ∧ k y ≤ c) : ∀ y ∈ l.take s, k y ≤ c := by
  intro y hy
  obtain ⟨i, hi⟩ := List.getElem?_of_mem hy
  rw [List.getElem?_take] at hi
  split at hi
  · rename_i hlt
    rcases hs with rfl | ⟨z, hz, hc⟩
    · omega
    · exact Int.le_trans (srt_le h hi hz (by omega)) hc
  · cases hi
theorem srt_drop {l : List α} (h : Srt k l) {s : Nat} {c : Int} (hs : l.length ≤ s ∨ ∃ y, l[s]? = some y ∧ c ≤ k y) : ∀ y ∈ l.drop s, c ≤ k y := by
  intro y hy
  obtain ⟨i, hi⟩ := List.getElem?_of_mem hy
  rw [List.getElem?_drop] at hi
  rcases hs with hs | ⟨z, hz, hc⟩
  · rw [List.getElem?_eq_none (by omega)] at hi; cases hi
  · exact Int.le_trans hc (srt_le h hz hi (by omega))
theorem Srt.take (h : Srt k l) (s : Nat) : Srt k (l.take s) := List.Pairwise.sublist (List.take_sublist s l) h
theorem Srt.drop (h : Srt k l) (s : Nat) : Srt k (l.drop s) := List.Pairwise.sublist (List.drop_sublist s l) h
/-- one ahead of a sorted row, put in -/
theorem stb_one (x : α) {V : List α} (h : Srt k V) {s : Nat} (h1 : s = 0 ∨ ∃ y, V[s - 1]? = some y ∧ k y < k x) (h2 : V.length ≤ s ∨ ∃ y, V[s]? = some y ∧ k x ≤ k y) : Stb k ([x] ++ V) (V.take s ++ x :: V.drop s) := by
  have l1 := srt_take (c := k x - 1) h (h1.imp id fun ⟨y, e, e2⟩ => ⟨y, e, by omega⟩)
  have l2 := srt_drop h h2
  refine ⟨srt_append.2 ⟨h.take s, List.pairwise_cons.2 ⟨l2, h.drop s⟩, fun y hy z hz => ?_⟩, ?_, by simp; omega⟩
  · have := l1 y hy
    rcases List.mem_cons.1 hz with rfl | hz
    · omega
    · have := l2 z hz; omega
  · have e : [x] ++ V = ([x] ++ V.take s) ++ V.drop s := by rw [List.append_assoc, List.take_append_drop]
    rw [e, show V.take s ++ x :: V.drop s = (V.take s ++ [x]) ++ V.drop s by simp]
    exact (Eqf.swap fun y hy z hz => by rw [List.mem_singleton.1 hy]; have := l1 z hz; omega).append (Eqf.refl _)
/-- one behind a sorted row, put in -/
theorem stb_last (y : α) {U : List α} (h : Srt k U) {s : Nat} (h1 : s = 0 ∨ ∃ x, U[s - 1]? = some x ∧ k x ≤ k y) (h2 : U.length ≤ s ∨ ∃ x, U[s]? = some x ∧ k y < k x) : Stb k (U ++ [y]) (U.take s ++ y :: U.drop s) := by
  have hs : Stb k U (U.take s ++ U.drop s) := by rw [List.take_append_drop]; exact Stb.of_srt h
  exact hs.put (srt_take h h1) fun z hz => by
    have := srt_drop (c := k y + 1) h (h2.imp id fun ⟨x, e, e2⟩ => ⟨x, e, by omega⟩) z hz
    omega
/-- two sorted rows, each cut in two: the middle parts change places, then each half is put in order -/
theorem stb_sym {U V S1 S2 : List α} {s t : Nat} (hU : Srt k U) (hV : Srt k V) (hs : s ≤ U.length) (ht : t ≤ V.length)
    (h1 : s = 0 ∨ t = V.length ∨ ∃ x y, U[s - 1]? = some x ∧ V[t]? = some y ∧ k x ≤ k y) (h2 : s = U.length ∨ t = 0 ∨ ∃ x y, U[s]? = some x ∧ V[t - 1]? = some y ∧ k y < k x)
    (g1 : Stb k (U.take s ++ V.take t) S1) (g2 : Stb k (U.drop s ++ V.drop t) S2) : Stb k (U ++ V) (S1 ++ S2) := by
  have a1 : ∀ x ∈ U.take s, ∀ y ∈ V.drop t, k x ≤ k y := fun x hx y hy => by
    rcases h1 with rfl | rfl | ⟨p, q, hp, hq, hpq⟩
    · simp at hx
    · simp at hy
    · have e1 := srt_take (c := k p) hU (.inr ⟨p, hp, Int.le_refl _⟩) x hx
      have e2 := srt_drop (c := k q) hV (.inr ⟨q, hq, Int.le_refl _⟩) y hy
      omega
  have a2 : ∀ x ∈ U.drop s, ∀ y ∈ V.take t, k y < k x := fun x hx y hy => by
    rcases h2 with rfl | rfl | ⟨p, q, hp, hq, hpq⟩
    · simp at hx
    · simp at hy
    · have e1 := srt_drop (c := k p) hU (.inr ⟨p, hp, Int.le_refl _⟩) x hx
      have e2 := srt_take (c := k q) hV (.inr ⟨q, hq, Int.le_refl _⟩) y hy
      omega
  obtain ⟨-, -, u12⟩ := srt_append.1 (show Srt k (U.take s ++ U.drop s) by rw [List.take_append_drop]; exact hU)
  obtain ⟨-, -, v12⟩ := srt_append.1 (show Srt k (V.take t ++ V.drop t) by rw [List.take_append_drop]; exact hV)
  have hg := g1.append g2 fun x hx y hy => by
    rcases List.mem_append.1 hx with hx | hx <;> rcases List.mem_append.1 hy with hy | hy
    · exact u12 x hx y hy
    · exact a1 x hx y hy
    · have := a2 y hy x hx; omega
    · exact v12 x hx y hy
  refine hg.of_eqf ?_ (by simp; omega)
  have e : U ++ V = U.take s ++ ((U.drop s ++ V.take t) ++ V.drop t) := by
    rw [List.append_assoc, List.take_append_drop, ← List.append_assoc, List.take_append_drop]
  rw [e, show U.take s ++ V.take t ++ (U.drop s ++ V.drop t) = U.take s ++ ((V.take t ++ U.drop s) ++ V.drop t) by simp]
  exact (Eqf.refl _).append ((Eqf.swap fun x hx y hy => by have := a2 x hx y hy; omega).append (Eqf.refl _))
theorem stb_left (V : List α) (h : Srt k V) : Stb k ([] ++ V) V := Stb.of_srt h
theorem stb_right (U : List α) (h : Srt k U) : Stb k (U ++ []) U := by rw [List.append_nil]; exact Stb.of_srt h
/-! ### an exchange -/
theorem set_at (X : List α) (x y : α) (Y : List α) : (X ++ x :: Y).set X.length y = X ++ y :: Y := by simp
theorem swp_mid (X : List α) (x : α) (M : List α) (y : α) (Y : List α) : ((X ++ x :: (M ++ y :: Y)).set X.length y).set (X.length + 1 + M.length) x = X ++ y :: (M ++ x :: Y) := by
  rw [set_at]
  have e : X ++ y :: (M ++ y :: Y) = (X ++ y :: M) ++ y :: Y := by simp
  rw [e, show X.length + 1 + M.length = (X ++ y :: M).length by simp; omega, set_at]
  simp
theorem swp_mid' (X : List α) (x : α) (M : List α) (y : α) (Y : List α) : ((X ++ x :: (M ++ y :: Y)).set (X.length + 1 + M.length) x).set X.length y = X ++ y :: (M ++ x :: Y) := by
  rw [List.set_comm _ _ (by omega), swp_mid]
theorem at_mid (X : List α) (x : α) (Y : List α) : (X ++ x :: Y)[X.length]? = some x := by simp
theorem at_mid2 (X : List α) (x : α) (M : List α) (y : α) (Y : List α) : (X ++ x :: (M ++ y :: Y))[X.length + 1 + M.length]? = some y := by
  rw [show X ++ x :: (M ++ y :: Y) = (X ++ x :: M) ++ y :: Y by simp, show X.length + 1 + M.length = (X ++ x :: M).length by simp; omega, at_mid]
theorem at_part (X U Y : List α) (i : Nat) (hi : i < U.length) : (X ++ (U ++ Y))[X.length + i]? = U[i]? := by
  rw [List.getElem?_append_right (by omega), Nat.add_sub_cancel_left, List.getElem?_append_left hi]
/-! ### rows in parts of one length, each of them sorted -/
def Chk (k : α → Int) (n : Nat) (l : List α) : Prop := ∀ q, Srt k ((l.drop (q * n)).take n)
theorem Chk.short {n : Nat} (h : Chk k n l) (hl : l.length ≤ n) : Srt k l := by
  have := h 0
  rwa [Nat.zero_mul, List.drop_zero, List.take_of_length_le hl] at this
theorem Chk.nil {n : Nat} : Chk k n ([] : List α) := fun q => by simpa using srt_nil
theorem Chk.first {n : Nat} (h : Chk k n l) : Srt k (l.take n) := by
  have := h 0
  rwa [Nat.zero_mul, List.drop_zero] at this
theorem Chk.rest {n : Nat} (h : Chk k n l) : Chk k n (l.drop n) := fun q => by
  have := h (q + 1)
  rwa [Nat.add_mul, Nat.one_mul, Nat.add_comm, ← List.drop_drop] at this
theorem Chk.snoc {n t : Nat} {D S : List α} (h : Chk k n D) (hD : D.length = t * n) (hS : Srt k S) (hn : S.length ≤ n) : Chk k n (D ++ S) := fun q => by
  rcases Nat.lt_trichotomy q t with e | rfl | e
  · have e2 : q * n + n ≤ t * n := by rw [← Nat.succ_mul]; exact Nat.mul_le_mul_right _ e
    have e3 : q * n ≤ t * n := by omega
    rw [List.drop_append_of_le_length (by omega), List.take_append_of_le_length (by simp; omega)]
    exact h q
  · rw [← hD, List.drop_left, List.take_of_length_le hn]
    exact hS
  · have e2 : t * n + n ≤ q * n := by rw [← Nat.succ_mul]; exact Nat.mul_le_mul_right _ e
    rw [List.drop_of_length_le (by simp; omega)]
    simpa using srt_nil
end
end Go.Proofs.Ytcdjmgmombaiaaa.stb
