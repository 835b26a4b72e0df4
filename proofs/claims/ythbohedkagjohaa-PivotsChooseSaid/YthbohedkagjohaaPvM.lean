/-
  Program-free: least distances from chosen places, the first place of the greatest number, which places are chosen.
-/
import Derived.Test.YthbohedkagjohaaGMet
namespace Go.Proofs.Ythbohedkagjohaa.pv
set_option linter.unusedVariables false

/-! ### the nearest one of some places -/
section
variable {α : Type} {d : Int → α → Int} {S S' v : Int} {cs : List Int} {c : Int} {x : α}
def nr (d : Int → α → Int) (S : Int) (cs : List Int) (x : α) : Int := cs.foldl (fun m c => min m (d c x)) S
theorem nr_nil (d : Int → α → Int) (S : Int) (x : α) : nr d S [] x = S := rfl
theorem nr_cons (d : Int → α → Int) (S c : Int) (cs : List Int) (x : α) : nr d S (c :: cs) x = nr d (min S (d c x)) cs x := rfl
theorem nr_snoc (d : Int → α → Int) (S c : Int) (cs : List Int) (x : α) : nr d S (cs ++ [c]) x = min (nr d S cs x) (d c x) := by unfold nr; rw [List.foldl_append]; rfl
theorem nr_le : nr d S cs x ≤ S := by
  induction cs generalizing S with
  | nil => exact Int.le_refl _
  | cons c cs ih => rw [nr_cons]; exact Int.le_trans ih (Int.min_le_left _ _)
theorem nr_le_mem (h : c ∈ cs) : nr d S cs x ≤ d c x := by
  induction cs generalizing S with
  | nil => simp at h
  | cons b cs ih =>
    rw [nr_cons]
    rcases List.mem_cons.1 h with rfl | h
    · exact Int.le_trans nr_le (Int.min_le_right _ _)
    · exact ih h
theorem nr_ge (h : ∀ c ∈ cs, v ≤ d c x) (hS : v ≤ S) : v ≤ nr d S cs x := by
  induction cs generalizing S with
  | nil => exact hS
  | cons c cs ih =>
    rw [nr_cons]
    exact ih (fun b hb => h b (List.mem_cons_of_mem _ hb)) (by have := h c (List.mem_cons_self ..); omega)
theorem nr_start (h0 : cs ≠ []) (h : ∀ c ∈ cs, d c x ≤ S) (h' : ∀ c ∈ cs, d c x ≤ S') : nr d S cs x = nr d S' cs x := by
  match cs with
  | [] => exact absurd rfl h0
  | c :: cs =>
    have h1 := h c (List.mem_cons_self ..)
    have h2 := h' c (List.mem_cons_self ..)
    rw [nr_cons, nr_cons, Int.min_eq_right h1, Int.min_eq_right h2]
/-! ### .. for each of a row -/
def lr (d : Int → α → Int) (S : Int) (cs : List Int) (l : List α) : List Int := l.map (nr d S cs)
theorem lr_length (d : Int → α → Int) (S : Int) (cs : List Int) (l : List α) : (lr d S cs l).length = l.length := by simp [lr]
theorem lr_nil (d : Int → α → Int) (S : Int) (l : List α) : lr d S [] l = List.replicate l.length S := by
  unfold lr
  induction l with
  | nil => rfl
  | cons x l ih => rw [List.map_cons, ih]; rfl
theorem lr_at (d : Int → α → Int) (S : Int) (cs : List Int) {l : List α} {k : Nat} (hk : k < l.length) : (lr d S cs l).getD k 0 = nr d S cs l[k] := by simp [lr, hk]
theorem lr_start {l : List α} (h0 : cs ≠ []) (h : ∀ c ∈ cs, ∀ x ∈ l, d c x ≤ S) (h' : ∀ c ∈ cs, ∀ x ∈ l, d c x ≤ S') : lr d S cs l = lr d S' cs l :=
  List.map_congr_left fun x hx => nr_start h0 (fun c hc => h c hc x hx) (fun c hc => h' c hc x hx)
/-- one chosen thing more, for the first k of a row -/
def brk (d : Int → α → Int) (c : Int) (l : List α) (r : List Int) (k : Nat) : List Int := List.zipWith (fun m x => min m (d c x)) (r.take k) (l.take k) ++ r.drop k
theorem brk_zero (d : Int → α → Int) (c : Int) (l : List α) (r : List Int) : brk d c l r 0 = r := by simp [brk]
theorem brk_length {l : List α} {r : List Int} {k : Nat} (h : r.length = l.length) : (brk d c l r k).length = r.length := by
  unfold brk
  rw [List.length_append, List.length_zipWith, List.length_take, List.length_take, List.length_drop]
  omega
theorem brk_len {l : List α} {r : List Int} (h : r.length = l.length) : brk d c l r l.length = List.zipWith (fun m x => min m (d c x)) r l := by
  unfold brk
  rw [List.take_of_length_le (by omega), List.take_of_length_le (Nat.le_refl _), List.drop_of_length_le (by omega), List.append_nil]
theorem brk_all (d : Int → α → Int) (S c : Int) (cs : List Int) (l : List α) : brk d c l (lr d S cs l) l.length = lr d S (cs ++ [c]) l := by
  rw [brk_len (lr_length ..)]
  unfold lr
  induction l with
  | nil => rfl
  | cons x l ih => rw [List.map_cons, List.map_cons, List.zipWith_cons_cons, ih, nr_snoc]
theorem brk_at {l : List α} {r : List Int} {k : Nat} (h : r.length = l.length) (hk : k < r.length) : (brk d c l r k)[k]? = some r[k] := by
  unfold brk
  rw [List.getElem?_append_right (by rw [List.length_zipWith, List.length_take, List.length_take]; omega), List.length_zipWith, List.length_take, List.length_take, List.getElem?_drop]
  rw [show k + (k - min (min k r.length) (min k l.length)) = k by omega]
  exact List.getElem?_eq_getElem hk
theorem brk_set {l : List α} {r : List Int} {k : Nat} (h : r.length = l.length) (hk : k < r.length) : (brk d c l r k).set k (min r[k] (d c (l[k]'(by omega)))) = brk d c l r (k + 1) := by
  have hz : (List.zipWith (fun m x => min m (d c x)) (r.take k) (l.take k)).length = k := by rw [List.length_zipWith, List.length_take, List.length_take]; omega
  unfold brk
  rw [List.set_append_right _ _ (by omega), hz, Nat.sub_self, List.drop_eq_getElem_cons hk, List.set_cons_zero, List.take_succ_eq_append_getElem hk, List.take_succ_eq_append_getElem (by omega : k < l.length),
    List.zipWith_append (by simp; omega), List.append_assoc]
  rfl
end
/-! ### the first place of the greatest number -/
def mpk (r : List Int) : Nat → Nat
  | 0 => 0
  | k + 1 => if r.getD (mpk r k) 0 < r.getD k 0 then k else mpk r k
def mp (r : List Int) : Nat := mpk r r.length
theorem mpk_lt (r : List Int) {k : Nat} (h : 0 < k) : mpk r k < k := by
  induction k with
  | zero => omega
  | succ k ih =>
    unfold mpk
    split
    · omega
    · rcases Nat.eq_zero_or_pos k with rfl | h2
      · exact Nat.zero_lt_one
      · have := ih h2; omega
theorem mp_lt {r : List Int} (h : 0 < r.length) : mp r < r.length := mpk_lt r h
theorem mpk_le (r : List Int) {k j : Nat} (h : j < k) : r.getD j 0 ≤ r.getD (mpk r k) 0 := by
  induction k with
  | zero => omega
  | succ k ih =>
    unfold mpk
    rcases Nat.lt_or_ge j k with h2 | h2
    · have := ih h2
      split <;> omega
    · obtain rfl : j = k := by omega
      split <;> omega
theorem mp_le {r : List Int} {j : Nat} (h : j < r.length) : r.getD j 0 ≤ r.getD (mp r) 0 := mpk_le r h
/-- the document's own way: from a place, and 0 far -/
def rk (r : List Int) (p : Nat) : Nat → Nat × Int
  | 0 => (p, 0)
  | k + 1 => if (rk r p k).2 < r.getD k 0 then (k, r.getD k 0) else rk r p k
theorem rk_is (r : List Int) (p : Nat) {k : Nat} (h : 0 < k) : rk r p k = if 0 < r.getD (mpk r k) 0 then (mpk r k, r.getD (mpk r k) 0) else (p, 0) := by
  induction k with
  | zero => omega
  | succ k ih =>
    rcases Nat.eq_zero_or_pos k with rfl | h2
    · have e : mpk r 1 = 0 := by unfold mpk; split <;> rfl
      rw [e]
      rfl
    · have ih := ih h2
      have hm : mpk r (k + 1) = if r.getD (mpk r k) 0 < r.getD k 0 then k else mpk r k := rfl
      show (if (rk r p k).2 < r.getD k 0 then (k, r.getD k 0) else rk r p k) = _
      rw [ih, hm]
      by_cases h1 : 0 < r.getD (mpk r k) 0
      · rw [if_pos h1]
        by_cases h3 : r.getD (mpk r k) 0 < r.getD k 0
        · rw [if_pos (show (mpk r k, r.getD (mpk r k) 0).2 < r.getD k 0 from h3), if_pos h3, if_pos (by omega)]
        · rw [if_neg (show ¬ (mpk r k, r.getD (mpk r k) 0).2 < r.getD k 0 from h3), if_neg h3, if_pos h1]
      · rw [if_neg h1]
        by_cases h3 : r.getD (mpk r k) 0 < r.getD k 0
        · rw [if_pos h3]
        · rw [if_neg h3, if_neg h1, if_neg (show ¬ (p, (0 : Int)).2 < r.getD k 0 from by show ¬ (0 : Int) < _; omega)]
/-- the greatest of the first k numbers, or 0 -/
def gr (r : List Int) : Nat → Int
  | 0 => 0
  | k + 1 => max (gr r k) (r.getD k 0)
theorem gr_is {r : List Int} (h0 : ∀ j, 0 ≤ r.getD j 0) {k : Nat} (h : 0 < k) : gr r k = r.getD (mpk r k) 0 := by
  induction k with
  | zero => omega
  | succ k ih =>
    have hm : mpk r (k + 1) = if r.getD (mpk r k) 0 < r.getD k 0 then k else mpk r k := rfl
    show max (gr r k) (r.getD k 0) = _
    rw [hm]
    rcases Nat.eq_zero_or_pos k with rfl | h2
    · have e : mpk r 0 = 0 := rfl
      rw [e, if_neg (by omega)]
      have := h0 0
      show max 0 _ = _
      omega
    · rw [ih h2]
      split <;> omega
/-! ### which places are chosen -/
section
variable {α : Type}
/-- so many more may be chosen, those were, and this place comes next -/
def goA (d : Int → α → Int) (S : Int) (l : List α) : Nat → List Int → Nat → List Int
  | 0, cs, _ => cs
  | k + 1, cs, p => if 0 < (lr d S cs l).getD p 0 then goA d S l k (cs ++ [(p : Int)]) (mp (lr d S (cs ++ [(p : Int)]) l)) else cs
/-- the first place, brought between 0 and the last one -/
def first (n : Nat) (k : Int) : Nat := (min (max k 0) ((n : Int) - 1)).toNat
def chs (d : Int → α → Int) (S : Int) (l : List α) (p k : Int) : List Int := if l.length = 0 then [] else goA d S l p.toNat [] (first l.length k)
theorem first_lt {n : Nat} (h : 0 < n) (k : Int) : first n k < n := by unfold first; omega
theorem first_is {n : Nat} (h : 0 < n) (k : Int) : min (max k 0) ((n : Int) - 1) = (first n k : Int) := by unfold first; omega
theorem getD_lt {r : List Int} {p : Nat} (h : 0 < r.getD p 0) : p < r.length := by
  rcases Nat.lt_or_ge p r.length with h2 | h2
  · exact h2
  · simp [List.getD, List.getElem?_eq_none h2] at h
variable {d : Int → α → Int} {S S' : Int} {l : List α}
/-- what each step keeps holds of what is chosen -/
theorem goA_keeps {P : List Int → Prop} (hstep : ∀ cs (p : Nat), P cs → p < l.length → 0 < (lr d S cs l).getD p 0 → (cs ≠ [] → p = mp (lr d S cs l)) → P (cs ++ [(p : Int)])) :
    ∀ k cs p, P cs → (cs ≠ [] → p = mp (lr d S cs l)) → P (goA d S l k cs p)
  | 0, cs, p, h, _ => h
  | k + 1, cs, p, h, hp => by
    unfold goA
    split
    · rename_i h0
      have hlt := getD_lt h0
      rw [lr_length] at hlt
      exact goA_keeps hstep k _ _ (hstep cs p h hlt h0 hp) fun _ => rfl
    · exact h
/-- from wherever one starts, beyond all distances -/
theorem goA_start (h : ∀ c, ∀ x ∈ l, d c x ≤ S) (h' : ∀ c, ∀ x ∈ l, d c x ≤ S') (s0 : 0 < S) (s1 : 0 < S') : ∀ k cs p, p < l.length → goA d S l k cs p = goA d S' l k cs p
  | 0, cs, p, _ => rfl
  | k + 1, cs, p, hp => by
    have e : lr d S (cs ++ [(p : Int)]) l = lr d S' (cs ++ [(p : Int)]) l := lr_start (by simp) (fun c _ => h c) fun c _ => h' c
    have e0 : (0 < (lr d S cs l).getD p 0) ↔ (0 < (lr d S' cs l).getD p 0) := by
      rcases cs with _ | ⟨c, cs⟩
      · rw [lr_at _ _ _ hp, lr_at _ _ _ hp, nr_nil, nr_nil]
        simp [s0, s1]
      · rw [lr_start (by simp) (fun c _ => h c) fun c _ => h' c]
    unfold goA
    rw [e]
    by_cases hc : 0 < (lr d S' cs l).getD p 0
    · rw [if_pos (e0.2 hc), if_pos hc]
      exact goA_start h h' s0 s1 k _ _ (by have := mp_lt (r := lr d S' (cs ++ [(p : Int)]) l) (by rw [lr_length]; omega); rwa [lr_length] at this)
    · rw [if_neg (fun h => hc (e0.1 h)), if_neg hc]
theorem chs_start (h : ∀ c, ∀ x ∈ l, d c x ≤ S) (h' : ∀ c, ∀ x ∈ l, d c x ≤ S') (s0 : 0 < S) (s1 : 0 < S') (p k : Int) : chs d S l p k = chs d S' l p k := by
  unfold chs
  split
  · rfl
  · exact goA_start h h' s0 s1 _ _ _ (first_lt (by omega) k)
/-! ### each place is chosen once -/
structure Once (d : Int → α → Int) (l : List α) (cs : List Int) : Prop where
  nodup : cs.Nodup
  low : ∀ c ∈ cs, 0 ≤ c ∧ c < (l.length : Int)
theorem Once.nil : Once d l [] := ⟨List.nodup_nil, fun c h => by simp at h⟩
theorem Once.snoc {cs : List Int} {p : Nat} (hd : ∀ (k : Nat) (hk : k < l.length), d (k : Int) l[k] ≤ 0) (h : Once d l cs) (hp : p < l.length) (h0 : 0 < (lr d S cs l).getD p 0) : Once d l (cs ++ [(p : Int)]) := by
  have hn : (p : Int) ∉ cs := fun hc => by
    rw [lr_at _ _ _ hp] at h0
    have h1 := nr_le_mem (d := d) (S := S) (x := l[p]) hc
    have h2 := hd p hp
    omega
  refine ⟨?_, fun c hc => ?_⟩
  · rw [List.nodup_append]
    exact ⟨h.nodup, by simp, fun a ha b hb e => hn (by simp only [List.mem_singleton] at hb; rw [← hb, ← e]; exact ha)⟩
  · rcases List.mem_append.1 hc with hc | hc
    · exact h.low c hc
    · simp only [List.mem_singleton] at hc
      subst hc
      omega
theorem nodup_le : ∀ (n : Nat) (cs : List Int), cs.Nodup → (∀ c ∈ cs, 0 ≤ c ∧ c < (n : Int)) → cs.length ≤ n
  | 0, cs, _, h => by
    match cs with
    | [] => exact Nat.le_refl _
    | c :: _ => have := h c (List.mem_cons_self ..); omega
  | n + 1, cs, hd, h => by
    have h1 : (cs.erase (n : Int)).length ≤ n := nodup_le n _ (hd.erase _) fun c hc => by
      have h2 := (List.Nodup.mem_erase_iff hd).1 hc
      have h3 := h c h2.2
      have h4 : c ≠ (n : Int) := h2.1
      push_cast at h3
      omega
    have := List.length_erase (a := (n : Int)) (l := cs)
    split at this <;> omega
theorem Once.len {cs : List Int} (h : Once d l cs) : cs.length ≤ l.length := nodup_le _ cs h.nodup h.low
theorem goA_once (hd : ∀ (k : Nat) (hk : k < l.length), d (k : Int) l[k] ≤ 0) (k : Nat) {cs : List Int} (p : Nat) (h : Once d l cs) (hp : cs ≠ [] → p = mp (lr d S cs l)) : Once d l (goA d S l k cs p) :=
  goA_keeps (P := Once d l) (fun _ _ h hp h0 _ => h.snoc hd hp h0) k cs p h hp
theorem chs_once (hd : ∀ (k : Nat) (hk : k < l.length), d (k : Int) l[k] ≤ 0) (p k : Int) : Once d l (chs d S l p k) := by
  unfold chs
  split
  · exact Once.nil
  · exact goA_once hd _ _ Once.nil fun h => absurd rfl h
/-! ### far from each other, near to all -/
/-- no thing is farther than v from the nearest one, and no two are nearer -/
structure Apart (d : Int → α → Int) (S : Int) (l : List α) (cs : List Int) (v : Int) : Prop where
  all : ∀ x ∈ l, nr d S cs x ≤ v
  two : ∀ (i k : Nat) (hi : i < cs.length) (hk : k < i), ∀ x, l[(cs[i]).toNat]? = some x → v ≤ d (cs[k]'(by omega)) x
  last : 2 ≤ cs.length → ∀ x, l[(cs.getD (cs.length - 1) 0).toNat]? = some x → v = nr d S (cs.take (cs.length - 1)) x
def Apt (d : Int → α → Int) (S : Int) (l : List α) (cs : List Int) : Prop := cs = [] ∨ ∃ v, Apart d S l cs v
theorem Apt.snoc {cs : List Int} {p : Nat} (h : Apt d S l cs) (hp : p < l.length) (hm : cs ≠ [] → p = mp (lr d S cs l)) : Apt d S l (cs ++ [(p : Int)]) := by
  right
  rcases h with rfl | ⟨v, h⟩
  · refine ⟨S, fun x _ => nr_le, fun i k hi hk => by simp at hi; omega, fun h2 => by simp at h2⟩
  · have hgt : l[((p : Int)).toNat]? = some l[p] := by rw [Int.toNat_natCast]; exact List.getElem?_eq_getElem hp
    have hmax : cs ≠ [] → ∀ x ∈ l, nr d S cs x ≤ nr d S cs l[p] := fun h0 x hx => by
      obtain ⟨j, hj, rfl⟩ := List.getElem_of_mem hx
      have h1 := mp_le (r := lr d S cs l) (j := j) (by rw [lr_length]; exact hj)
      rw [← hm h0, lr_at _ _ _ hj, lr_at _ _ _ hp] at h1
      exact h1
    rcases Nat.eq_zero_or_pos cs.length with h0 | h0
    · obtain rfl := List.eq_nil_of_length_eq_zero h0
      exact ⟨S, fun x _ => nr_le, fun i k hi hk => by simp at hi; omega, fun h2 => by simp at h2⟩
    have hne : cs ≠ [] := fun e => by rw [e] at h0; simp at h0
    refine ⟨nr d S cs l[p], fun x hx => ?_, fun i k hi hk x hx => ?_, fun _ x hx => ?_⟩
    · rw [nr_snoc]
      exact Int.le_trans (Int.min_le_left _ _) (hmax hne x hx)
    · rw [List.length_append, List.length_singleton] at hi
      rcases Nat.lt_or_ge i cs.length with h2 | h2
      · rw [List.getElem_append_left h2] at hx
        rw [List.getElem_append_left (by omega : k < cs.length)]
        exact Int.le_trans (h.all _ (List.getElem_mem hp)) (h.two i k h2 hk x hx)
      · obtain rfl : i = cs.length := by omega
        rw [List.getElem_append_right (Nat.le_refl _)] at hx
        simp only [Nat.sub_self, List.getElem_singleton] at hx
        rw [hgt] at hx
        injection hx with hx
        subst hx
        rw [List.getElem_append_left hk]
        exact nr_le_mem (List.getElem_mem hk)
    · have e : (cs ++ [(p : Int)]).length - 1 = cs.length := by simp
      rw [e] at hx ⊢
      rw [List.take_left]
      have e2 : (cs ++ [(p : Int)]).getD cs.length 0 = (p : Int) := by simp
      rw [e2, hgt] at hx
      injection hx with hx
      rw [hx]
theorem chs_apart (p k : Int) : Apt d S l (chs d S l p k) := by
  unfold chs
  split
  · exact .inl rfl
  · exact goA_keeps (P := Apt d S l) (fun _ _ h hp _ hm => h.snoc hp hm) _ _ _ (.inl rfl) fun h => absurd rfl h
end
end Go.Proofs.Ythbohedkagjohaa.pv
