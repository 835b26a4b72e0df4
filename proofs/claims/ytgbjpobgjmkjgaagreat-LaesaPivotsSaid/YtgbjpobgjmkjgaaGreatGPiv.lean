/-
  Several texts in one.
-/
import Derived.Test.YtgbjpobgjmkjgaaGreatGMet
import Derived.Test.YtgbjpobgjmkjgaaGreatGLib
import Derived.Deep.LoopGhost
import Derived.Deep.RegionHeld3
import Derived.Lib.MinMax
set_option maxRecDepth 100000
/-
  Program-free: least distances from chosen places, the first place of the greatest number, which places are chosen.
-/
namespace Go.Proofs.YtgbjpobgjmkjgaaGreat.pv
set_option linter.unusedVariables false

/-! ### the nearest one of some places -/
section
variable {α : Type} {d : Int → α → Int} {S S' v : Int} {cs : List Int} {c : Int} {x : α}
def nr (d : Int → α → Int) (S : Int) (cs : List Int) (x : α) : Int := cs.foldl (fun m c => min m (d c x)) S
theorem nr_nil (d : Int → α → Int) (S : Int) (x : α) : nr d S [] x = S := rfl
theorem nr_cons (d : Int → α → Int) (S c : Int) (cs : List Int) (x : α) : nr d S (c :: cs) x = nr d (min S (d c x)) cs x := rfl
theorem nr_snoc (d : Int → α → Int) (S c : Int) (cs : List Int) (x : α) : nr d S (cs ++ [c]) x = min (nr d S cs x) (d c x) := by unfold nr; rw [List.foldl_append]; rfl
theorem nr_le : nr d S cs x ≤ S := by
  induction cs generalizing S with
  | nil => exact Int.le_refl _
  | cons c cs ih => rw [nr_cons]; exact Int.le_trans ih (Int.min_le_left _ _)
theorem nr_le_mem (h : c ∈ cs) : nr d S cs x ≤ d c x := by
  induction cs generalizing S with
  | nil => simp at h
  | cons b cs ih =>
    rw [nr_cons]
    rcases List.mem_cons.1 h with rfl | h
    · exact Int.le_trans nr_le (Int.min_le_right _ _)
    · exact ih h
theorem nr_ge (h : ∀ c ∈ cs, v ≤ d c x) (hS : v ≤ S) : v ≤ nr d S cs x := by
  induction cs generalizing S with
  | nil => exact hS
  | cons c cs ih =>
    rw [nr_cons]
    exact ih (fun b hb => h b (List.mem_cons_of_mem _ hb)) (by have := h c (List.mem_cons_self ..); omega)
theorem nr_start (h0 : cs ≠ []) (h : ∀ c ∈ cs, d c x ≤ S) (h' : ∀ c ∈ cs, d c x ≤ S') : nr d S cs x = nr d S' cs x := by
  match cs with
  | [] => exact absurd rfl h0
  | c :: cs =>
    have h1 := h c (List.mem_cons_self ..)
    have h2 := h' c (List.mem_cons_self ..)
    rw [nr_cons, nr_cons, Int.min_eq_right h1, Int.min_eq_right h2]
/-! ### .. for each of a row -/
def lr (d : Int → α → Int) (S : Int) (cs : List Int) (l : List α) : List Int := l.map (nr d S cs)
theorem lr_length (d : Int → α → Int) (S : Int) (cs : List Int) (l : List α) : (lr d S cs l).length = l.length := by simp [lr]
theorem lr_nil (d : Int → α → Int) (S : Int) (l : List α) : lr d S [] l = List.replicate l.length S := by
  unfold lr
  induction l with
  | nil => rfl
  | cons x l ih => rw [List.map_cons, ih]; rfl
theorem lr_at (d : Int → α → Int) (S : Int) (cs : List Int) {l : List α} {k : Nat} (hk : k < l.length) : (lr d S cs l).getD k 0 = nr d S cs l[k] := by simp [lr, hk]
theorem lr_start {l : List α} (h0 : cs ≠ []) (h : ∀ c ∈ cs, ∀ x ∈ l, d c x ≤ S) (h' : ∀ c ∈ cs, ∀ x ∈ l, d c x ≤ S') : lr d S cs l = lr d S' cs l :=
  List.map_congr_left fun x hx => nr_start h0 (fun c hc => h c hc x hx) (fun c hc => h' c hc x hx)
/-- one chosen thing more, for the first k of a row -/
def brk (d : Int → α → Int) (c : Int) (l : List α) (r : List Int) (k : Nat) : List Int := List.zipWith (fun m x => min m (d c x)) (r.take k) (l.take k) ++ r.drop k
theorem brk_zero (d : Int → α → Int) (c : Int) (l : List α) (r : List Int) : brk d c l r 0 = r := by simp [brk]
theorem brk_length {l : List α} {r : List Int} {k : Nat} (h : r.length = l.length) : (brk d c l r k).length = r.length := by
  unfold brk
  rw [List.length_append, List.length_zipWith, List.length_take, List.length_take, List.length_drop]
  omega
theorem brk_len {l : List α} {r : List Int} (h : r.length = l.length) : brk d c l r l.length = List.zipWith (fun m x => min m (d c x)) r l := by
  unfold brk
  rw [List.take_of_length_le (by omega), List.take_of_length_le (Nat.le_refl _), List.drop_of_length_le (by omega), List.append_nil]
theorem brk_all (d : Int → α → Int) (S c : Int) (cs : List Int) (l : List α) : brk d c l (lr d S cs l) l.length = lr d S (cs ++ [c]) l := by
  rw [brk_len (lr_length ..)]
  unfold lr
  induction l with
  | nil => rfl
  | cons x l ih => rw [List.map_cons, List.map_cons, List.zipWith_cons_cons, ih, nr_snoc]
theorem brk_at {l : List α} {r : List Int} {k : Nat} (h : r.length = l.length) (hk : k < r.length) : (brk d c l r k)[k]? = some r[k] := by
  unfold brk
  rw [List.getElem?_append_right (by rw [List.length_zipWith, List.length_take, List.length_take]; omega), List.length_zipWith, List.length_take, List.length_take, List.getElem?_drop]
  rw [show k + (k - min (min k r.length) (min k l.length)) = k by omega]
  exact List.getElem?_eq_getElem hk
theorem brk_set {l : List α} {r : List Int} {k : Nat} (h : r.length = l.length) (hk : k < r.length) : (brk d c l r k).set k (min r[k] (d c (l[k]'(by omega)))) = brk d c l r (k + 1) := by
  have hz : (List.zipWith (fun m x => min m (d c x)) (r.take k) (l.take k)).length = k := by rw [List.length_zipWith, List.length_take, List.length_take]; omega
  unfold brk
  rw [List.set_append_right _ _ (by omega), hz, Nat.sub_self, List.drop_eq_getElem_cons hk, List.set_cons_zero, List.take_succ_eq_append_getElem hk, List.take_succ_eq_append_getElem (by omega : k < l.length),
    List.zipWith_append (by simp; omega), List.append_assoc]
  rfl
end
/-! ### the first place of the greatest number -/
def mpk (r : List Int) : Nat → Nat
  | 0 => 0
  | k + 1 => if r.getD (mpk r k) 0 < r.getD k 0 then k else mpk r k
def mp (r : List Int) : Nat := mpk r r.length
theorem mpk_lt (r : List Int) {k : Nat} (h : 0 < k) : mpk r k < k := by
  induction k with
  | zero => omega
  | succ k ih =>
    unfold mpk
    split
    · omega
    · rcases Nat.eq_zero_or_pos k with rfl | h2
      · exact Nat.zero_lt_one
      · have := ih h2; omega
theorem mp_lt {r : List Int} (h : 0 < r.length) : mp r < r.length := mpk_lt r h
theorem mpk_le (r : List Int) {k j : Nat} (h : j < k) : r.getD j 0 ≤ r.getD (mpk r k) 0 := by
  induction k with
  | zero => omega
  | succ k ih =>
    unfold mpk
    rcases Nat.lt_or_ge j k with h2 | h2
    · have := ih h2
      split <;> omega
    · obtain rfl : j = k := by omega
      split <;> omega
theorem mp_le {r : List Int} {j : Nat} (h : j < r.length) : r.getD j 0 ≤ r.getD (mp r) 0 := mpk_le r h
/-- the document's own way: from a place, and 0 far -/
def rk (r : List Int) (p : Nat) : Nat → Nat × Int
  | 0 => (p, 0)
  | k + 1 => if (rk r p k).2 < r.getD k 0 then (k, r.getD k 0) else rk r p k
theorem rk_is (r : List Int) (p : Nat) {k : Nat} (h : 0 < k) : rk r p k = if 0 < r.getD (mpk r k) 0 then (mpk r k, r.getD (mpk r k) 0) else (p, 0) := by
  induction k with
  | zero => omega
  | succ k ih =>
    rcases Nat.eq_zero_or_pos k with rfl | h2
    · have e : mpk r 1 = 0 := by unfold mpk; split <;> rfl
      rw [e]
      rfl
    · have ih := ih h2
      have hm : mpk r (k + 1) = if r.getD (mpk r k) 0 < r.getD k 0 then k else mpk r k := rfl
      show (if (rk r p k).2 < r.getD k 0 then (k, r.getD k 0) else rk r p k) = _
      rw [ih, hm]
      by_cases h1 : 0 < r.getD (mpk r k) 0
      · rw [if_pos h1]
        by_cases h3 : r.getD (mpk r k) 0 < r.getD k 0
        · rw [if_pos (show (mpk r k, r.getD (mpk r k) 0).2 < r.getD k 0 from h3), if_pos h3, if_pos (by omega)]
        · rw [if_neg (show ¬ (mpk r k, r.getD (mpk r k) 0).2 < r.getD k 0 from h3), if_neg h3, if_pos h1]
      · rw [if_neg h1]
        by_cases h3 : r.getD (mpk r k) 0 < r.getD k 0
        · rw [if_pos h3]
        · rw [if_neg h3, if_neg h1, if_neg (show ¬ (p, (0 : Int)).2 < r.getD k 0 from by show ¬ (0 : Int) < _; omega)]
/-- the greatest of the first k numbers, or 0 -/
def gr (r : List Int) : Nat → Int
  | 0 => 0
  | k + 1 => max (gr r k) (r.getD k 0)
theorem gr_is {r : List Int} (h0 : ∀ j, 0 ≤ r.getD j 0) {k : Nat} (h : 0 < k) : gr r k = r.getD (mpk r k) 0 := by
  induction k with
  | zero => omega
  | succ k ih =>
    have hm : mpk r (k + 1) = if r.getD (mpk r k) 0 < r.getD k 0 then k else mpk r k := rfl
    show max (gr r k) (r.getD k 0) = _
    rw [hm]
    rcases Nat.eq_zero_or_pos k with rfl | h2
    · have e : mpk r 0 = 0 := rfl
      rw [e, if_neg (by omega)]
      have := h0 0
      show max 0 _ = _
      omega
    · rw [ih h2]
      split <;> omega
/-! ### which places are chosen -/
section
variable {α : Type}
/-- so many more may be chosen, those were, and this place comes next -/
def goA (d : Int → α → Int) (S : Int) (l : List α) : Nat → List Int → Nat → List Int
  | 0, cs, _ => cs
  | k + 1, cs, p => if 0 < (lr d S cs l).getD p 0 then goA d S l k (cs ++ [(p : Int)]) (mp (lr d S (cs ++ [(p : Int)]) l)) else cs
/-- the first place, brought between 0 and the last one -/
def first (n : Nat) (k : Int) : Nat := (min (max k 0) ((n : Int) - 1)).toNat
def chs (d : Int → α → Int) (S : Int) (l : List α) (p k : Int) : List Int := if l.length = 0 then [] else goA d S l p.toNat [] (first l.length k)
theorem first_lt {n : Nat} (h : 0 < n) (k : Int) : first n k < n := by unfold first; omega
theorem first_is {n : Nat} (h : 0 < n) (k : Int) : min (max k 0) ((n : Int) - 1) = (first n k : Int) := by unfold first; omega
theorem getD_lt {r : List Int} {p : Nat} (h : 0 < r.getD p 0) : p < r.length := by
  rcases Nat.lt_or_ge p r.length with h2 | h2
  · exact h2
  · simp [List.getD, List.getElem?_eq_none h2] at h
variable {d : Int → α → Int} {S S' : Int} {l : List α}
/-- what each step keeps holds of what is chosen -/
theorem goA_keeps {P : List Int → Prop} (hstep : ∀ cs (p : Nat), P cs → p < l.length → 0 < (lr d S cs l).getD p 0 → (cs ≠ [] → p = mp (lr d S cs l)) → P (cs ++ [(p : Int)])) :
    ∀ k cs p, P cs → (cs ≠ [] → p = mp (lr d S cs l)) → P (goA d S l k cs p)
  | 0, cs, p, h, _ => h
  | k + 1, cs, p, h, hp => by
    unfold goA
    split
    · rename_i h0
      have hlt := getD_lt h0
      rw [lr_length] at hlt
      exact goA_keeps hstep k _ _ (hstep cs p h hlt h0 hp) fun _ => rfl
    · exact h
/-- from wherever one starts, beyond all distances -/
theorem goA_start (h : ∀ c, ∀ x ∈ l, d c x ≤ S) (h' : ∀ c, ∀ x ∈ l, d c x ≤ S') (s0 : 0 < S) (s1 : 0 < S') : ∀ k cs p, p < l.length → goA d S l k cs p = goA d S' l k cs p
  | 0, cs, p, _ => rfl
  | k + 1, cs, p, hp => by
    have e : lr d S (cs ++ [(p : Int)]) l = lr d S' (cs ++ [(p : Int)]) l := lr_start (by simp) (fun c _ => h c) fun c _ => h' c
    have e0 : (0 < (lr d S cs l).getD p 0) ↔ (0 < (lr d S' cs l).getD p 0) := by
      rcases cs with _ | ⟨c, cs⟩
      · rw [lr_at _ _ _ hp, lr_at _ _ _ hp, nr_nil, nr_nil]
        simp [s0, s1]
      · rw [lr_start (by simp) (fun c _ => h c) fun c _ => h' c]
    unfold goA
    rw [e]
    by_cases hc : 0 < (lr d S' cs l).getD p 0
    · rw [if_pos (e0.2 hc), if_pos hc]
      exact goA_start h h' s0 s1 k _ _ (by have := mp_lt (r := lr d S' (cs ++ [(p : Int)]) l) (by rw [lr_length]; omega); rwa [lr_length] at this)
    · rw [if_neg (fun h => hc (e0.1 h)), if_neg hc]
theorem chs_start (h : ∀ c, ∀ x ∈ l, d c x ≤ S) (h' : ∀ c, ∀ x ∈ l, d c x ≤ S') (s0 : 0 < S) (s1 : 0 < S') (p k : Int) : chs d S l p k = chs d S' l p k := by
  unfold chs
  split
  · rfl
  · exact goA_start h h' s0 s1 _ _ _ (first_lt (by omega) k)
/-! ### each place is chosen once -/
structure Once (d : Int → α → Int) (l : List α) (cs : List Int) : Prop where
  nodup : cs.Nodup
  low : ∀ c ∈ cs, 0 ≤ c ∧ c < (l.length : Int)
theorem Once.nil : Once d l [] := ⟨List.nodup_nil, fun c h => by simp at h⟩
theorem Once.snoc {cs : List Int} {p : Nat} (hd : ∀ (k : Nat) (hk : k < l.length), d (k : Int) l[k] ≤ 0) (h : Once d l cs) (hp : p < l.length) (h0 : 0 < (lr d S cs l).getD p 0) : Once d l (cs ++ [(p : Int)]) := by
  have hn : (p : Int) ∉ cs := fun hc => by
    rw [lr_at _ _ _ hp] at h0
    have h1 := nr_le_mem (d := d) (S := S) (x := l[p]) hc
    have h2 := hd p hp
    omega
  refine ⟨?_, fun c hc => ?_⟩
  · rw [List.nodup_append]
    exact ⟨h.nodup, by simp, fun a ha b hb e => hn (by simp only [List.mem_singleton] at hb; rw [← hb, ← e]; exact ha)⟩
  · rcases List.mem_append.1 hc with hc | hc
    · exact h.low c hc
    · simp only [List.mem_singleton] at hc
      subst hc
      omega
theorem nodup_le : ∀ (n : Nat) (cs : List Int), cs.Nodup → (∀ c ∈ cs, 0 ≤ c ∧ c < (n : Int)) → cs.length ≤ n
  | 0, cs, _, h => by
    match cs with
    | [] => exact Nat.le_refl _
    | c :: _ => have := h c (List.mem_cons_self ..); omega
  | n + 1, cs, hd, h => by
    have h1 : (cs.erase (n : Int)).length ≤ n := nodup_le n _ (hd.erase _) fun c hc => by
      have h2 := (List.Nodup.mem_erase_iff hd).1 hc
      have h3 := h c h2.2
      have h4 : c ≠ (n : Int) := h2.1
      push_cast at h3
      omega
    have := List.length_erase (a := (n : Int)) (l := cs)
    split at this <;> omega
theorem Once.len {cs : List Int} (h : Once d l cs) : cs.length ≤ l.length := nodup_le _ cs h.nodup h.low
theorem goA_once (hd : ∀ (k : Nat) (hk : k < l.length), d (k : Int) l[k] ≤ 0) (k : Nat) {cs : List Int} (p : Nat) (h : Once d l cs) (hp : cs ≠ [] → p = mp (lr d S cs l)) : Once d l (goA d S l k cs p) :=
  goA_keeps (P := Once d l) (fun _ _ h hp h0 _ => h.snoc hd hp h0) k cs p h hp
theorem chs_once (hd : ∀ (k : Nat) (hk : k < l.length), d (k : Int) l[k] ≤ 0) (p k : Int) : Once d l (chs d S l p k) := by
  unfold chs
  split
  · exact Once.nil
  · exact goA_once hd _ _ Once.nil fun h => absurd rfl h
/-! ### far from each other, near to all -/
/-- no thing is farther than v from the nearest one, and no two are nearer -/
structure Apart (d : Int → α → Int) (S : Int) (l : List α) (cs : List Int) (v : Int) : Prop where
  all : ∀ x ∈ l, nr d S cs x ≤ v
  two : ∀ (i k : Nat) (hi : i < cs.length) (hk : k < i), ∀ x, l[(cs[i]).toNat]? = some x → v ≤ d (cs[k]'(by omega)) x
  last : 2 ≤ cs.length → ∀ x, l[(cs.getD (cs.length - 1) 0).toNat]? = some x → v = nr d S (cs.take (cs.length - 1)) x
def Apt (d : Int → α → Int) (S : Int) (l : List α) (cs : List Int) : Prop := cs = [] ∨ ∃ v, Apart d S l cs v
theorem Apt.snoc {cs : List Int} {p : Nat} (h : Apt d S l cs) (hp : p < l.length) (hm : cs ≠ [] → p = mp (lr d S cs l)) : Apt d S l (cs ++ [(p : Int)]) := by
  right
  rcases h with rfl | ⟨v, h⟩
  · refine ⟨S, fun x _ => nr_le, fun i k hi hk => by simp at hi; omega, fun h2 => by simp at h2⟩
  · have hgt : l[((p : Int)).toNat]? = some l[p] := by rw [Int.toNat_natCast]; exact List.getElem?_eq_getElem hp
    have hmax : cs ≠ [] → ∀ x ∈ l, nr d S cs x ≤ nr d S cs l[p] := fun h0 x hx => by
      obtain ⟨j, hj, rfl⟩ := List.getElem_of_mem hx
      have h1 := mp_le (r := lr d S cs l) (j := j) (by rw [lr_length]; exact hj)
      rw [← hm h0, lr_at _ _ _ hj, lr_at _ _ _ hp] at h1
      exact h1
    rcases Nat.eq_zero_or_pos cs.length with h0 | h0
    · obtain rfl := List.eq_nil_of_length_eq_zero h0
      exact ⟨S, fun x _ => nr_le, fun i k hi hk => by simp at hi; omega, fun h2 => by simp at h2⟩
    have hne : cs ≠ [] := fun e => by rw [e] at h0; simp at h0
    refine ⟨nr d S cs l[p], fun x hx => ?_, fun i k hi hk x hx => ?_, fun _ x hx => ?_⟩
    · rw [nr_snoc]
      exact Int.le_trans (Int.min_le_left _ _) (hmax hne x hx)
    · rw [List.length_append, List.length_singleton] at hi
      rcases Nat.lt_or_ge i cs.length with h2 | h2
      · rw [List.getElem_append_left h2] at hx
        rw [List.getElem_append_left (by omega : k < cs.length)]
        exact Int.le_trans (h.all _ (List.getElem_mem hp)) (h.two i k h2 hk x hx)
      · obtain rfl : i = cs.length := by omega
        rw [List.getElem_append_right (Nat.le_refl _)] at hx
        simp only [Nat.sub_self, List.getElem_singleton] at hx
        rw [hgt] at hx
        injection hx with hx
        subst hx
        rw [List.getElem_append_left hk]
        exact nr_le_mem (List.getElem_mem hk)
    · have e : (cs ++ [(p : Int)]).length - 1 = cs.length := by simp
      rw [e] at hx ⊢
      rw [List.take_left]
      have e2 : (cs ++ [(p : Int)]).getD cs.length 0 = (p : Int) := by simp
      rw [e2, hgt] at hx
      injection hx with hx
      rw [hx]
theorem chs_apart (p k : Int) : Apt d S l (chs d S l p k) := by
  unfold chs
  split
  · exact .inl rfl
  · exact goA_keeps (P := Apt d S l) (fun _ _ h hp _ hm => h.snoc hp hm) _ _ _ (.inl rfl) fun h => absurd rfl h
end
end Go.Proofs.YtgbjpobgjmkjgaaGreat.pv
/-
  Rows of ints of the call's own; things that no turn reaches; the contracts of beyond, farthest, inside.
-/
namespace Go.Proofs.YtgbjpobgjmkjgaaGreat.pv
open Go.RowKit law bytes only flat nums ord obj metric
set_option linter.unusedVariables false

/-! ### rows of ints -/
def nv (l : List Int) : List Value := l.map fun n => Value.int .i64 n
theorem nv_length (l : List Int) : (nv l).length = l.length := by simp [nv]
theorem nv_snoc (l : List Int) (x : Int) : nv (l ++ [x]) = nv l ++ [.int .i64 x] := by simp [nv]
theorem nv_set (l : List Int) (i : Nat) (x : Int) : nv (l.set i x) = (nv l).set i (.int .i64 x) := by simp [nv, List.map_set]
theorem nv_get (l : List Int) (i : Nat) (h : i < l.length) : (nv l)[i]? = some (.int .i64 l[i]) := by simp [nv, h]
theorem intE : Elem Tryz.prog 3 (.int .i64 0) 8 := elem_mk (by kernel_rfl) rfl
/-- where a row's ints stand -/
theorem Sl.num {w : World} {B : Nat} {A : Option Addr} {l : List Int} {k : Nat} (h : Sl w B A (nv l)) (hk : k < l.length) : ∃ ad, A = some ad ∧ ad.block < B ∧ w.cell? (ad.add k) = some (.int .i64 l[k]) := by
  have := h.at_ (k := k) (by rw [nv_length]; exact hk)
  simpa [nv] using this
/-- a row of ints of the call's own, of which there is a block -/
def Rw (w : World) (base b c : Nat) (l : List Int) : Prop := w.ownsRow base 3 1 (.slice (some ⟨b, 0, none⟩) l.length c) l.length (nv l)
section
variable {w w' : World} {base b c : Nat} {l : List Int}
theorem Rw.lt (h : Rw w base b c l) : b < w.heap.size := (own_lt h (g := b) rfl).2
theorem Rw.ge (h : Rw w base b c l) : base ≤ b := (own_lt h (g := b) rfl).1
theorem Rw.cell (h : Rw w base b c l) {i : Nat} (hi : i < l.length) : w.cell? ⟨b, i, none⟩ = some (.int .i64 l[i]) := by
  have := h.cellAt i (by omega)
  rw [this, nv_get l i hi]
theorem Rw.frozen (h : Rw w base b c l) (i : Nat) : w.frozen? ⟨b, i, none⟩ = false := h.frozenAt i
theorem Rw.only {S : Nat → Prop} (h : Rw w base b c l) (k : Only S w w') (hb : ¬ S b) : Rw w' base b c l := own_only h k fun g' e => by
  simp only [Value.ownBlock, Option.some.injEq] at e
  rwa [← e]
theorem Rw.below {B : Nat} (h : Rw w base b c l) (k : Below B w w') (hB : w.heap.size ≤ B) : Rw w' base b c l := own_below h k hB
theorem Rw.on (h : Rw w base b c l) (k : Below w.heap.size w w') : Rw w' base b c l := h.below k (Nat.le_refl _)
theorem Rw.set (h : Rw w base b c l) (i : Nat) (x : Int) : Rw (w.setCell ⟨b, i, none⟩ (.int .i64 x)) base b c (l.set i x) := by
  unfold Rw
  rw [List.length_set, nv_set]
  exact own_set h i _
theorem Rw.sl (h : Rw w base b c l) : Sl w w.heap.size (some ⟨b, 0, none⟩) (nv l) := Sl.of_ownK h
end
/-! ### things that no turn of T's blocks reaches -/
theorem oc_len (p : At) : (oc p).length = 3 := rfl
/-- a thing by value -/
def oW (p : At) : Value := .agg #[.int .i64 p.x.tag, .slice p.a p.x.vec.length p.c, .string p.x.str]
structure Ts (w : World) (T : Nat → Prop) (A : Option Addr) (l : List At) : Prop where
  row : Away w T A (ocs l)
  vec : ∀ p ∈ l, Away w T p.a (iv p.x.vec)
section
variable {w w' : World} {T T2 : Nat → Prop} {A : Option Addr} {l : List At}
theorem Ts.step (h : Ts w T A l) (o : Only T w w') (hT : ∀ i, i < w.heap.size → ¬ T i → ¬ T2 i) : Ts w' T2 A l := ⟨h.row.step o hT, fun p hp => (h.vec p hp).step o hT⟩
theorem Ts.only (h : Ts w T A l) (o : Only T w w') : Ts w' T A l := h.step o fun _ _ e => e
theorem Ts.on (h : Ts w T A l) (o : Below w.heap.size w w') : Ts w' T A l := h.only (Only.of_below o (Nat.le_refl _) _)
/-- where the things of a row stand -/
theorem Ts.place (h : Ts w T A l) (h0 : 0 < l.length) : ∃ b o, A = some ⟨b, o, none⟩ ∧ b < w.heap.size ∧ ¬ T b ∧ ∀ k (hk : k < l.length),
    w.cell? ⟨b, o + k * 3, none⟩ = some (.int .i64 l[k].x.tag) ∧ w.cell? ⟨b, o + k * 3 + 1, none⟩ = some (.slice l[k].a l[k].x.vec.length l[k].c) ∧ w.cell? ⟨b, o + k * 3 + 2, none⟩ = some (.string l[k].x.str) := by
  have hlen : (ocs l).length = l.length * 3 := flat_length oc_len l
  obtain ⟨b, o, rfl, hb, hc⟩ := Sl.place h.row.sl (by omega)
  have hT : ¬ T b := by
    obtain ⟨ad, e, _, hn, _⟩ := h.row 0 _ (List.getElem?_eq_getElem (by omega))
    injection e with e
    rw [← e] at hn
    exact hn
  refine ⟨b, o, rfl, hb, hT, fun k hk => ?_⟩
  have g : ∀ j, j < 3 → w.cell? ⟨b, o + (k * 3 + j), none⟩ = (oc l[k])[j]? := fun j hj => by
    have h1 := flat_get oc_len l k j hk hj
    have hlt : k * 3 + j < (ocs l).length := by omega
    rw [show l.flatMap oc = ocs l from rfl, List.getElem?_eq_getElem hlt] at h1
    rw [hc _ hlt, h1]
  exact ⟨g 0 (by omega), g 1 (by omega), g 2 (by omega)⟩
end
/-! ### beyond -/
def U63 : Int := 9223372036854775807
theorem make_full (n : Nat) (hn : n ≤ 8796093022208) (u : World) : ∃ Z : Array Value, Z.toList = nv (List.replicate n 0) ∧ Z.size = n * 1 ∧ (Instr.makeSlice 39 (.int .i64 (n : Int)) (.int .i64 (n : Int))).run Tryz.prog u =
    .ok (.slice (some ⟨u.heap.size, 0, none⟩) n n) (u.alloc (.cells Z 3)) := by
  obtain ⟨i, hi, hz, hsz, hby, hzs⟩ := intE
  have h := run_make (P := Tryz.prog) u 39 3 i (.int .i64 0) Tryz.underlying39 hi hz .i64 .i64 n n (by omega) (by omega) (by rw [hby]; omega) (by omega)
  simp only [Int.toNat_natCast] at h
  rw [hsz] at h
  refine ⟨_, ?_, by rw [size_madeCells], h⟩
  apply List.ext_getElem?
  intro j
  by_cases hj : j < n
  · have e : (Value.int IntKind.i64 0).cells = #[.int .i64 0] := rfl
    simp [madeCells, nv, hj, e, Nat.mod_one]
  · rw [List.getElem?_eq_none (by simp [madeCells]; omega), List.getElem?_eq_none (by simp [nv]; omega)]
/-- the first k numbers are those, the others 0 -/
def bk (n k : Nat) : List Int := List.replicate k U63 ++ List.replicate (n - k) 0
theorem bk_length {n k : Nat} (h : k ≤ n) : (bk n k).length = n := by simp [bk]; omega
theorem bk_set {n k : Nat} (h : k < n) : (bk n k).set k U63 = bk n (k + 1) := by
  unfold bk
  rw [List.set_append_right _ _ (by simp), List.length_replicate, Nat.sub_self]
  obtain ⟨m, hm⟩ : ∃ m, n - k = m + 1 := ⟨n - k - 1, by omega⟩
  rw [hm, List.replicate_succ, List.set_cons_zero, show n - (k + 1) = m by omega, show List.replicate (k + 1) U63 = List.replicate k U63 ++ [U63] from List.replicate_succ', List.append_assoc]
  rfl
set_option maxRecDepth 100000 in
set_option maxHeartbeats 1600000 in
theorem beyond_any (n : Nat) (h0 : 0 < n) (hn : n ≤ 8796093022208) (w : World) :
    Calls Tryz.prog 124 #[.int .i64 n] w fun e w' => e = .returned (.slice (some ⟨w.heap.size, 0, none⟩) n n) ∧ Rw w' w.heap.size w.heap.size n (List.replicate n U63) ∧ Below w.heap.size w w' := by
  obtain ⟨Z, hZ, hZs, hmk⟩ := make_full n hn w
  have hO : Rw (w.alloc (.cells Z 3)) w.heap.size w.heap.size n (bk n 0) := by
    have h1 : (w.alloc (.cells Z 3)).ownsRow w.heap.size 3 1 (.slice (some ⟨w.heap.size, 0, none⟩) n n) n Z.toList := World.ownsRow_lit w Z n (Nat.le_refl _) (by unfold maxLen; omega) hZs
    rw [hZ] at h1
    unfold Rw
    rw [bk_length (Nat.zero_le _)]
    exact h1
  have HO := Lib.hid hO
  have HB : Hid (Below w.heap.size w (w.alloc (.cells Z 3))) := Lib.hid ((Below.refl _ w).alloc (Nat.le_refl _) _)
  clear hO hZ hZs
  go_enter Tryz.func124, Tryz.ntmps124
  go_wp2_with (fail)
  go_loopg [9] n (fun gk s9 wr => ∃ k : Nat, gk = n - k ∧ k ≤ n ∧ s9 = .int .i64 k ∧ Rw wr w.heap.size w.heap.size n (bk n k) ∧ Below w.heap.size w wr)
  case atStart => exact ⟨0, rfl, Nat.zero_le _, rfl, HO.out, HB.out⟩
  case round =>
    clear HO HB hmk
    obtain ⟨k, rfl, hk, rfl, hr, hb⟩ := hrel
    by_cases hlt : k < n
    · have i1 : (k : Int) < (n : Int) := by omega
      have c0 := hr.cell (i := k) (by rw [bk_length hk]; exact hlt)
      have f0 := hr.frozen k
      have hx : (bk n k)[k]'(by rw [bk_length hk]; exact hlt) = 0 := by simp [bk]
      rw [hx] at c0
      have HR := Lib.hid (hr.set k U63)
      have HB := Lib.hid (hb.setCell (p := ⟨w.heap.size, k, none⟩) (Nat.le_refl _) (.int .i64 U63))
      have HK := Lib.hid (bk_set hlt)
      clear hr hb hx
      unfold U63 at HR HB
      go_wp2_with (fail)
      go_roundg (n - (k + 1))
      case measure => omega
      case rel => exact ⟨k + 1, rfl, by omega, by go_num, by rw [← HK.out]; exact HR.out, HB.out⟩
    · obtain rfl : k = n := by omega
      have i1 : ¬ (k : Int) < (k : Int) := by omega
      have HR : Hid (Rw wr w.heap.size w.heap.size k (List.replicate k U63)) := Lib.hid (by
        have e : bk k k = List.replicate k U63 := by simp [bk]
        rw [e] at hr
        exact hr)
      have HB := Lib.hid hb
      clear hr hb
      go_wp2_with (fail)
      go_ret
      exact ⟨rfl, HR.out, HB.out⟩
/-! ### farthest -/
set_option maxRecDepth 100000 in
set_option maxHeartbeats 1600000 in
theorem farthest_any (b c base : Nat) (l : List Int) (h0 : 0 < l.length) (w : World) (hr : Rw w base b c l) (hm : l.length ≤ 8796093022208) :
    Calls Tryz.prog 126 #[.slice (some ⟨b, 0, none⟩) l.length c] w fun e w' => e = .returned (.int .i64 (mp l)) ∧ w = w' := by
  have HR := Lib.hid hr
  clear hr
  go_enter Tryz.func126, Tryz.ntmps126
  go_wp2_with (fail)
  go_loopg [3, 8] l.length (fun gk s3 s8 wr => ∃ k : Nat, gk = l.length - k ∧ k ≤ l.length ∧ s3 = .int .i64 (mpk l k) ∧ s8 = .int .i64 k ∧ w = wr)
  case atStart => exact ⟨0, rfl, Nat.zero_le _, rfl, rfl, rfl⟩
  case round =>
    obtain ⟨k, rfl, hk, rfl, rfl, rfl⟩ := hrel
    by_cases hlt : k < l.length
    · have hpl : mpk l k < l.length := by
        rcases Nat.eq_zero_or_pos k with rfl | h2
        · exact h0
        · have := mpk_lt l h2; omega
      have c0 := HR.out.cell hlt
      have c1 := HR.out.cell hpl
      have i1 : (k : Int) < (l.length : Int) := by omega
      have i2 : ((mpk l k : Nat) : Int) < (l.length : Int) := by omega
      have hs : mpk l (k + 1) = if l[mpk l k] < l[k] then k else mpk l k := by
        show (if l.getD (mpk l k) 0 < l.getD k 0 then k else mpk l k) = _
        simp [List.getD, hlt, hpl]
      have HS := Lib.hid hs
      clear hs
      generalize l[k] = y at c0 HS
      generalize l[mpk l k] = x at c1 HS
      generalize mpk l k = p at *
      by_cases hc : x < y
      · have HT : Hid (mpk l (k + 1) = k) := Lib.hid (by rw [HS.out, if_pos hc])
        have d0 : decide (y > x) = true := decide_eq_true hc
        clear HS hc
        go_wp2_with (fail)
        go_roundg (l.length - (k + 1))
        case measure => omega
        case rel => exact ⟨k + 1, rfl, by omega, by rw [HT.out], by go_num, rfl⟩
      · have HT : Hid (mpk l (k + 1) = p) := Lib.hid (by rw [HS.out, if_neg hc])
        have d0 : decide (y > x) = false := decide_eq_false hc
        clear HS hc
        go_wp2_with (fail)
        go_roundg (l.length - (k + 1))
        case measure => omega
        case rel => exact ⟨k + 1, rfl, by omega, by rw [HT.out], by go_num, rfl⟩
    · obtain rfl : k = l.length := by omega
      have i1 : ¬ (l.length : Int) < (l.length : Int) := by omega
      go_wp2_with (fail)
      go_ret
      exact ⟨rfl, rfl⟩
/-! ### inside -/
def isIn (n : Nat) (c : Int) : Bool := decide (0 ≤ c) && decide (c < (n : Int))
def ins (n : Nat) (l : List Int) : List Int := l.filter (isIn n)
theorem ins_length (n : Nat) (l : List Int) : (ins n l).length ≤ l.length := List.length_filter_le _ _
theorem ins_yes {n : Nat} {l : List Int} {k : Nat} (hk : k < l.length) (h : isIn n l[k] = true) : ins n (l.take (k + 1)) = ins n (l.take k) ++ [l[k]] := by
  unfold ins
  rw [List.take_succ_eq_append_getElem hk, List.filter_append]
  simp [h]
theorem ins_no {n : Nat} {l : List Int} {k : Nat} (hk : k < l.length) (h : isIn n l[k] = false) : ins n (l.take (k + 1)) = ins n (l.take k) := by
  unfold ins
  rw [List.take_succ_eq_append_getElem hk, List.filter_append]
  simp [h]
theorem ins_low {n : Nat} {l : List Int} {c : Int} (h : c ∈ ins n l) : 0 ≤ c ∧ c < (n : Int) := by
  have := (List.mem_filter.1 h).2
  simpa [isIn] using this
theorem isIn_cases (n : Nat) (c : Int) : (decide (c ≥ 0) = false ∧ isIn n c = false) ∨ (decide (c ≥ 0) = true ∧ decide (c < (n : Int)) = false ∧ isIn n c = false) ∨ (decide (c ≥ 0) = true ∧ decide (c < (n : Int)) = true ∧ isIn n c = true) := by
  unfold isIn
  by_cases h1 : c ≥ 0
  · by_cases h2 : c < (n : Int)
    · exact .inr (.inr ⟨decide_eq_true h1, decide_eq_true h2, by simp [h2]; omega⟩)
    · exact .inr (.inl ⟨decide_eq_true h1, decide_eq_false h2, by simp [h2]⟩)
  · exact .inl ⟨decide_eq_false h1, by simp; omega⟩
/-- a row of ints of the call's own, and what there was is as it was -/
def OwnI (l : List Int) (w : World) (e : Ending) (w' : World) : Prop := ∃ A c, e = .returned (.slice A l.length c) ∧ w'.ownsRow w.heap.size 3 1 (.slice A l.length c) l.length (nv l) ∧ Below w.heap.size w w'
theorem OwnI.mk {l : List Int} {w w' : World} {A : Option Addr} {m c : Nat} (ho : w'.ownsRow w.heap.size 3 1 (.slice A m c) m (nv l)) (hb : Below w.heap.size w w') : OwnI l w (.returned (.slice A m c)) w' := by
  have : m = l.length := by have := ho.1; rw [nv_length] at this; omega
  subst this
  exact ⟨A, c, rfl, ho, hb⟩
end Go.Proofs.YtgbjpobgjmkjgaaGreat.pv
/-
  The contract of bring.
-/
namespace Go.Proofs.YtgbjpobgjmkjgaaGreat.pv
open Go.RowKit law bytes only flat nums ord obj metric
set_option linter.unusedVariables false

/-- how far a thing is from a place's -/
def dt (n : Int) (l : List At) (c : Int) (x : At) : Int := match l[c.toNat]? with | some p => M n p.x x.x | none => 0
theorem dt_at (n : Int) {l : List At} {k : Nat} (hk : k < l.length) (x : At) : dt n l (k : Int) x = M n l[k].x x.x := by
  unfold dt
  rw [Int.toNat_natCast, List.getElem?_eq_getElem hk]
theorem dt_in (n : Int) {l : List At} {c : Int} {p : At} (h : l[c.toNat]? = some p) (x : At) : dt n l c x = M n p.x x.x := by
  unfold dt
  rw [h]
theorem dt_nonneg (n : Int) (l : List At) (c : Int) (x : At) : 0 ≤ dt n l c x := by
  unfold dt
  split
  · exact M_nonneg _ _ _
  · omega
theorem M_self (n : Int) (x : Thing) : M n x x = 0 := by
  refine cases4 (p := fun n => M n x x = 0) ?_ ?_ ?_ ?_ n
  · rw [M_1]; exact (dist.D_zero _ _).2 fun _ _ => rfl
  · rw [M_2]; have := (ham.D_zero x.str x.str).2 rfl; omega
  · rw [M_3]; have := (lev.L_zero (lev.bl x.str) (lev.bl x.str)).2 rfl; omega
  · intro n h1 h2 h3; exact M_0 h1 h2 h3 x x
theorem dt_self (n : Int) (l : List At) (k : Nat) (hk : k < l.length) : dt n l (k : Int) l[k] ≤ 0 := by
  rw [dt_at n hk, M_self]
  exact Int.le_refl _
/-- short things -/
def Brief (l : List At) : Prop := ∀ p ∈ l, dist.Bd p.x.vec ∧ p.x.vec.length ≤ 65536 ∧ p.x.str.size ≤ 65536
theorem Brief.small {l : List At} (h : Brief l) {p : At} (hp : p ∈ l) : Small p.x := by
  obtain ⟨h1, h2, h3⟩ := h p hp
  exact ⟨h1, by omega, by omega⟩
theorem Brief.dt_le {l : List At} (h : Brief l) (n c : Int) {x : At} (hx : x ∈ l) : dt n l c x ≤ 281474976710656 := by
  unfold dt
  split
  · rename_i p hp
    obtain ⟨h1, h2, h3⟩ := h p (List.mem_of_getElem? hp)
    obtain ⟨h4, h5, h6⟩ := h x hx
    exact M_le h1 h4 h2 h5 h3 h6
  · omega
set_option maxRecDepth 100000 in
set_option maxHeartbeats 3200000 in
theorem bring_any (w : World) (T : Nat → Prop) (g b base cb p : Nat) (n k : Int) (A : Option Addr) (c : Nat) (l : List At) (r : List Int) (hp : p < l.length) (hT : Ts w T A l) (hTg : T g) (hTb : T b) (hgb : g ≠ b) (hs : ∀ x ∈ l, Small x.x)
    (hm : Mt w g n k) (hk : 0 ≤ k ∧ k + (l.length : Int) < 9223372036854775807) (hr : Rw w base b cb r) (hl : r.length = l.length) :
    Calls Tryz.prog 125 #[.pointer (some ⟨g, 0, none⟩), .slice A l.length c, .int .i64 p, .slice (some ⟨b, 0, none⟩) l.length cb] w fun e w' =>
      e = .returned (.tuple #[]) ∧ Only (fun i => i = g ∨ i = b) w w' ∧ Mt w' g n (k + l.length) ∧ Rw w' base b cb (brk (dt n l) p l r l.length) := by
  have HT := Lib.hid hT
  have HS := Lib.hid hs
  have HM := Lib.hid hm
  have HR := Lib.hid hr
  have HK := Lib.hid hk
  have HL := Lib.hid hl
  have HG : Hid (T g ∧ T b ∧ g ≠ b) := Lib.hid ⟨hTg, hTb, hgb⟩
  clear hT hs hm hr hk hl hTg hTb hgb
  have hl63 : (l.length : Int) < 9223372036854775807 := by have := HK.out; omega
  go_enter Tryz.func125, Tryz.ntmps125
  go_wp2_with (fail)
  go_loopg [12] l.length (fun gk s12 wr => ∃ i : Nat, gk = l.length - i ∧ i ≤ l.length ∧ s12 = .int .i64 i ∧ Only (fun j => j = g ∨ j = b) w wr ∧ Mt wr g n (k + i) ∧ Rw wr base b cb (brk (dt n l) p l r i))
  case atStart => exact ⟨0, rfl, Nat.zero_le _, rfl, Only.refl _ _, by simpa using HM.out, by rw [brk_zero]; exact HR.out⟩
  case round =>
    obtain ⟨i, rfl, hi, rfl, ho, hmt, hrw⟩ := hrel
    by_cases hlt : i < l.length
    · have hT1 : Ts wr T A l := HT.out.only (ho.mono fun j e => .inl (e.elim (fun h => h ▸ HG.out.1) (fun h => h ▸ HG.out.2.1)))
      obtain ⟨bb, oo, rfl, hbb, hnT, hcells⟩ := hT1.place (by omega)
      obtain ⟨d0, d1, d2⟩ := hcells i hlt
      obtain ⟨e0, e1, e2⟩ := hcells p hp
      have s1 := (hT1.vec _ (List.getElem_mem hlt)).sl
      have s2 := (hT1.vec _ (List.getElem_mem hp)).sl
      have z1 := HS.out _ (List.getElem_mem hlt)
      have z2 := HS.out _ (List.getElem_mem hp)
      have hil : i < r.length := by have := HL.out; omega
      have hbs := brk_set (d := dt n l) (c := p) HL.out hil
      rw [dt_at n hp] at hbs
      have hba := brk_at (d := dt n l) (c := p) HL.out hil
      have hbl := brk_length (d := dt n l) (c := p) (k := i) HL.out
      obtain ⟨L, hL⟩ : ∃ L, brk (dt n l) p l r i = L := ⟨_, rfl⟩
      obtain ⟨L2, hL2⟩ : ∃ L2, brk (dt n l) p l r (i + 1) = L2 := ⟨_, rfl⟩
      rw [hL, hL2] at hbs
      rw [hL] at hba hbl hrw
      have HL2 := Lib.hid hL2
      clear hL hL2
      generalize r[i] = a at hba hbs
      generalize l[i] = x at d0 d1 d2 s1 z1 hbs
      generalize l[p] = y at e0 e1 e2 s2 z2 hbs
      have hiL : i < L.length := by omega
      have hLi : L[i] = a := by
        have := List.getElem?_eq_getElem hiL
        rw [hba] at this
        injection this with this
        exact this.symm
      have hg := hmt.lt
      have hbw := hrw.lt
      have i1 : (i : Int) < (l.length : Int) := by omega
      have i2 : (p : Int) < (l.length : Int) := by omega
      obtain ⟨V, hV⟩ : ∃ V, V = wr.alloc (.cells #[.int .i64 x.x.tag, .slice x.a x.x.vec.length x.c, .string x.x.str] 35) := ⟨_, rfl⟩
      have hbV : Below wr.heap.size wr V := by rw [hV]; exact (Below.refl _ _).alloc (Nat.le_refl _) _
      have hkx : Blk V wr.heap.size 35 #[.int .i64 x.x.tag, .slice x.a x.x.vec.length x.c, .string x.x.str] := by rw [hV]; exact Blk.new wr _ _
      have hz : V.heap.size = wr.heap.size + 1 := by rw [hV]; simp
      obtain ⟨q0, q1, q2, qf⟩ := cells3 hkx
      have e0 : V.cell? ⟨bb, oo + p * 3, none⟩ = some (.int .i64 y.x.tag) := (hbV.cell (p := ⟨bb, oo + p * 3, none⟩) hbb).trans e0
      have e1 : V.cell? ⟨bb, oo + p * 3 + 1, none⟩ = some (.slice y.a y.x.vec.length y.c) := (hbV.cell (p := ⟨bb, oo + p * 3 + 1, none⟩) hbb).trans e1
      have e2 : V.cell? ⟨bb, oo + p * 3 + 2, none⟩ = some (.string y.x.str) := (hbV.cell (p := ⟨bb, oo + p * 3 + 2, none⟩) hbb).trans e2
      have hrV : Rw V base b cb L := hrw.on hbV
      have r0 : V.cell? ⟨b, i, none⟩ = some (.int .i64 a) := by rw [hrV.cell hiL, hLi]
      have rf : V.frozen? ⟨b, i, none⟩ = false := hrV.frozen i
      have HD : Hid (∀ W, Below V.heap.size V W → Calls Tryz.prog 69 #[.pointer (some ⟨g, 0, none⟩), .agg #[.int .i64 y.x.tag, .slice y.a y.x.vec.length y.c, .string y.x.str], .agg #[.int .i64 x.x.tag, .slice x.a x.x.vec.length x.c, .string x.x.str]] W fun e w2 => e = .returned (.int .i64 (M n y.x x.x)) ∧ w2.cell? ⟨b, i, none⟩ = some (.int .i64 a) ∧ w2.frozen? ⟨b, i, none⟩ = false ∧
          Hid (Only (fun j => j = g ∨ j = b) w (w2.setCell ⟨b, i, none⟩ (.int .i64 (min a (M n y.x x.x)))) ∧ Mt (w2.setCell ⟨b, i, none⟩ (.int .i64 (min a (M n y.x x.x)))) g n (k + (i + 1 : Nat)) ∧ Rw (w2.setCell ⟨b, i, none⟩ (.int .i64 (min a (M n y.x x.x)))) base b cb L2)) := Lib.hid fun W hW => by
        have hbW : Below wr.heap.size wr W := hbV.trans (hW.mono (by omega))
        have hkb := HK.out
        refine (cdist_any y.a x.a y.c x.c y.x x.x z2 z1 W ((s2.below hbW).more hbW.size) ((s1.below hbW).more hbW.size) (hmt.below hbW hg) (by omega)).mono fun e w2 ⟨he, hgr, hm2⟩ => ?_
        have hr2 : Rw w2 base b cb L := (hrw.on hbW).only (S := fun j => j = g) (Only.of_grown hgr fun j e => .inl (by injection e with e; exact e.symm)) (fun e => HG.out.2.2 e.symm)
        have ho2 : Only (fun j => j = g ∨ j = b) w w2 := (ho.on hbW).trans (Only.of_grown hgr (S := fun j => j = g) fun j e => .inl (by injection e with e; exact e.symm)) fun j e => .inl (.inl e)
        refine ⟨he, by rw [hr2.cell hiL, hLi], hr2.frozen i, Lib.hid ⟨ho2.setCell (p := ⟨b, i, none⟩) (.inl (.inr rfl)) _, ?_, ?_⟩⟩
        · have e : k + (i : Int) + 1 = k + ((i + 1 : Nat) : Int) := by push_cast; omega
          rw [e] at hm2
          exact Blk.far hm2 (p := ⟨b, i, none⟩) HG.out.2.2 _
        · rw [← hbs]
          exact hr2.set i _
      have HV := Lib.hid hV
      clear hcells hT1 s1 s2 z1 z2 hbs hba hbl hrw hmt ho hiL hLi hbV hkx hz hrV
      generalize M n y.x x.x = d at HD
      go_wp2_with (fail)
      rw [← hV]
      clear hV
      go_region_law (first | (go_simp; go_at_call 69; (with_reducible refine (HD.out _ (by repeat' (first | (with_reducible exact Below.refl _ _) | (with_reducible assumption) | (with_reducible refine Below.drew ?_) | (with_reducible refine below_drewN' ?_ _)))).mono ?_); rintro e w2 ⟨rfl, x0, xf, xE⟩))
      all_goals
        go_wp2_with (fail)
        go_roundg (l.length - (i + 1))
        case measure => omega
        case rel => exact ⟨i + 1, rfl, by omega, by go_num, xE.out.1, xE.out.2.1, by rw [HL2.out]; exact xE.out.2.2⟩
    · obtain rfl : i = l.length := by omega
      have i1 : ¬ (l.length : Int) < (l.length : Int) := by omega
      have HE := Lib.hid (And.intro ho (And.intro hmt hrw))
      clear ho hmt hrw
      go_wp2_with (fail)
      go_end0
      exact ⟨rfl, HE.out.1, HE.out.2.1, HE.out.2.2⟩
end Go.Proofs.YtgbjpobgjmkjgaaGreat.pv
/-
  The contracts of Choose and Spread.
-/
namespace Go.Proofs.YtgbjpobgjmkjgaaGreat.pv
open Go.RowKit law bytes only flat nums ord obj metric
set_option linter.unusedVariables false

theorem own_base {w : World} {B B' : Nat} {e : TypeId} {size n : Nat} {v : Value} {xs : List Value} (h : w.ownsRow B e size v n xs) (hB : B' ≤ B) : w.ownsRow B' e size v n xs := by
  refine ⟨h.1, ?_⟩
  rcases h.2 with h | ⟨g, c, cur, hv, hg, rest⟩
  · exact .inl h
  · exact .inr ⟨g, c, cur, hv, Nat.le_trans hB hg, rest⟩
/-- where Choose and Spread stand: the chosen ones' row v; least distances from cr; asked m times more -/
structure St (w W : World) (g : Nat) (n k : Int) (l : List At) (v : Value) (cs cr : List Int) (m : Nat) : Prop where
  own : W.ownsRow (w.heap.size + 1) 3 1 v cs.length (nv cs)
  row : Rw W w.heap.size w.heap.size l.length (lr (dt n l) U63 cr l)
  only : Only (fun i => i = g) w W
  mt : Mt W g n (k + (m : Int))
/-- what is asked for in both -/
structure Fit (w : World) (g : Nat) (n k : Int) (A : Option Addr) (l : List At) : Prop where
  ts : Ts w (fun i => i = g) A l
  mt : Mt w g n k
  brief : Brief l
section
variable {w W W' : World} {g c : Nat} {n k : Int} {A : Option Addr} {l : List At} {v : Value} {cs cr : List Int} {m p : Nat}
theorem Fit.things (h : Fit w g n k A l) (o : Only (fun i => i = g) w W) : Ts W (fun i => i = g ∨ w.heap.size ≤ i) A l := h.ts.step o fun i hi hn e => by
  rcases e with e | e
  · exact hn e
  · omega
theorem St.bring (h : St w W g n k l v cs cr m) (hF : Fit w g n k A l) (hp : p < l.length) (h0 : 0 ≤ k) (h1 : k + (m : Int) + (l.length : Int) < 9223372036854775807) :
    Calls Tryz.prog 125 #[.pointer (some ⟨g, 0, none⟩), .slice A l.length c, .int .i64 p, .slice (some ⟨w.heap.size, 0, none⟩) l.length l.length] W fun e w' => e = .returned (.tuple #[]) ∧ St w w' g n k l v cs (cr ++ [(p : Int)]) (m + l.length) := by
  have hg := hF.mt.lt
  refine (bring_any W _ g w.heap.size w.heap.size l.length p n (k + m) A c l _ hp (hF.things h.only) (.inl rfl) (.inr (Nat.le_refl _)) (Nat.ne_of_lt hg) (fun x hx => hF.brief.small hx) h.mt (by omega) h.row (lr_length ..)).mono fun e w' ⟨he, ho, hm, hr⟩ => ⟨he, ?_, ?_, ?_, ?_⟩
  · exact own_only h.own ho fun i e e2 => by
      have h2 := (own_lt h.own e).1
      rcases e2 with e2 | e2 <;> omega
  · rw [brk_all] at hr
    exact hr
  · exact h.only.trans ho fun i e => e.elim .inl fun e => .inr (by omega)
  · rw [Int.add_assoc] at hm
    push_cast
    exact hm
theorem St.far (h : St w W g n k l v cs cr m) (h0 : 0 < l.length) (hm : l.length ≤ 8796093022208) :
    Calls Tryz.prog 126 #[.slice (some ⟨w.heap.size, 0, none⟩) l.length l.length] W fun e w' => e = .returned (.int .i64 (mp (lr (dt n l) U63 cr l))) ∧ W = w' := by
  have hl := lr_length (dt n l) U63 cr l
  have := farthest_any w.heap.size l.length w.heap.size (lr (dt n l) U63 cr l) (by omega) W h.row (by omega)
  rwa [hl] at this
theorem St.on (h : St w W g n k l v cs cr m) (o : Below W.heap.size W W') : St w W' g n k l v cs cr m :=
  ⟨own_below h.own o (Nat.le_refl _), h.row.on o, h.only.on o, h.mt.below o h.mt.lt⟩
/-- one chosen place more -/
theorem St.grown {v4 : Value} {x : Int} (h : St w W g n k l v cs cr m) (hg : g < w.heap.size) (hg4 : W.grownBy W' v.ownBlock) (ho : W'.ownsRow (w.heap.size + 1) 3 1 v4 (cs.length + 1) (nv cs ++ [.int .i64 x])) : St w W' g n k l v4 (cs ++ [x]) cr m := by
  have ho2 : Only (fun i => v.ownBlock = some i) W W' := Only.of_grown hg4 fun i e => .inl e
  have hlo : ∀ i, v.ownBlock = some i → w.heap.size < i := fun i e => (own_lt h.own e).1
  refine ⟨?_, h.row.only ho2 fun e => by have := hlo _ e; omega, h.only.trans ho2 fun i e => .inr (by have := hlo i e; omega), Blk.only h.mt ho2 fun e => by have := hlo _ e; omega⟩
  rw [nv_snoc, List.length_append]
  exact ho
theorem St.cell (h : St w W g n k l v cs cr m) (hp : p < l.length) : W.cell? ⟨w.heap.size, p, none⟩ = some (.int .i64 ((lr (dt n l) U63 cr l).getD p 0)) := by
  have hl := lr_length (dt n l) U63 cr l
  rw [h.row.cell (i := p) (by omega)]
  simp [List.getD, hl, hp]
end
/-- a row of ints of the call's own; the meter asked m times more -/
def Chosen (w : World) (g : Nat) (n k : Int) (cs : List Int) (m : Nat) (e : Ending) (w' : World) : Prop :=
  ∃ A c, e = .returned (.slice A cs.length c) ∧ w'.ownsRow w.heap.size 3 1 (.slice A cs.length c) cs.length (nv cs) ∧ Only (fun i => i = g) w w' ∧ Mt w' g n (k + (m : Int))
set_option maxRecDepth 100000 in
set_option maxHeartbeats 3200000 in
theorem choose_any (w : World) (g : Nat) (n k : Int) (A : Option Addr) (c : Nat) (l : List At) (p f : Int) (hF : Fit w g n k A l) (hk : 0 ≤ k ∧ k ≤ 4611686018427387904) (hl : l.length ≤ 1048576) :
    Calls Tryz.prog 89 #[.pointer (some ⟨g, 0, none⟩), .slice A l.length c, .int .i64 p, .int .i64 f] w (Chosen w g n k (chs (dt n l) U63 l p f) ((chs (dt n l) U63 l p f).length * l.length)) := by
  rcases Nat.eq_zero_or_pos l.length with h0 | h0
  · have hc : chs (dt n l) U63 l p f = [] := by unfold chs; rw [if_pos h0]
    rw [hc, h0]
    have HE : Hid (Chosen w g n k [] 0 (.returned (.slice none 0 0)) w) := Lib.hid ⟨none, 0, rfl, World.ownsRow_nil _ _ _ _, Only.refl _ _, by simpa using hF.mt⟩
    clear hF hc
    go_enter Tryz.func89, Tryz.ntmps89
    go_wp2_with (fail)
    go_ret
    exact HE.out
  · obtain ⟨R, hR⟩ : ∃ R, chs (dt n l) U63 l p f = R := ⟨_, rfl⟩
    have hR2 : goA (dt n l) U63 l p.toNat [] (first l.length f) = R := by rw [← hR]; unfold chs; rw [if_neg (by omega)]
    rw [hR]
    have HF := Lib.hid hF
    have HR2 := Lib.hid hR2
    have hbe := beyond_any l.length h0 (by omega) w
    have HBE := Lib.hid hbe
    have hfl := first_lt h0 f
    have hfi := first_is h0 f
    have hsq : l.length * l.length ≤ 1048576 * 1048576 := Nat.mul_le_mul hl hl
    have e0 : ((l.length : Int) == 0) = false := beq_eq_false_iff_ne.2 (by omega)
    have e1 : (l.length == 0) = false := beq_eq_false_iff_ne.2 (by omega)
    have i0 : IntKind.i64.wrap ((l.length : Int) - 1) = (l.length : Int) - 1 := by rw [IntKind.wrap_i64]; omega
    have HSQ := Lib.hid hsq
    clear hF hR hR2 hbe hsq
    go_enter Tryz.func89, Tryz.ntmps89
    go_wp2_with (fail)
    refine HBE.out.mono ?_
    rintro e w1 ⟨rfl, hr1, hb1⟩
    have hst : St w w1 g n k l (.slice none 0 0) [] [] 0 := ⟨World.ownsRow_nil _ _ _ _, by rw [lr_nil]; exact hr1, Only.of_below hb1 (Nat.le_refl _) _, by simpa using HF.out.mt.below hb1 HF.out.mt.lt⟩
    have HST := Lib.hid hst
    clear HBE hr1 hb1 hst
    go_wp2_with (fail)
    go_loopg [9, 11] p.toNat (fun gk s9 s11 wr => ∃ (cs : List Int) (q cc : Nat) (A' : Option Addr), gk = p.toNat - cs.length ∧ s9 = .slice A' cs.length cc ∧ s11 = .int .i64 q ∧ q < l.length ∧ Once (dt n l) l cs ∧ goA (dt n l) U63 l (p.toNat - cs.length) cs q = R ∧ St w wr g n k l (.slice A' cs.length cc) cs cs (cs.length * l.length))
    case atStart => exact ⟨[], first l.length f, 0, none, rfl, rfl, by first | rfl | rw [hfi], hfl, Once.nil, HR2.out, by simpa using HST.out⟩
    case round =>
      clear HST HR2
      obtain ⟨cs, q, cc, A', rfl, rfl, rfl, hq, hon, hgo, hst⟩ := hrel
      have hlen := hon.len
      have hsz := hst.row.lt
      have c0 := hst.cell hq
      have HE : Hid (R = cs → Chosen w g n k R (R.length * l.length) (.returned (.slice A' cs.length cc)) wr) := Lib.hid fun e => by
        subst e
        exact ⟨A', cc, rfl, own_base hst.own (Nat.le_succ _), hst.only, hst.mt⟩
      obtain ⟨a, ha⟩ : ∃ a, (lr (dt n l) U63 cs l).getD q 0 = a := ⟨_, rfl⟩
      rw [ha] at c0
      by_cases hp : (cs.length : Int) < p
      · obtain ⟨K, hK⟩ : ∃ K, p.toNat - cs.length = K + 1 := ⟨p.toNat - cs.length - 1, by omega⟩
        rw [hK] at hgo
        have hgo2 : (if 0 < a then goA (dt n l) U63 l K (cs ++ [(q : Int)]) (mp (lr (dt n l) U63 (cs ++ [(q : Int)]) l)) else cs) = R := by rw [← ha]; exact hgo
        by_cases hpos : a > 0
        · rw [if_pos hpos] at hgo2
          have hon2 : Once (dt n l) l (cs ++ [(q : Int)]) := hon.snoc (S := U63) (dt_self n l) hq (by rw [ha]; exact hpos)
          have hlen2 := hon2.len
          rw [List.length_append, List.length_singleton] at hlen2
          have hmul : (cs.length + 1) * l.length ≤ l.length * l.length := Nat.mul_le_mul_right _ hlen2
          have hmul2 : (cs.length + 1) * l.length = cs.length * l.length + l.length := Nat.succ_mul _ _
          have d0 : decide ((cs.length : Int) < p) = true := decide_eq_true hp
          have d1 : decide (a > 0) = true := decide_eq_true hpos
          have HBR : Hid (∀ W v4, St w W g n k l v4 (cs ++ [(q : Int)]) cs (cs.length * l.length) → Calls Tryz.prog 125 #[.pointer (some ⟨g, 0, none⟩), .slice A l.length c, .int .i64 q, .slice (some ⟨w.heap.size, 0, none⟩) l.length l.length] W fun e w' => e = .returned (.tuple #[]) ∧ St w w' g n k l v4 (cs ++ [(q : Int)]) (cs ++ [(q : Int)]) (cs.length * l.length + l.length)) := Lib.hid fun W v4 h =>
            h.bring HF.out hq hk.1 (by have := HSQ.out; have := hk.2; omega)
          have HFA : Hid (∀ W v4 m, St w W g n k l v4 (cs ++ [(q : Int)]) (cs ++ [(q : Int)]) m → Calls Tryz.prog 126 #[.slice (some ⟨w.heap.size, 0, none⟩) l.length l.length] W fun e w' => e = .returned (.int .i64 (mp (lr (dt n l) U63 (cs ++ [(q : Int)]) l))) ∧ W = w') := Lib.hid fun W v4 m h =>
            h.far h0 (by omega)
          have hmp : mp (lr (dt n l) U63 (cs ++ [(q : Int)]) l) < l.length := by have := mp_lt (r := lr (dt n l) U63 (cs ++ [(q : Int)]) l) (by rw [lr_length]; exact h0); rwa [lr_length] at this
          obtain ⟨qn, hqn⟩ : ∃ qn, mp (lr (dt n l) U63 (cs ++ [(q : Int)]) l) = qn := ⟨_, rfl⟩
          rw [hqn] at HFA hgo2 hmp
          have HGO := Lib.hid hgo2
          have HON := Lib.hid hon2
          have HML := Lib.hid hmul2
          have HK2 := Lib.hid hK
          have HLN := Lib.hid hlen2
          have hstA := hst.on ((Below.refl _ wr).alloc (Nat.le_refl _) (.cells #[.int .i64 (q : Int)] 3))
          have HSA := Lib.hid hstA
          have hbd : (cs.length + 1) * 8 ≤ 140737488355328 := by omega
          have hbd2 : cs.length + 1 ≤ maxLen := by unfold maxLen; omega
          have hbd3 : w.heap.size + 1 ≤ (wr.alloc (.cells #[.int .i64 (q : Int)] 3)).heap.size := by simp; omega
          clear hst hgo hgo2 hon hon2 hmul hmul2 ha hpos hqn hK hlen2 HE hstA
          go_wp2_with (at_builtin
                       refine wpList_append_sl _ rfl (.tmp 35) (.tmp 37) _ rfl (w.heap.size + 1) 3 _ 8 Tryz.underlying39 intE (.slice A' cs.length cc) cs.length (nv cs) rfl HSA.out.own _ _ 1 1 [.int .i64 q] rfl (Sl.one wr _ _) rfl (by simp [Value.oneCell']) hbd hbd2 hbd3 ?_
                       intro v4 w4 hown4 hg4 hat4
                       obtain ⟨A4, c4, rfl, hc4⟩ := own_slice hown4)
          have HS4 := Lib.hid (HSA.out.grown HF.out.mt.lt hg4 hown4)
          clear hown4 hg4 hat4 c0
          refine (HBR.out _ _ HS4.out).mono ?_
          rintro e w5 ⟨rfl, hs5⟩
          have HS5 := Lib.hid hs5
          clear HS4 hs5
          go_wp2_with (fail)
          refine (HFA.out _ _ _ HS5.out).mono ?_
          rintro e w6 ⟨rfl, rfl⟩
          go_wp2_with (fail)
          go_roundg K
          case measure => have := HK2.out; omega
          case rel => exact ⟨cs ++ [(q : Int)], qn, c4, A4, by have := HK2.out; rw [List.length_append, List.length_singleton]; omega, by rw [List.length_append, List.length_singleton], rfl, hmp, HON.out, by
            have := HK2.out
            rw [List.length_append, List.length_singleton, show p.toNat - (cs.length + 1) = K by omega]
            exact HGO.out, by
            rw [List.length_append, List.length_singleton, HML.out]
            exact HS5.out⟩
        · rw [if_neg hpos] at hgo2
          have HF2 := Lib.hid (HE.out hgo2.symm)
          have d0 : decide ((cs.length : Int) < p) = true := decide_eq_true hp
          have d1 : decide (a > 0) = false := decide_eq_false hpos
          clear HE hst hgo hgo2 hon hlen ha hpos hK
          go_wp2_with (fail)
          go_ret
          exact HF2.out
      · have hgo2 : cs = R := by
          rw [show p.toNat - cs.length = 0 by omega] at hgo
          exact hgo
        have HF2 := Lib.hid (HE.out hgo2.symm)
        have d0 : decide ((cs.length : Int) < p) = false := decide_eq_false hp
        clear HE hst hgo hgo2 hon hlen ha
        go_wp2_with (fail)
        go_ret
        exact HF2.out
/-! ### Spread -/
/-- how far a thing is at most from the nearest one of those that are chosen -/
def spr (n : Int) (l : List At) (ch : List Int) : Int := if (ins l.length ch).length = 0 then 0 else (lr (dt n l) U63 (ins l.length ch) l).getD (mp (lr (dt n l) U63 (ins l.length ch) l)) 0
def Spread (w : World) (g : Nat) (n k x : Int) (m : Nat) (e : Ending) (w' : World) : Prop := e = .returned (.int .i64 x) ∧ Only (fun i => i = g) w w' ∧ Mt w' g n (k + (m : Int))
theorem Fit.on {w w' : World} {g : Nat} {n k : Int} {A : Option Addr} {l : List At} (h : Fit w g n k A l) (o : Below w.heap.size w w') : Fit w' g n k A l := ⟨h.ts.on o, h.mt.below o h.mt.lt, h.brief⟩
end Go.Proofs.YtgbjpobgjmkjgaaGreat.pv
