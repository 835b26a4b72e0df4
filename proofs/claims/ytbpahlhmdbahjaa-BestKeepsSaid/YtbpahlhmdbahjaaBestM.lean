/-
  Program-free but for the order's name: the first k of hits, one more of them, how far one may be, a row turned round.
-/
import Derived.Test.YtbpahlhmdbahjaaBCmp
import Derived.Sort.LotA
namespace Go.Proofs.Ytbpahlhmdbahjaa.best
open Go.RowKit law bytes only flat hit heapM Go.Sort Go.Shelf
set_option linter.unusedVariables false

/-- the first k of hits -/
def keep (k : Int) (l : List Hit) : List Hit := (sortH l).take k.toNat
/-- is one more of those that are kept? -/
def ad (k : Int) (l : List Hit) (h : Hit) : Bool := decide (keep k (l ++ [h]) ≠ keep k l)
/-- how far a hit may be -/
def bd (k : Int) (l : List Hit) : Int := if k < 1 then -1 else if ((keep k l).length : Int) < k then 1125899906842624 else (keep k l)[k.toNat - 1]!.2
theorem sortH_snoc (l : List Hit) (h : Hit) : sortH (l ++ [h]) = put h (sortH l) := by unfold sortH; rw [List.foldl_append]; rfl
theorem keep_length (k : Int) (l : List Hit) : (keep k l).length = min k.toNat l.length := by unfold keep; rw [List.length_take, sortH_length]
theorem keep_le (k : Int) (l : List Hit) : (keep k l).length ≤ l.length := by rw [keep_length]; omega
theorem keep_rises (k : Int) (l : List Hit) : Rises (keep k l) := (sortH_rises l).sublist (List.take_sublist _ _)
theorem keep_nil (k : Int) : keep k [] = [] := by unfold keep sortH; simp
theorem keep_of_perm (k : Int) {l m : List Hit} (h : l.Perm m) : keep k l = keep k m := by unfold keep; rw [sortH_of_perm h]
theorem bd_of_perm (k : Int) {l m : List Hit} (h : l.Perm m) : bd k l = bd k m := by unfold bd; rw [keep_of_perm k h]
theorem rises_at {S : List Hit} (hr : Rises S) {i j : Nat} (hi : i < S.length) (hj : j < S.length) (hij : i ≤ j) : lt S[j] S[i] = false := by
  rcases Nat.lt_or_eq_of_le hij with h | rfl
  · exact (List.pairwise_iff_getElem.1 hr) i j hi hj h
  · exact swo.irrefl _
theorem lt_le {x y z : Hit} (h1 : lt x y = true) (h2 : lt z y = false) : lt x z = true := by rw [lt_iff] at *; rw [nlt_iff] at h2; omega
theorem take_put (h : Hit) : ∀ (S : List Hit) (n : Nat) (hn : n < S.length), Rises S → (put h S).take (n + 1) = if lt h S[n] = true then put h (S.take n) else S.take (n + 1)
  | [], n, hn, _ => by simp at hn
  | x :: t, n, hn, hr => by
    obtain ⟨h1, h2⟩ := List.pairwise_cons.1 hr
    unfold put
    by_cases hl : lt h x = true
    · have hS : lt h (x :: t)[n] = true := lt_le hl (rises_at hr (i := 0) (by simp) hn (Nat.zero_le _))
      rw [if_pos hl, if_pos hS]
      cases n with
      | zero => rfl
      | succ m =>
        rw [List.take_succ_cons]
        show _ = put h (x :: t.take m)
        unfold put
        rw [if_pos hl]; rfl
    · rw [if_neg hl]
      cases n with
      | zero =>
        have hS : ¬ lt h (x :: t)[0] = true := hl
        rw [if_neg hS]; rfl
      | succ m =>
        have hm : m < t.length := by simpa using hn
        have ih := take_put h t m hm h2
        rw [List.take_succ_cons, ih]
        show _ = if lt h t[m] = true then put h (x :: t.take m) else x :: t.take (m + 1)
        by_cases hS : lt h t[m] = true
        · rw [if_pos hS, if_pos hS]
          show _ = if lt h x = true then _ else _
          rw [if_neg hl]
        · rw [if_neg hS, if_neg hS]
section
variable {k : Int} {l : List Hit} {h : Hit} {d d' : Array Hit}
theorem size_of (hp : d.toList.Perm (keep k l)) : d.size = (keep k l).length := by simpa using hp.length_eq
/-- there is room -/
theorem add_room (hk : ((keep k l).length : Int) < k) : ad k l h = true ∧ keep k (l ++ [h]) = put h (keep k l) := by
  have h1 := keep_length k l
  have e1 : keep k l = sortH l := by unfold keep; rw [List.take_of_length_le]; rw [sortH_length]; omega
  have e2 : keep k (l ++ [h]) = put h (sortH l) := by unfold keep; rw [sortH_snoc, List.take_of_length_le]; rw [put_length, sortH_length]; omega
  refine ⟨?_, by rw [e2, e1]⟩
  unfold ad
  rw [e1, e2]
  refine decide_eq_true fun e => ?_
  have := congrArg List.length e
  rw [put_length] at this
  omega
/-- none is kept -/
theorem add_none (hk : k < 1) : ad k l h = false ∧ keep k l = [] ∧ keep k (l ++ [h]) = [] := by
  have e : ∀ l, keep k l = [] := fun l => by unfold keep; rw [show k.toNat = 0 by omega]; rfl
  exact ⟨by unfold ad; rw [e, e]; simp, e _, e _⟩
/-- what a full one keeps: those ahead of the last one, and that -/
theorem keep_split {n : Nat} (hn : k.toNat = n + 1) (hl : n < l.length) : ∃ T x, keep k l = T ++ [x] ∧ T.length = n ∧
    keep k (l ++ [h]) = (if lt h x = true then put h T else T ++ [x]) ∧ ∀ y ∈ T ++ [x], lt x y = false := by
  have hl2 : n < (sortH l).length := by rw [sortH_length]; exact hl
  have e1 : keep k l = (sortH l).take n ++ [(sortH l)[n]] := by unfold keep; rw [hn, List.take_succ_eq_append_getElem hl2]
  refine ⟨(sortH l).take n, (sortH l)[n], e1, by rw [List.length_take]; omega, ?_, fun y hy => ?_⟩
  · unfold keep
    rw [sortH_snoc, hn, take_put h _ n hl2 (sortH_rises l), List.take_succ_eq_append_getElem hl2]
  · rw [← e1] at hy
    obtain ⟨i, hi, rfl⟩ := List.getElem_of_mem hy
    have hi2 : i < n + 1 := by have := keep_length k l; omega
    have e2 : (keep k l)[i] = (sortH l)[i]'(by omega) := by unfold keep; exact List.getElem_take ..
    rw [e2]
    exact rises_at (sortH_rises l) (by omega) hl2 (by omega)
/-- the heap's first one is the last one that is kept -/
theorem top_is {T : List Hit} {x : Hit} (hH : Heap (lf cB) d) (hp : d.toList.Perm (T ++ [x])) (hx : ∀ y ∈ T ++ [x], lt x y = false) : 0 < d.size ∧ d[0]! = x := by
  have h0 : 0 < d.size := by have := hp.length_eq; simp at this; omega
  refine ⟨h0, ?_⟩
  have hm : d[0]! ∈ d.toList := by rw [getElem!_pos d 0 h0]; exact Array.getElem_mem_toList _
  have hy : x ∈ d.toList := hp.symm.subset (by simp)
  obtain ⟨j, hj, e⟩ := List.getElem_of_mem hy
  have hj2 : j < d.size := by simpa using hj
  have h1 := hH.top cB_swo j j (Nat.le_refl _) hj2
  rw [cB_lt, getElem!_pos d j hj2] at h1
  simp only [Array.getElem_toList] at e
  rw [e] at h1
  exact anti h1 (hx _ (hp.subset hm))
theorem add_full {n : Nat} (hn : k.toNat = n + 1) (hl : n < l.length) (hH : Heap (lf cB) d) (hp : d.toList.Perm (keep k l)) : 0 < d.size ∧
    (lt h d[0]! = true → ad k l h = true ∧ ∀ d' d'' : Array Hit, (d[0]! :: d'.toList).Perm d.toList → d''.toList.Perm (h :: d'.toList) → d''.toList.Perm (keep k (l ++ [h]))) ∧
    (lt h d[0]! = false → ad k l h = false ∧ keep k (l ++ [h]) = keep k l) := by
  obtain ⟨T, x, e1, hT, e2, hx⟩ := keep_split (h := h) hn hl
  rw [e1] at hp
  obtain ⟨h0, ht⟩ := top_is hH hp hx
  refine ⟨h0, fun hlt => ?_, fun hlt => ?_⟩
  · rw [ht] at hlt
    rw [if_pos hlt] at e2
    refine ⟨?_, fun d' d'' p1 p2 => ?_⟩
    · unfold ad
      rw [e1, e2]
      refine decide_eq_true fun e => ?_
      have p : (h :: T).Perm (x :: T) := (put_perm h T).symm.trans ((List.Perm.of_eq e).trans (List.perm_append_comm (l₁ := T) (l₂ := [x])))
      have hm : h ∈ T ++ [x] := by
        rw [← e]; exact (put_perm h T).symm.subset (List.mem_cons_self ..)
      have hc := p.count_eq h
      have hxh : h ≠ x := fun e3 => by rw [e3, swo.irrefl] at hlt; cases hlt
      rw [List.count_cons_self, List.count_cons_of_ne (Ne.symm hxh)] at hc
      omega
    · rw [ht] at p1
      have p3 : (x :: d'.toList).Perm (x :: T) := p1.trans (hp.trans (List.perm_append_comm (l₁ := T) (l₂ := [x])))
      rw [e2]
      exact p2.trans ((List.Perm.cons h (List.Perm.cons_inv p3)).trans (put_perm h T).symm)
  · rw [ht] at hlt
    rw [if_neg (by rw [hlt]; simp)] at e2
    exact ⟨by unfold ad; rw [e1, e2]; simp, by rw [e1, e2]⟩
/-- how far one may be, as the heap tells it -/
theorem bd_room (hk : ((keep k l).length : Int) < k) : bd k l = 1125899906842624 := by
  unfold bd; rw [if_neg (by omega), if_pos hk]
theorem bd_none (hk : k < 1) : bd k l = -1 := by unfold bd; rw [if_pos hk]
theorem bd_full {n : Nat} (hn : k.toNat = n + 1) (hl : n < l.length) (hH : Heap (lf cB) d) (hp : d.toList.Perm (keep k l)) : bd k l = d[0]!.2 := by
  obtain ⟨T, x, e1, hT, e2, hx⟩ := keep_split (h := (0, 0)) hn hl
  have hlen := congrArg List.length e1
  rw [List.length_append, hT] at hlen
  simp only [List.length_singleton] at hlen
  unfold bd
  rw [if_neg (by omega), if_neg (by omega), e1]
  rw [e1] at hp
  rw [(top_is hH hp hx).2]
  have : (T ++ [x])[k.toNat - 1]! = x := by
    rw [getElem!_pos _ _ (by rw [List.length_append, hT]; simp; omega), List.getElem_append_right (by omega)]
    simp
  rw [this]
end
/-- a falling row of what is kept, turned round -/
theorem turned {k : Int} {l R : List Hit} {d : Array Hit} (hp : d.toList.Perm (keep k l)) (p1 : PermIn 0 d.size d R.toArray) (p2 : SortedIn (lf cB) 0 d.size R.toArray) : R.length = d.size ∧ R.reverse = keep k l := by
  have e0 : R.length = d.size := by simpa using p1.1
  refine ⟨e0, rise_eq _ _ ?_ ?_ (keep_rises k l)⟩
  · have h := p1.2.2
    have e1 : R.toArray.extract 0 d.size = R.toArray := by rw [← p1.1]; simp
    have e2 : d.extract 0 d.size = d := by simp
    rw [e1, e2] at h
    exact (List.reverse_perm R).trans ((by simpa using h : R.Perm d.toList).trans hp)
  · unfold Rises
    rw [List.pairwise_reverse, List.pairwise_iff_getElem]
    intro i j hi hj hij
    have h := p2 i j (Nat.zero_le _) hij (by omega)
    rw [cB_lt, getElem!_pos R.toArray i (by simpa using hi), getElem!_pos R.toArray j (by simpa using hj)] at h
    simpa using h
/-! ### a row turned round, pair by pair -/
def Rvd (d : Array Hit) (i : Nat) (d' : Array Hit) : Prop := d'.size = d.size ∧ ∀ t, t < d.size → d'[t]! = if t < i ∨ d.size - 1 - t < i then d[d.size - 1 - t]! else d[t]!
theorem Rvd.start (d : Array Hit) : Rvd d 0 d := ⟨rfl, fun t ht => by rw [if_neg (by omega)]⟩
theorem Rvd.step {d d' : Array Hit} {i j : Nat} (h : Rvd d i d') (hij : i + j + 1 = d.size) (hlt : i < j) : Rvd d (i + 1) (swp d' i j) := by
  refine ⟨by rw [size_swp]; exact h.1, fun t ht => ?_⟩
  have hi := h.2 i (by omega)
  have hj := h.2 j (by omega)
  rw [if_neg (by omega)] at hi hj
  have hs := h.1
  by_cases h1 : t = i
  · subst h1
    rw [swp_left _ _ _ (by omega) (by omega), hj, if_pos (by omega), show d.size - 1 - t = j by omega]
  · by_cases h2 : t = j
    · subst h2
      rw [swp_right _ _ _ (by omega), hi, if_pos (by omega), show d.size - 1 - t = i by omega]
    · rw [swp_other _ _ _ _ h1 h2, h.2 t ht]
      by_cases h3 : t < i ∨ d.size - 1 - t < i
      · rw [if_pos h3, if_pos (by omega)]
      · rw [if_neg h3, if_neg (by omega)]
theorem Rvd.done {d d' : Array Hit} {i j : Nat} (h : Rvd d i d') (hij : i + j + 1 = d.size) (hge : ¬ i < j) : d'.toList = d.toList.reverse := by
  have hs := h.1
  refine List.ext_getElem (by simp [hs]) fun t h1 h2 => ?_
  have ht : t < d.size := by simpa [hs] using h1
  have e := h.2 t ht
  rw [List.getElem_reverse]
  simp only [Array.getElem_toList, Array.length_toList]
  rw [← getElem!_pos d' t (by omega), ← getElem!_pos d (d.size - 1 - t) (by omega), e]
  by_cases h3 : t < i ∨ d.size - 1 - t < i
  · rw [if_pos h3]
  · rw [if_neg h3, show d.size - 1 - t = t by omega]
end Go.Proofs.Ytbpahlhmdbahjaa.best
