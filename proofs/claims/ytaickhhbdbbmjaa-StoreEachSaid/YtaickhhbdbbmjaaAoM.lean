/-
  Program-free, of any things: slots as a list of what is in each, and the free ones in the order in which they became so: what a Put, a Cut and a Set come to, which slots are used, how many.
-/
import Derived.Test.YtaickhhbdbbmjaaLaw
namespace Go.Proofs.Ytaickhhbdbbmjaa.aro

variable {α : Type}
/-- what is in a slot -/
def gt (d : List (Option α)) (i : Int) : Option α := if 0 ≤ i then d[i.toNat]?.join else none
theorem gt_nat (d : List (Option α)) (k : Nat) : gt d (k : Int) = d[k]?.join := by simp [gt]
theorem gt_some {d : List (Option α)} {i : Int} {x : α} (h : gt d i = some x) : ∃ k : Nat, i = (k : Int) ∧ ∃ hk : k < d.length, d[k] = some x := by
  unfold gt at h
  split at h
  · rename_i h0
    refine ⟨i.toNat, by omega, ?_⟩
    rcases Nat.lt_or_ge i.toNat d.length with hlt | hge
    · refine ⟨hlt, ?_⟩
      rw [List.getElem?_eq_getElem hlt] at h
      simpa using h
    · rw [List.getElem?_eq_none hge] at h
      simp at h
  · cases h
theorem gt_of {d : List (Option α)} {k : Nat} {x : α} (hk : k < d.length) (h : d[k] = some x) : gt d (k : Int) = some x := by
  rw [gt_nat, List.getElem?_eq_getElem hk, h]; rfl
theorem gt_none {d : List (Option α)} {i : Int} (h : gt d i = none) : i < 0 ∨ (d.length : Int) ≤ i ∨ ∃ k : Nat, i = (k : Int) ∧ ∃ hk : k < d.length, d[k] = none := by
  by_cases h0 : i < 0
  · exact .inl h0
  · by_cases h1 : (d.length : Int) ≤ i
    · exact .inr (.inl h1)
    · refine .inr (.inr ⟨i.toNat, by omega, by omega, ?_⟩)
      unfold gt at h
      rw [if_pos (by omega), List.getElem?_eq_getElem (by omega)] at h
      simpa using h
theorem gt_set {d : List (Option α)} {k : Nat} (hk : k < d.length) (o : Option α) (i : Int) : gt (d.set k o) i = if i = (k : Int) then o else gt d i := by
  unfold gt
  by_cases h0 : 0 ≤ i
  · rw [if_pos h0, if_pos h0]
    by_cases e : i = (k : Int)
    · subst e
      rw [if_pos rfl]
      simp [hk]
    · rw [if_neg e, List.getElem?_set_ne (by omega)]
  · rw [if_neg h0, if_neg h0, if_neg (by omega)]
theorem gt_push (d : List (Option α)) (o : Option α) (i : Int) : gt (d ++ [o]) i = if i = (d.length : Int) then o else gt d i := by
  unfold gt
  by_cases h0 : 0 ≤ i
  · rw [if_pos h0, if_pos h0]
    by_cases e : i = (d.length : Int)
    · subst e
      simp
    · rw [if_neg e]
      rcases Nat.lt_or_ge i.toNat d.length with hlt | hge
      · rw [List.getElem?_append_left hlt]
      · rw [List.getElem?_eq_none (by simp; omega), List.getElem?_eq_none hge]
  · rw [if_neg h0, if_neg h0, if_neg (by omega)]

/-- the free slots are free, each once, and with those that aren't they are all -/
structure Inv (d : List (Option α)) (f : List Nat) : Prop where
  free : ∀ s ∈ f, d[s]? = some none
  nodup : f.Nodup
  count : d.countP Option.isSome + f.length = d.length

/-- the slot that a Put takes -/
def slotP (d : List (Option α)) (f : List Nat) : Nat := f.getLast?.getD d.length
def putD (d : List (Option α)) (f : List Nat) (x : α) : List (Option α) := if f = [] then d ++ [some x] else d.set (slotP d f) (some x)
def cutD (d : List (Option α)) (i : Int) : List (Option α) := if (gt d i).isSome = true then d.set i.toNat none else d
def cutF (d : List (Option α)) (f : List Nat) (i : Int) : List Nat := if (gt d i).isSome = true then f ++ [i.toNat] else f
def setD (d : List (Option α)) (i : Int) (x : α) : List (Option α) := if (gt d i).isSome = true then d.set i.toNat (some x) else d

theorem slotP_snoc (d : List (Option α)) (f : List Nat) (s : Nat) : slotP d (f ++ [s]) = s := by simp [slotP]
theorem slotP_nil (d : List (Option α)) : slotP d [] = d.length := rfl
theorem putD_nil (d : List (Option α)) (x : α) : putD d [] x = d ++ [some x] := rfl
theorem putD_snoc (d : List (Option α)) (f : List Nat) (s : Nat) (x : α) : putD d (f ++ [s]) x = d.set s (some x) := by
  unfold putD
  rw [if_neg (by simp), slotP_snoc]
theorem putD_length (d : List (Option α)) (f : List Nat) (x : α) : (putD d f x).length ≤ d.length + 1 := by
  unfold putD
  split <;> simp
theorem cutD_length (d : List (Option α)) (i : Int) : (cutD d i).length = d.length := by unfold cutD; split <;> simp
theorem setD_length (d : List (Option α)) (i : Int) (x : α) : (setD d i x).length = d.length := by unfold setD; split <;> simp
theorem last_cases (f : List Nat) : f = [] ∨ ∃ g s, f = g ++ [s] := by
  rcases List.eq_nil_or_concat f with h | ⟨g, s, h⟩
  · exact .inl h
  · exact .inr ⟨g, s, by simpa using h⟩

theorem Inv.nil : Inv ([] : List (Option α)) [] := ⟨fun s h => by simp at h, List.nodup_nil, rfl⟩
theorem Inv.len {d : List (Option α)} {f : List Nat} (h : Inv d f) : f.length ≤ d.length := by have := h.count; omega
theorem Inv.lt {d : List (Option α)} {f : List Nat} (h : Inv d f) {s : Nat} (hs : s ∈ f) : ∃ hk : s < d.length, d[s] = none := by
  have := h.free s hs
  obtain ⟨hk, e⟩ := List.getElem?_eq_some_iff.1 this
  exact ⟨hk, e⟩
theorem count_set {d : List (Option α)} {k : Nat} (hk : k < d.length) (o : Option α) : (d.set k o).countP Option.isSome + (if d[k].isSome = true then 1 else 0) = d.countP Option.isSome + (if o.isSome = true then 1 else 0) := by
  have h1 : d = d.take k ++ d[k] :: d.drop (k + 1) := by rw [← List.drop_eq_getElem_cons hk, List.take_append_drop]
  have h2 : d.set k o = d.take k ++ o :: d.drop (k + 1) := List.set_eq_take_append_cons_drop ▸ (by rw [if_pos hk])
  rw [h2]
  conv => rhs; rw [h1]
  rw [List.countP_append, List.countP_append, List.countP_cons, List.countP_cons]
  omega
theorem Inv.put {d : List (Option α)} {f : List Nat} (h : Inv d f) (x : α) : Inv (putD d f x) f.dropLast := by
  rcases last_cases f with rfl | ⟨g, s, rfl⟩
  · rw [putD_nil]
    refine ⟨fun s hs => by simp at hs, by simp, ?_⟩
    have := h.count
    simp [List.countP_append] at this ⊢
    omega
  · rw [putD_snoc, List.dropLast_concat]
    obtain ⟨hk, e⟩ := h.lt (s := s) (by simp)
    have hn := List.nodup_append.1 h.nodup
    refine ⟨fun t ht => ?_, hn.1, ?_⟩
    · have hne : s ≠ t := fun e => hn.2.2 t ht s (by simp) e.symm
      rw [List.getElem?_set_ne hne]
      exact h.free t (by simp [ht])
    · have := h.count
      have h2 := count_set hk (some x)
      rw [e] at h2
      simp at h2 this ⊢
      omega
theorem Inv.cut {d : List (Option α)} {f : List Nat} (h : Inv d f) (i : Int) : Inv (cutD d i) (cutF d f i) := by
  unfold cutD cutF
  by_cases hs : (gt d i).isSome = true
  · rw [if_pos hs, if_pos hs]
    obtain ⟨x, hx⟩ := Option.isSome_iff_exists.1 hs
    obtain ⟨k, rfl, hk, e⟩ := gt_some hx
    rw [Int.toNat_natCast]
    have hnf : k ∉ f := fun hf => by
      obtain ⟨_, e2⟩ := h.lt hf
      rw [e] at e2
      cases e2
    refine ⟨fun t ht => ?_, ?_, ?_⟩
    · rcases List.mem_append.1 ht with ht | ht
      · have hne : k ≠ t := fun e => hnf (by rw [e]; exact ht)
        rw [List.getElem?_set_ne hne]
        exact h.free t ht
      · obtain rfl : t = k := by simpa using ht
        simp [hk]
    · refine List.nodup_append.2 ⟨h.nodup, by simp, fun a ha b hb e => ?_⟩
      have e2 : b = k := by simpa using hb
      rw [e, e2] at ha
      exact hnf ha
    · have := h.count
      have h2 := count_set hk none
      rw [e] at h2
      simp at h2 ⊢
      omega
  · rw [if_neg hs, if_neg hs]
    exact h
theorem Inv.set {d : List (Option α)} {f : List Nat} (h : Inv d f) (i : Int) (x : α) : Inv (setD d i x) f := by
  unfold setD
  by_cases hs : (gt d i).isSome = true
  · rw [if_pos hs]
    obtain ⟨y, hx⟩ := Option.isSome_iff_exists.1 hs
    obtain ⟨k, rfl, hk, e⟩ := gt_some hx
    rw [Int.toNat_natCast]
    refine ⟨fun t ht => ?_, h.nodup, ?_⟩
    · have hne : k ≠ t := fun e2 => by
        obtain ⟨_, e3⟩ := h.lt ht
        subst e2
        rw [e] at e3
        cases e3
      rw [List.getElem?_set_ne hne]
      exact h.free t ht
    · have := h.count
      have h2 := count_set hk (some x)
      rw [e] at h2
      simp at h2 ⊢
      omega
  · rw [if_neg hs]
    exact h

/-! ### what stays -/
section
variable {d : List (Option α)} {f : List Nat} {m : Nat} {x : α}
theorem put_in (h : Inv d f) (y : α) : gt (putD d f y) (slotP d f : Int) = some y := by
  rcases last_cases f with rfl | ⟨g, s, rfl⟩
  · rw [putD_nil, slotP_nil, gt_push, if_pos rfl]
  · rw [putD_snoc, slotP_snoc]
    obtain ⟨hk, _⟩ := h.lt (s := s) (by simp)
    rw [gt_set hk, if_pos rfl]
theorem put_away (h : Inv d f) (hm : gt d (m : Int) = some x) : slotP d f ≠ m := by
  obtain ⟨k, e, hk, hx⟩ := gt_some hm
  obtain rfl : m = k := by omega
  rcases last_cases f with rfl | ⟨g, s, rfl⟩
  · rw [slotP_nil]; omega
  · rw [slotP_snoc]
    obtain ⟨hk2, e2⟩ := h.lt (s := s) (by simp)
    intro e3
    subst e3
    rw [hx] at e2
    cases e2
theorem put_stays (h : Inv d f) (hm : gt d (m : Int) = some x) (y : α) : gt (putD d f y) (m : Int) = some x := by
  have hne := put_away h hm
  rcases last_cases f with rfl | ⟨g, s, rfl⟩
  · rw [slotP_nil] at hne
    rw [putD_nil, gt_push, if_neg (by omega)]
    exact hm
  · rw [slotP_snoc] at hne
    obtain ⟨hk, _⟩ := h.lt (s := s) (by simp)
    rw [putD_snoc, gt_set hk, if_neg (by omega)]
    exact hm
theorem cut_stays {i : Int} (hi : i ≠ (m : Int)) (hm : gt d (m : Int) = some x) : gt (cutD d i) (m : Int) = some x := by
  unfold cutD
  split
  · rename_i hs
    obtain ⟨y, hx⟩ := Option.isSome_iff_exists.1 hs
    obtain ⟨k, rfl, hk, e⟩ := gt_some hx
    rw [Int.toNat_natCast, gt_set hk, if_neg (by omega)]
    exact hm
  · exact hm
theorem set_stays {i : Int} {y : α} (hi : i ≠ (m : Int)) (hm : gt d (m : Int) = some x) : gt (setD d i y) (m : Int) = some x := by
  unfold setD
  split
  · rename_i hs
    obtain ⟨z, hx⟩ := Option.isSome_iff_exists.1 hs
    obtain ⟨k, rfl, hk, e⟩ := gt_some hx
    rw [Int.toNat_natCast, gt_set hk, if_neg (by omega)]
    exact hm
  · exact hm
end

/-! ### which slots are used -/
def usedTo (d : List (Option α)) (k : Nat) : List Nat := (List.range k).filter fun j => (d[j]?.join).isSome
def used (d : List (Option α)) : List Nat := usedTo d d.length
theorem usedTo_zero (d : List (Option α)) : usedTo d 0 = [] := rfl
theorem usedTo_yes {d : List (Option α)} {k : Nat} (hk : k < d.length) (h : d[k].isSome = true) : usedTo d (k + 1) = usedTo d k ++ [k] := by
  unfold usedTo
  rw [List.range_succ, List.filter_append]
  simp [hk, h]
theorem usedTo_no {d : List (Option α)} {k : Nat} (hk : k < d.length) (h : d[k].isSome = false) : usedTo d (k + 1) = usedTo d k := by
  unfold usedTo
  rw [List.range_succ, List.filter_append]
  simp [hk]
  simpa using h
theorem usedTo_le (d : List (Option α)) (k : Nat) : (usedTo d k).length ≤ k := by
  unfold usedTo
  have := List.length_filter_le (fun j => (d[j]?.join).isSome) (List.range k)
  simpa using this
theorem usedTo_count (d : List (Option α)) : ∀ k, k ≤ d.length → (usedTo d k).length = (d.take k).countP Option.isSome
  | 0, _ => by simp [usedTo_zero]
  | k + 1, hk => by
    have hk2 : k < d.length := by omega
    have ih := usedTo_count d k (by omega)
    rw [List.take_succ_eq_append_getElem hk2, List.countP_append, List.countP_singleton]
    by_cases h : d[k].isSome = true
    · rw [usedTo_yes hk2 h, if_pos h, List.length_append, ih]; rfl
    · rw [usedTo_no hk2 (by simpa using h), if_neg h, ih]; rfl
theorem used_count {d : List (Option α)} {f : List Nat} (h : Inv d f) : (used d).length + f.length = d.length := by
  unfold used
  rw [usedTo_count d _ (Nat.le_refl _), List.take_length]
  exact h.count
end Go.Proofs.Ytaickhhbdbbmjaa.aro
