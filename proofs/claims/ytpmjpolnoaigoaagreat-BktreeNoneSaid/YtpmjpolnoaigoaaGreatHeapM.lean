/-
  Mathematics of heaps, program-free: rows of which none is ahead of the one above it, a thing on its way up or down, the first one, what stays.
-/
import Derived.Test.YtpmjpolnoaigoaaGreatGLib
import Derived.Sort.AssemblyPlain
namespace Go.Proofs.YtpmjpolnoaigoaaGreat.heapM
open Go.Sort
variable {α : Type} [Inhabited α] {lt : α → α → Bool} {d : Array α} {a : Nat}

/-- none is ahead of the one above it -/
def Heap (lt : α → α → Bool) (d : Array α) : Prop := ∀ i, 0 < i → i < d.size → lt d[i]! d[(i - 1) / 2]! = false
/-- but for the one at a, which may be ahead of those above it -/
def Up (lt : α → α → Bool) (d : Array α) (a : Nat) : Prop :=
  (∀ i, 0 < i → i < d.size → i ≠ a → lt d[i]! d[(i - 1) / 2]! = false) ∧ ∀ c, 0 < c → c < d.size → (c - 1) / 2 = a → 0 < a → lt d[c]! d[(a - 1) / 2]! = false
/-- but for the one at a, of which those below it may be ahead -/
def Down (lt : α → α → Bool) (d : Array α) (a : Nat) : Prop :=
  (∀ i, 0 < i → i < d.size → (i - 1) / 2 ≠ a → lt d[i]! d[(i - 1) / 2]! = false) ∧ ∀ c, 0 < c → c < d.size → (c - 1) / 2 = a → 0 < a → lt d[c]! d[(a - 1) / 2]! = false

theorem Up.stop (h : Up lt d a) (hs : a = 0 ∨ lt d[a]! d[(a - 1) / 2]! = false) : Heap lt d := fun i h0 hi => by
  by_cases e : i = a
  · subst e
    rcases hs with hs | hs
    · omega
    · exact hs
  · exact h.1 i h0 hi e
theorem Up.step (hO : SWO lt) (h : Up lt d a) (ha : 0 < a) (hsz : a < d.size) (hl : lt d[a]! d[(a - 1) / 2]! = true) : Up lt (swp d a ((a - 1) / 2)) ((a - 1) / 2) := by
  obtain ⟨p, hp⟩ : ∃ p, p = (a - 1) / 2 := ⟨_, rfl⟩
  rw [← hp] at hl ⊢
  have hpa : p < a := by omega
  have ga : (swp d a p)[a]! = d[p]! := swp_left d a p hsz (by omega)
  have gp : (swp d a p)[p]! = d[a]! := swp_right d a p (by omega)
  have go : ∀ k, k ≠ a → k ≠ p → (swp d a p)[k]! = d[k]! := fun k h1 h2 => swp_other d a p k h1 h2
  refine ⟨fun i h0 hi hne => ?_, fun c h0 hc e h1 => ?_⟩
  · rw [size_swp] at hi
    by_cases e : i = a
    · subst e
      rw [← hp, ga, gp]
      exact SWO.asymm hO hl
    · rw [go i e hne]
      by_cases e2 : (i - 1) / 2 = a
      · rw [e2, ga, hp]
        exact h.2 i h0 hi e2 ha
      · by_cases e3 : (i - 1) / 2 = p
        · rw [e3, gp]
          have h2 := h.1 i h0 hi e
          rw [e3] at h2
          cases h3 : lt d[i]! d[a]! with
          | false => rfl
          | true => rw [hO.trans _ _ _ h3 hl] at h2; cases h2
        · rw [go _ e2 e3]
          exact h.1 i h0 hi e
  · rw [size_swp] at hc
    have e1 : (p - 1) / 2 ≠ a := by omega
    have e2 : (p - 1) / 2 ≠ p := by omega
    rw [go _ e1 e2]
    have h2 := h.1 p h1 (by omega) (by omega)
    by_cases e3 : c = a
    · rw [e3, ga]
      exact h2
    · rw [go c e3 (by omega)]
      have h3 := h.1 c h0 hc e3
      rw [e] at h3
      exact hO.ntrans _ _ _ h3 h2

theorem Down.stop (h : Down lt d a) (hs : ∀ c, 0 < c → c < d.size → (c - 1) / 2 = a → lt d[c]! d[a]! = false) : Heap lt d := fun i h0 hi => by
  by_cases e : (i - 1) / 2 = a
  · rw [e]
    exact hs i h0 hi e
  · exact h.1 i h0 hi e
theorem Down.step (hO : SWO lt) {f : Nat} (h : Down lt d a) (hf0 : 0 < f) (hf : f < d.size) (hfa : (f - 1) / 2 = a) (hl : lt d[f]! d[a]! = true) (hb : ∀ c, 0 < c → c < d.size → (c - 1) / 2 = a → lt d[c]! d[f]! = false) : Down lt (swp d a f) f := by
  have haf : a < f := by omega
  have ga : (swp d a f)[a]! = d[f]! := swp_left d a f (by omega) (by omega)
  have gf : (swp d a f)[f]! = d[a]! := swp_right d a f hf
  have go : ∀ k, k ≠ a → k ≠ f → (swp d a f)[k]! = d[k]! := fun k h1 h2 => swp_other d a f k h1 h2
  refine ⟨fun i h0 hi hne => ?_, fun c h0 hc e _ => ?_⟩
  · rw [size_swp] at hi
    by_cases e : i = f
    · rw [e, hfa, ga, gf]
      exact SWO.asymm hO hl
    · by_cases e2 : (i - 1) / 2 = a
      · rw [e2, ga, go i (by omega) e]
        exact hb i h0 hi e2
      · rw [go _ e2 hne]
        by_cases e3 : i = a
        · rw [e3, ga]
          exact h.2 f hf0 hf hfa (by omega)
        · rw [go i e3 e]
          exact h.1 i h0 hi e2
  · rw [size_swp] at hc
    rw [hfa, ga, go c (by omega) (by omega)]
    have := h.1 c h0 hc (by omega)
    rwa [e] at this

/-- the one on top is ahead of all -/
theorem Heap.top (hO : SWO lt) (h : Heap lt d) : ∀ n i, i ≤ n → i < d.size → lt d[i]! d[0]! = false := by
  intro n
  induction n with
  | zero => intro i hi _; obtain rfl : i = 0 := by omega
            exact hO.irrefl _
  | succ n ih =>
    intro i hi hs
    by_cases e : i = 0
    · rw [e]; exact hO.irrefl _
    · exact hO.ntrans _ _ _ (h i (by omega) hs) (ih ((i - 1) / 2) (by omega) (by omega))

/-- f: the first one of a and of those below it that are ahead of b -/
def Kid (lt : α → α → Bool) (d : Array α) (a f b : Nat) : Prop :=
  (f = a ∨ (2 * a + 1 ≤ f ∧ f < b ∧ f < d.size ∧ lt d[f]! d[a]! = true)) ∧ ∀ c, 2 * a + 1 ≤ c → c < b → lt d[c]! d[f]! = false
theorem Kid.start (lt : α → α → Bool) (d : Array α) (a : Nat) : Kid lt d a a (2 * a + 1) := ⟨.inl rfl, fun c h1 h2 => by omega⟩
theorem Kid.yes (hO : SWO lt) {f b : Nat} (h : Kid lt d a f b) (hb : 2 * a + 1 ≤ b) (hs : b < d.size) (hl : lt d[b]! d[f]! = true) : Kid lt d a b (b + 1) := by
  refine ⟨.inr ⟨hb, by omega, hs, ?_⟩, fun c h1 h2 => ?_⟩
  · rcases h.1 with e | ⟨_, _, _, e⟩
    · rw [← e]; exact hl
    · exact hO.trans _ _ _ hl e
  · by_cases e : c = b
    · rw [e]; exact hO.irrefl _
    · have h3 := h.2 c h1 (by omega)
      cases h4 : lt d[c]! d[b]! with
      | false => rfl
      | true => rw [hO.trans _ _ _ h4 hl] at h3; cases h3
theorem Kid.no {f b : Nat} (h : Kid lt d a f b) (hl : lt d[b]! d[f]! = false) : Kid lt d a f (b + 1) := by
  refine ⟨?_, fun c h1 h2 => ?_⟩
  · rcases h.1 with e | ⟨h1, h2, h3, h4⟩
    · exact .inl e
    · exact .inr ⟨h1, by omega, h3, h4⟩
  · by_cases e : c = b
    · rw [e]; exact hl
    · exact h.2 c h1 (by omega)
/-- behind the two -/
theorem Kid.stop {f b : Nat} (h : Kid lt d a f b) (hb : b = 2 * a + 3 ∨ d.size ≤ b) (hD : Down lt d a) (e : f = a) : Heap lt d :=
  hD.stop fun c h0 hc e2 => by
    have := h.2 c (by omega) (by omega)
    rwa [e] at this
theorem Kid.step (hO : SWO lt) {f b : Nat} (h : Kid lt d a f b) (hb : b = 2 * a + 3 ∨ d.size ≤ b) (hb2 : b ≤ 2 * a + 3) (hD : Down lt d a) (e : f ≠ a) : Down lt (swp d a f) f := by
  rcases h.1 with e1 | ⟨h1, h2, h3, h4⟩
  · exact (e e1).elim
  · exact hD.step hO (by omega) h3 (by omega) h4 fun c h0 hc e2 => h.2 c (by omega) (by omega)
theorem Kid.place {f b : Nat} (h : Kid lt d a f b) (hb2 : b ≤ 2 * a + 3) (e : f ≠ a) : a < f ∧ f < d.size ∧ f ≤ 2 * a + 2 := by
  rcases h.1 with e1 | ⟨h1, h2, h3, h4⟩
  · exact (e e1).elim
  · exact ⟨by omega, h3, by omega⟩

/-! ### what stays -/
theorem swp_perm (d : Array α) (i j : Nat) (hi : i < d.size) (hj : j < d.size) : (swp d i j).toList.Perm d.toList := by
  have h := (swp_permIn d 0 d.size i j (Nat.zero_le _) hi (Nat.zero_le _) hj (Nat.le_refl _)).2.2
  rw [← size_swp d i j] at h
  have e1 : (swp d i j).extract 0 (swp d i j).size = swp d i j := by simp
  rw [e1] at h
  have e2 : d.extract 0 (swp d i j).size = d := by rw [size_swp]; simp
  rwa [e2] at h
theorem Up.push (h : Heap lt d) (x : α) : Up lt (d.push x) d.size := by
  have g : ∀ k, k < d.size → (d.push x)[k]! = d[k]! := fun k hk => by simp [getElem!_def, Array.getElem?_push, hk, show ¬ k = d.size by omega]
  refine ⟨fun i h0 hi hne => ?_, fun c h0 hc e _ => by simp at hc; omega⟩
  simp at hi
  rw [g i (by omega), g _ (by omega)]
  exact h i h0 (by omega)
/-- the first one taken out, the last one in its place -/
def cut (d : Array α) : Array α := (d.setIfInBounds 0 d[d.size - 1]!).pop
theorem cut_size (d : Array α) : (cut d).size = d.size - 1 := by simp [cut]
theorem cut_get (d : Array α) (k : Nat) (hk : k < d.size - 1) : (cut d)[k]! = if k = 0 then d[d.size - 1]! else d[k]! := by
  by_cases e : k = 0
  · subst e
    simp only [if_true]
    have h1 : 0 < (d.setIfInBounds 0 d[d.size - 1]!).size - 1 := by simpa using hk
    rw [cut, getElem!_def, Array.getElem?_pop]
    simp only [Array.size_setIfInBounds, Array.getElem?_setIfInBounds]
    simp [hk, show 0 < d.size by omega]
  · simp only [e, if_false]
    rw [cut, getElem!_def, Array.getElem?_pop]
    simp only [Array.size_setIfInBounds, Array.getElem?_setIfInBounds]
    simp [hk, show ¬ 0 = k by omega, show k < d.size by omega]
theorem cut_down (h : Heap lt d) : Down lt (cut d) 0 := by
  refine ⟨fun i h0 hi hne => ?_, fun c h0 hc e h1 => by omega⟩
  rw [cut_size] at hi
  rw [cut_get d i hi, cut_get d _ (by omega)]
  simp only [show ¬ i = 0 by omega, hne, if_false]
  exact h i h0 (by omega)
theorem cut_perm (h0 : 0 < d.size) : (d[0]! :: (cut d).toList).Perm d.toList := by
  obtain ⟨l⟩ := d
  simp only [cut, List.size_toArray] at h0 ⊢
  rcases l with _ | ⟨x, l⟩
  · simp at h0
  · rcases List.eq_nil_or_concat l with rfl | ⟨m, y, rfl⟩
    · simp
    · simp only [List.concat_eq_append]
      have e1 : ((x :: (m ++ [y])).toArray)[0]! = x := rfl
      have e2 : ((x :: (m ++ [y])).toArray)[(x :: (m ++ [y])).length - 1]! = y := by simp
      rw [e1, e2]
      have e3 : (((x :: (m ++ [y])).toArray.setIfInBounds 0 y).pop).toList = y :: m := by
        have e4 : (y :: (m ++ [y])).dropLast = y :: m := by rw [← List.cons_append, List.dropLast_concat]
        simpa using e4
      rw [e3]
      exact List.Perm.cons x (List.perm_append_comm (l₁ := [y]) (l₂ := m))
end Go.Proofs.YtpmjpolnoaigoaaGreat.heapM
