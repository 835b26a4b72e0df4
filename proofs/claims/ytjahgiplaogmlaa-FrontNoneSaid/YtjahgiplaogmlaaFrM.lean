/-
  Mathematics of walks, program-free but for entries: which is first, what stands behind a node, each no lower than the node; runs of opened nodes; what is told; weights (so that walks end); told by rising distances.
-/
import Derived.Test.YtjahgiplaogmlaaFCmp
namespace Go.Proofs.Ytjahgiplaogmlaa.fro
open Go.RowKit law bytes only flat heapM Go.Sort Go.Shelf
set_option linter.unusedVariables false

/-- none is ahead of it -/
def First (x : Ent) (l : List Ent) : Prop := ∀ y ∈ l, ¬ Ah y x
theorem First.low {x : Ent} {l : List Ent} (h : First x l) : ∀ y ∈ l, x.1 ≤ y.1 := fun y hy => by
  have := h y hy
  unfold Ah at this
  omega
theorem First.perm {x : Ent} {l l' : List Ent} (h : First x l) (p : l'.Perm l) : First x l' := fun y hy => h y (p.subset hy)
/-- no lower than the node -/
def up (m : Int) (y : Ent) : Ent := (max y.1 m, y.2)
def lift (x : Ent) (ys : List Ent) : List Ent := ys.map (up x.1)
section
variable {σ : Type} (beh : σ → Int → List Ent) (nxt : σ → Int → σ)
/-- so many nodes are opened, one by one, each the first -/
inductive Run : σ → List Ent → Nat → σ → List Ent → Prop
  | refl (s l) : Run s l 0 s l
  | step {s l k s1 l1 x rest l2} : Run s l k s1 l1 → First x l1 → nd x = true → l1.Perm (x :: rest) → l2.Perm (rest ++ lift x (beh s1 x.2.1)) → Run s l (k + 1) (nxt s1 x.2.1) l2
/-- what is told, one by one -/
inductive Told : σ → List Ent → List (Int × Int) → Nat → σ → List Ent → Prop
  | nil (s l) : Told s l [] 0 s l
  | snoc {s l t k s1 l1 j s2 l2 x rest} : Told s l t k s1 l1 → Run beh nxt s1 l1 j s2 l2 → First x l2 → nd x = false → l2.Perm (x :: rest) → Told s l (t ++ [(x.2.2, x.1)]) (k + j) s2 rest
end
/-- how much there is -/
def wsum (wt : Int → Nat) (l : List Ent) : Nat := (l.map fun y => wt y.2.1).sum
section
variable {wt : Int → Nat} {l l' : List Ent}
theorem wsum_nil : wsum wt [] = 0 := rfl
theorem wsum_cons (x : Ent) (l : List Ent) : wsum wt (x :: l) = wt x.2.1 + wsum wt l := by simp [wsum]
theorem wsum_append (l l' : List Ent) : wsum wt (l ++ l') = wsum wt l + wsum wt l' := by simp [wsum]
theorem wsum_perm (p : l.Perm l') : wsum wt l = wsum wt l' := by
  induction p with
  | nil => rfl
  | cons x _ ih => rw [wsum_cons, wsum_cons, ih]
  | swap x y l => simp only [wsum_cons]; omega
  | trans _ _ h1 h2 => rw [h1, h2]
theorem wsum_lift (x : Ent) (l : List Ent) : wsum wt (lift x l) = wsum wt l := by
  induction l with
  | nil => rfl
  | cons y l ih =>
    show wsum wt (up x.1 y :: lift x l) = _
    rw [wsum_cons, wsum_cons, ih]; rfl
theorem wsum_len (hp : ∀ n, 0 < wt n) (l : List Ent) : l.length ≤ wsum wt l := by
  induction l with
  | nil => simp
  | cons x l ih =>
    rw [wsum_cons, List.length_cons]
    have := hp x.2.1
    omega
end
/-- nodes that may be opened -/
def Nds (N : Int → Prop) (l : List Ent) : Prop := ∀ x ∈ l, 0 ≤ x.2.1 → N x.2.1
section
variable {N : Int → Prop} {l l' : List Ent}
theorem Nds.perm (h : Nds N l) (p : l'.Perm l) : Nds N l' := fun x hx => h x (p.subset hx)
theorem Nds.append (h : Nds N l) (k : Nds N l') : Nds N (l ++ l') := fun x hx => by
  rcases List.mem_append.1 hx with e | e
  · exact h x e
  · exact k x e
theorem Nds.lift {x : Ent} (h : Nds N l) : Nds N (lift x l) := fun y hy => by
  obtain ⟨z, hz, rfl⟩ := List.mem_map.1 hy
  exact h z hz
end
section
variable {σ : Type} {beh : σ → Int → List Ent} {nxt : σ → Int → σ} {s s1 : σ} {l l1 : List Ent} {k : Nat}
theorem Run.keeps {N : Int → Prop} {wt : Int → Nat} (hn : ∀ s n, N n → Nds N (beh s n)) (hd : ∀ s n, N n → wsum wt (beh s n) < wt n) (h : Run beh nxt s l k s1 l1) (h0 : Nds N l) : Nds N l1 ∧ wsum wt l1 + k ≤ wsum wt l := by
  induction h with
  | refl => exact ⟨h0, by omega⟩
  | @step k s1 l1 x rest l2 h hf hx hp hq ih =>
    obtain ⟨i1, i2⟩ := ih
    have h1 : Nds N (x :: rest) := i1.perm hp.symm
    have hN : N x.2.1 := h1 x (List.mem_cons_self ..) (by simpa [nd] using hx)
    have h2 : Nds N rest := fun y hy => h1 y (List.mem_cons_of_mem _ hy)
    refine ⟨(h2.append ((hn s1 _ hN).lift)).perm hq, ?_⟩
    have e1 := wsum_perm (wt := wt) hp
    have e2 := wsum_perm (wt := wt) hq
    have e3 := hd s1 _ hN
    rw [wsum_cons] at e1
    rw [wsum_append, wsum_lift] at e2
    omega
theorem Run.low {m : Int} (h : Run beh nxt s l k s1 l1) (h0 : ∀ y ∈ l, m ≤ y.1) : ∀ y ∈ l1, m ≤ y.1 := by
  induction h with
  | refl => exact h0
  | @step k s1 l1 x rest l2 h hf hx hp hq ih =>
    intro y hy
    rcases List.mem_append.1 (hq.subset hy) with e | e
    · exact ih y (hp.symm.subset (List.mem_cons_of_mem _ e))
    · obtain ⟨z, hz, rfl⟩ := List.mem_map.1 e
      have := ih x (hp.symm.subset (List.mem_cons_self ..))
      show m ≤ max z.1 x.1
      omega
/-- what is told rises, and what is left is no lower -/
theorem Told.rises {t : List (Int × Int)} (h : Told beh nxt s l t k s1 l1) : (∀ i, (hi : i + 1 < t.length) → t[i].2 ≤ t[i + 1].2) ∧ ∀ y ∈ l1, ∀ h ∈ t, h.2 ≤ y.1 := by
  induction h with
  | nil => exact ⟨fun i hi => by simp at hi, fun y _ h hh => by simp at hh⟩
  | @snoc t k s1 l1 j s2 l2 x rest h hr hf hx hp ih =>
    obtain ⟨i1, i2⟩ := ih
    have hl : ∀ y ∈ l2, ∀ h ∈ t, h.2 ≤ y.1 := fun y hy h hh => hr.low (m := h.2) (fun z hz => i2 z hz h hh) y hy
    have hx2 := hl x (hp.symm.subset (List.mem_cons_self ..))
    refine ⟨fun i hi => ?_, fun y hy h hh => ?_⟩
    · simp only [List.length_append, List.length_cons, List.length_nil] at hi
      by_cases e : i + 1 < t.length
      · rw [List.getElem_append_left (by omega), List.getElem_append_left e]
        exact i1 i e
      · have e1 : i + 1 = t.length := by omega
        rw [List.getElem_append_left (by omega), List.getElem_append_right (by omega)]
        simp only [e1, Nat.sub_self, List.getElem_cons_zero]
        exact hx2 _ (List.getElem_mem ..)
    · rcases List.mem_append.1 hh with e | e
      · exact hl y (hp.symm.subset (List.mem_cons_of_mem _ hy)) h e
      · rw [List.mem_singleton.1 e]
        exact hf.low y (hp.symm.subset (List.mem_cons_of_mem _ hy))
theorem Told.keeps {N : Int → Prop} {wt : Int → Nat} (hn : ∀ s n, N n → Nds N (beh s n)) (hd : ∀ s n, N n → wsum wt (beh s n) < wt n) {t : List (Int × Int)} (h : Told beh nxt s l t k s1 l1) (h0 : Nds N l) : Nds N l1 ∧ wsum wt l1 + k ≤ wsum wt l := by
  induction h with
  | nil => exact ⟨h0, by omega⟩
  | @snoc t k s1 l1 j s2 l2 x rest h hr hf hx hp ih =>
    obtain ⟨i1, i2⟩ := ih
    obtain ⟨j1, j2⟩ := hr.keeps hn hd i1
    refine ⟨fun y hy => j1 y (hp.symm.subset (List.mem_cons_of_mem _ hy)), ?_⟩
    have := wsum_perm (wt := wt) hp
    rw [wsum_cons] at this
    omega
theorem Told.many {N : Int → Prop} {wt : Int → Nat} (hp : ∀ n, 0 < wt n) (hn : ∀ s n, N n → Nds N (beh s n)) (hd : ∀ s n, N n → wsum wt (beh s n) < wt n) {t : List (Int × Int)} (h : Told beh nxt s l t k s1 l1) (h0 : Nds N l) : t.length + wsum wt l1 ≤ wsum wt l := by
  induction h with
  | nil => simp
  | @snoc t k s1 l1 j s2 l2 x rest h hr hf hx hq ih =>
    obtain ⟨i1, i2⟩ := h.keeps hn hd h0
    obtain ⟨j1, j2⟩ := hr.keeps hn hd i1
    have := wsum_perm (wt := wt) hq
    rw [wsum_cons] at this
    have := hp x.2.1
    simp only [List.length_append, List.length_cons, List.length_nil]
    omega
end
/-- the top of a heap is first -/
theorem first_top {d : Array Ent} (hH : Heap (lf ce) d) (h0 : 0 < d.size) : First d[0]! d.toList := fun y hy => by
  obtain ⟨i, hi, rfl⟩ := List.getElem_of_mem hy
  have hi2 : i < d.size := by simpa using hi
  have := hH.top swo i i (Nat.le_refl _) hi2
  rw [nlt_iff, getElem!_pos d i hi2] at this
  simpa using this
end Go.Proofs.Ytjahgiplaogmlaa.fro
