/-
  Several texts in one.
-/
import Derived.Test.YtpmjpolnoaigoaaGreatGFro
import Derived.Test.YtpmjpolnoaigoaaGreatHitM
import Derived.Test.YtpmjpolnoaigoaaGreatGLib
import Derived.Lib.MinMax
import Derived.Deep.LoopGhost
/-
  Mathematics of walks, program-free but for entries: which is first, what stands behind a node, each no lower than the node; runs of opened nodes; what is told; weights (so that walks end); told by rising distances.
-/
namespace Go.Proofs.YtpmjpolnoaigoaaGreat.fro
open Go.RowKit law bytes only flat heapM Go.Sort Go.Shelf
set_option linter.unusedVariables false

/-- none is ahead of it -/
def First (x : Ent) (l : List Ent) : Prop := ∀ y ∈ l, ¬ Ah y x
theorem First.low {x : Ent} {l : List Ent} (h : First x l) : ∀ y ∈ l, x.1 ≤ y.1 := fun y hy => by
  have := h y hy
  unfold Ah at this
  omega
theorem First.perm {x : Ent} {l l' : List Ent} (h : First x l) (p : l'.Perm l) : First x l' := fun y hy => h y (p.subset hy)
/-- no lower than the node -/
def up (m : Int) (y : Ent) : Ent := (max y.1 m, y.2)
def lift (x : Ent) (ys : List Ent) : List Ent := ys.map (up x.1)
section
variable {σ : Type} (beh : σ → Int → List Ent) (nxt : σ → Int → σ)
/-- so many nodes are opened, one by one, each the first -/
inductive Run : σ → List Ent → Nat → σ → List Ent → Prop
  | refl (s l) : Run s l 0 s l
  | step {s l k s1 l1 x rest l2} : Run s l k s1 l1 → First x l1 → nd x = true → l1.Perm (x :: rest) → l2.Perm (rest ++ lift x (beh s1 x.2.1)) → Run s l (k + 1) (nxt s1 x.2.1) l2
/-- what is told, one by one -/
inductive Told : σ → List Ent → List (Int × Int) → Nat → σ → List Ent → Prop
  | nil (s l) : Told s l [] 0 s l
  | snoc {s l t k s1 l1 j s2 l2 x rest} : Told s l t k s1 l1 → Run beh nxt s1 l1 j s2 l2 → First x l2 → nd x = false → l2.Perm (x :: rest) → Told s l (t ++ [(x.2.2, x.1)]) (k + j) s2 rest
end
/-- how much there is -/
def wsum (wt : Int → Nat) (l : List Ent) : Nat := (l.map fun y => wt y.2.1).sum
section
variable {wt : Int → Nat} {l l' : List Ent}
theorem wsum_nil : wsum wt [] = 0 := rfl
theorem wsum_cons (x : Ent) (l : List Ent) : wsum wt (x :: l) = wt x.2.1 + wsum wt l := by simp [wsum]
theorem wsum_append (l l' : List Ent) : wsum wt (l ++ l') = wsum wt l + wsum wt l' := by simp [wsum]
theorem wsum_perm (p : l.Perm l') : wsum wt l = wsum wt l' := by
  induction p with
  | nil => rfl
  | cons x _ ih => rw [wsum_cons, wsum_cons, ih]
  | swap x y l => simp only [wsum_cons]; omega
  | trans _ _ h1 h2 => rw [h1, h2]
theorem wsum_lift (x : Ent) (l : List Ent) : wsum wt (lift x l) = wsum wt l := by
  induction l with
  | nil => rfl
  | cons y l ih =>
    show wsum wt (up x.1 y :: lift x l) = _
    rw [wsum_cons, wsum_cons, ih]; rfl
theorem wsum_len (hp : ∀ n, 0 < wt n) (l : List Ent) : l.length ≤ wsum wt l := by
  induction l with
  | nil => simp
  | cons x l ih =>
    rw [wsum_cons, List.length_cons]
    have := hp x.2.1
    omega
end
/-- nodes that may be opened -/
def Nds (N : Int → Prop) (l : List Ent) : Prop := ∀ x ∈ l, 0 ≤ x.2.1 → N x.2.1
section
variable {N : Int → Prop} {l l' : List Ent}
theorem Nds.perm (h : Nds N l) (p : l'.Perm l) : Nds N l' := fun x hx => h x (p.subset hx)
theorem Nds.append (h : Nds N l) (k : Nds N l') : Nds N (l ++ l') := fun x hx => by
  rcases List.mem_append.1 hx with e | e
  · exact h x e
  · exact k x e
theorem Nds.lift {x : Ent} (h : Nds N l) : Nds N (lift x l) := fun y hy => by
  obtain ⟨z, hz, rfl⟩ := List.mem_map.1 hy
  exact h z hz
end
section
variable {σ : Type} {beh : σ → Int → List Ent} {nxt : σ → Int → σ} {s s1 : σ} {l l1 : List Ent} {k : Nat}
theorem Run.keeps {N : Int → Prop} {wt : Int → Nat} (hn : ∀ s n, N n → Nds N (beh s n)) (hd : ∀ s n, N n → wsum wt (beh s n) < wt n) (h : Run beh nxt s l k s1 l1) (h0 : Nds N l) : Nds N l1 ∧ wsum wt l1 + k ≤ wsum wt l := by
  induction h with
  | refl => exact ⟨h0, by omega⟩
  | @step k s1 l1 x rest l2 h hf hx hp hq ih =>
    obtain ⟨i1, i2⟩ := ih
    have h1 : Nds N (x :: rest) := i1.perm hp.symm
    have hN : N x.2.1 := h1 x (List.mem_cons_self ..) (by simpa [nd] using hx)
    have h2 : Nds N rest := fun y hy => h1 y (List.mem_cons_of_mem _ hy)
    refine ⟨(h2.append ((hn s1 _ hN).lift)).perm hq, ?_⟩
    have e1 := wsum_perm (wt := wt) hp
    have e2 := wsum_perm (wt := wt) hq
    have e3 := hd s1 _ hN
    rw [wsum_cons] at e1
    rw [wsum_append, wsum_lift] at e2
    omega
theorem Run.low {m : Int} (h : Run beh nxt s l k s1 l1) (h0 : ∀ y ∈ l, m ≤ y.1) : ∀ y ∈ l1, m ≤ y.1 := by
  induction h with
  | refl => exact h0
  | @step k s1 l1 x rest l2 h hf hx hp hq ih =>
    intro y hy
    rcases List.mem_append.1 (hq.subset hy) with e | e
    · exact ih y (hp.symm.subset (List.mem_cons_of_mem _ e))
    · obtain ⟨z, hz, rfl⟩ := List.mem_map.1 e
      have := ih x (hp.symm.subset (List.mem_cons_self ..))
      show m ≤ max z.1 x.1
      omega
/-- what is told rises, and what is left is no lower -/
theorem Told.rises {t : List (Int × Int)} (h : Told beh nxt s l t k s1 l1) : (∀ i, (hi : i + 1 < t.length) → t[i].2 ≤ t[i + 1].2) ∧ ∀ y ∈ l1, ∀ h ∈ t, h.2 ≤ y.1 := by
  induction h with
  | nil => exact ⟨fun i hi => by simp at hi, fun y _ h hh => by simp at hh⟩
  | @snoc t k s1 l1 j s2 l2 x rest h hr hf hx hp ih =>
    obtain ⟨i1, i2⟩ := ih
    have hl : ∀ y ∈ l2, ∀ h ∈ t, h.2 ≤ y.1 := fun y hy h hh => hr.low (m := h.2) (fun z hz => i2 z hz h hh) y hy
    have hx2 := hl x (hp.symm.subset (List.mem_cons_self ..))
    refine ⟨fun i hi => ?_, fun y hy h hh => ?_⟩
    · simp only [List.length_append, List.length_cons, List.length_nil] at hi
      by_cases e : i + 1 < t.length
      · rw [List.getElem_append_left (by omega), List.getElem_append_left e]
        exact i1 i e
      · have e1 : i + 1 = t.length := by omega
        rw [List.getElem_append_left (by omega), List.getElem_append_right (by omega)]
        simp only [e1, Nat.sub_self, List.getElem_cons_zero]
        exact hx2 _ (List.getElem_mem ..)
    · rcases List.mem_append.1 hh with e | e
      · exact hl y (hp.symm.subset (List.mem_cons_of_mem _ hy)) h e
      · rw [List.mem_singleton.1 e]
        exact hf.low y (hp.symm.subset (List.mem_cons_of_mem _ hy))
theorem Told.keeps {N : Int → Prop} {wt : Int → Nat} (hn : ∀ s n, N n → Nds N (beh s n)) (hd : ∀ s n, N n → wsum wt (beh s n) < wt n) {t : List (Int × Int)} (h : Told beh nxt s l t k s1 l1) (h0 : Nds N l) : Nds N l1 ∧ wsum wt l1 + k ≤ wsum wt l := by
  induction h with
  | nil => exact ⟨h0, by omega⟩
  | @snoc t k s1 l1 j s2 l2 x rest h hr hf hx hp ih =>
    obtain ⟨i1, i2⟩ := ih
    obtain ⟨j1, j2⟩ := hr.keeps hn hd i1
    refine ⟨fun y hy => j1 y (hp.symm.subset (List.mem_cons_of_mem _ hy)), ?_⟩
    have := wsum_perm (wt := wt) hp
    rw [wsum_cons] at this
    omega
theorem Told.many {N : Int → Prop} {wt : Int → Nat} (hp : ∀ n, 0 < wt n) (hn : ∀ s n, N n → Nds N (beh s n)) (hd : ∀ s n, N n → wsum wt (beh s n) < wt n) {t : List (Int × Int)} (h : Told beh nxt s l t k s1 l1) (h0 : Nds N l) : t.length + wsum wt l1 ≤ wsum wt l := by
  induction h with
  | nil => simp
  | @snoc t k s1 l1 j s2 l2 x rest h hr hf hx hq ih =>
    obtain ⟨i1, i2⟩ := h.keeps hn hd h0
    obtain ⟨j1, j2⟩ := hr.keeps hn hd i1
    have := wsum_perm (wt := wt) hq
    rw [wsum_cons] at this
    have := hp x.2.1
    simp only [List.length_append, List.length_cons, List.length_nil]
    omega
end
/-- the top of a heap is first -/
theorem first_top {d : Array Ent} (hH : Heap (lf ce) d) (h0 : 0 < d.size) : First d[0]! d.toList := fun y hy => by
  obtain ⟨i, hi, rfl⟩ := List.getElem_of_mem hy
  have hi2 : i < d.size := by simpa using hi
  have := hH.top swo i i (Nat.le_refl _) hi2
  rw [nlt_iff, getElem!_pos d i hi2] at this
  simpa using this
end Go.Proofs.YtpmjpolnoaigoaaGreat.fro
/-
  Mathematics, program-free but for entries: where no entry stands above what comes of it, a walk tells what there is in the order of hits: what is told is the first part of all, sorted; opened nodes and states play no part.
-/
namespace Go.Proofs.YtpmjpolnoaigoaaGreat.fro
open Go.RowKit law bytes only flat heapM Go.Sort Go.Shelf
set_option linter.unusedVariables false

/-- what comes of an entry in the end: of a node what lies behind it, of a thing itself -/
def ofE (cont : Int → List (Int × Int)) (x : Ent) : List (Int × Int) := if nd x = true then cont x.2.1 else [(x.2.2, x.1)]
/-- .. of a row of entries -/
def ofL (cont : Int → List (Int × Int)) (l : List Ent) : List (Int × Int) := l.flatMap (ofE cont)
/-- no entry stands above what comes of it -/
def Fair (cont : Int → List (Int × Int)) (l : List Ent) : Prop := ∀ x ∈ l, ∀ h ∈ ofE cont x, x.1 ≤ h.2
section
variable {cont : Int → List (Int × Int)} {l l' : List Ent} {x : Ent}
theorem ofE_node (h : nd x = true) : ofE cont x = cont x.2.1 := if_pos h
theorem ofE_thing (h : nd x = false) : ofE cont x = [(x.2.2, x.1)] := if_neg (by rw [h]; simp)
theorem ofL_cons : ofL cont (x :: l) = ofE cont x ++ ofL cont l := rfl
theorem ofL_append : ofL cont (l ++ l') = ofL cont l ++ ofL cont l' := by simp [ofL]
theorem ofL_perm (p : l.Perm l') : (ofL cont l).Perm (ofL cont l') := p.flatMap_right _
theorem Fair.perm (h : Fair cont l) (p : l'.Perm l) : Fair cont l' := fun x hx => h x (p.subset hx)
theorem Fair.append (h : Fair cont l) (k : Fair cont l') : Fair cont (l ++ l') := fun x hx => (List.mem_append.1 hx).elim (h x) (k x)
/-- an entry that is raised no higher than what comes of it: the same comes of it, and it still stands below -/
theorem up_same {m : Int} (hm : ∀ h ∈ ofE cont x, m ≤ h.2) (hf : ∀ h ∈ ofE cont x, x.1 ≤ h.2) : ofE cont (up m x) = ofE cont x ∧ ∀ h ∈ ofE cont (up m x), (up m x).1 ≤ h.2 := by
  have hn : nd (up m x) = nd x := rfl
  cases e : nd x with
  | true =>
    have e1 : ofE cont (up m x) = ofE cont x := by rw [ofE_node (hn.trans e), ofE_node e]; rfl
    refine ⟨e1, fun h hh => ?_⟩
    rw [e1] at hh
    have h1 := hm h hh
    have h2 := hf h hh
    show max x.1 m ≤ h.2
    omega
  | false =>
    have h1 := hm (x.2.2, x.1) (by rw [ofE_thing e]; exact List.mem_cons_self ..)
    have e1 : up m x = x := by
      unfold up
      have : max x.1 m = x.1 := by
        show max x.1 m = x.1
        have : m ≤ x.1 := h1
        omega
      rw [this]
    rw [e1]
    exact ⟨rfl, hf⟩
theorem lift_same (hm : ∀ h ∈ ofL cont l, x.1 ≤ h.2) (hf : Fair cont l) : ofL cont (lift x l) = ofL cont l ∧ Fair cont (lift x l) := by
  induction l with
  | nil => exact ⟨rfl, fun y hy => by simp [lift] at hy⟩
  | cons y l ih =>
    obtain ⟨i1, i2⟩ := ih (fun h hh => hm h (by rw [ofL_cons]; exact List.mem_append_right _ hh)) fun z hz => hf z (List.mem_cons_of_mem _ hz)
    obtain ⟨j1, j2⟩ := up_same (m := x.1) (fun h hh => hm h (by rw [ofL_cons]; exact List.mem_append_left _ hh)) (hf y (List.mem_cons_self ..))
    show ofL cont (up x.1 y :: lift x l) = _ ∧ Fair cont (up x.1 y :: lift x l)
    rw [ofL_cons, ofL_cons, i1, j1]
    refine ⟨rfl, fun z hz => ?_⟩
    rcases List.mem_cons.1 hz with rfl | hz
    · exact j2
    · exact i2 z hz
end
section
variable {σ : Type} {beh : σ → Int → List Ent} {nxt : σ → Int → σ} {s s1 : σ} {l l1 : List Ent} {k : Nat} {cont : Int → List (Int × Int)} {N : Int → Prop}
/-- opening nodes changes nothing of what comes in the end -/
theorem Run.comes (hc : ∀ s n, N n → (ofL cont (beh s n)).Perm (cont n) ∧ Fair cont (beh s n) ∧ Nds N (beh s n)) (h : Run beh nxt s l k s1 l1) (h0 : Nds N l) (hf : Fair cont l) : (ofL cont l1).Perm (ofL cont l) ∧ Fair cont l1 ∧ Nds N l1 := by
  induction h with
  | refl => exact ⟨List.Perm.refl _, hf, h0⟩
  | @step k s1 l1 x rest l2 h hfi hx hp hq ih =>
    obtain ⟨i1, i2, i3⟩ := ih
    have i4 := i3.perm hp.symm
    have hN : N x.2.1 := i4 x (List.mem_cons_self ..) (by simpa [nd] using hx)
    obtain ⟨c1, c2, c3⟩ := hc s1 _ hN
    have i5 := i2.perm hp.symm
    have hm : ∀ h ∈ ofL cont (beh s1 x.2.1), x.1 ≤ h.2 := fun h hh => i5 x (List.mem_cons_self ..) h (by rw [ofE_node hx]; exact c1.subset hh)
    obtain ⟨l1', l2'⟩ := lift_same hm c2
    refine ⟨?_, (Fair.append (fun y hy => i5 y (List.mem_cons_of_mem _ hy)) l2').perm hq, (Nds.append (fun y hy => i4 y (List.mem_cons_of_mem _ hy)) c3.lift).perm hq⟩
    refine (ofL_perm hq).trans ?_
    rw [ofL_append, l1']
    refine (List.perm_append_comm).trans ?_
    refine List.Perm.trans ?_ i1
    refine List.Perm.trans ?_ (ofL_perm hp).symm
    rw [ofL_cons, ofE_node hx]
    exact c1.append_right _
/-- a thing that stands first is ahead of all that comes -/
theorem first_ahead {x : Ent} (hf : First x l) (hx : nd x = false) (hF : Fair cont l) : ∀ h ∈ ofL cont l, hit.lt h (x.2.2, x.1) = false := fun h hh => by
  obtain ⟨y, hy, hh⟩ := List.mem_flatMap.1 hh
  have h1 := hf y hy
  rw [hit.nlt_iff]
  have hxn : ¬ 0 ≤ x.2.1 := by simpa [nd] using hx
  cases e : nd y with
  | true =>
    have h2 := hF y hy h hh
    have hyn : 0 ≤ y.2.1 := by simpa [nd] using e
    unfold Ah at h1
    left
    show x.1 < h.2
    omega
  | false =>
    rw [ofE_thing e, List.mem_singleton] at hh
    subst hh
    have hyn : ¬ 0 ≤ y.2.1 := by simpa [nd] using e
    unfold Ah at h1
    show x.1 < y.1 ∨ (y.1 = x.1 ∧ x.2.2 ≤ y.2.2)
    omega
/-- what is told, and what is left, is what there was; what is told rises, and is ahead of what is left -/
theorem Told.comes (hc : ∀ s n, N n → (ofL cont (beh s n)).Perm (cont n) ∧ Fair cont (beh s n) ∧ Nds N (beh s n)) {t : List (Int × Int)} (h : Told beh nxt s l t k s1 l1) (h0 : Nds N l) (hf : Fair cont l) :
    (t ++ ofL cont l1).Perm (ofL cont l) ∧ Fair cont l1 ∧ Nds N l1 ∧ hit.Rises t ∧ ∀ a ∈ t, ∀ b ∈ ofL cont l1, hit.lt b a = false := by
  induction h with
  | nil => exact ⟨List.Perm.refl _, hf, h0, List.Pairwise.nil, fun a ha => by simp at ha⟩
  | @snoc t k s1 l1 j s2 l2 x rest h hr hfi hx hp ih =>
    obtain ⟨i1, i2, i3, i4, i5⟩ := ih
    obtain ⟨j1, j2, j3⟩ := hr.comes hc i3 i2
    have e1 : ofL cont (x :: rest) = (x.2.2, x.1) :: ofL cont rest := by rw [ofL_cons, ofE_thing hx]; rfl
    have p1 : (ofL cont l2).Perm ((x.2.2, x.1) :: ofL cont rest) := by rw [← e1]; exact ofL_perm hp
    refine ⟨?_, fun y hy => j2 y (hp.symm.subset (List.mem_cons_of_mem _ hy)), fun y hy => j3 y (hp.symm.subset (List.mem_cons_of_mem _ hy)), ?_, fun a ha b hb => ?_⟩
    · rw [List.append_assoc]
      refine List.Perm.trans (List.Perm.append_left t ?_) i1
      exact p1.symm.trans j1
    · refine List.pairwise_append.2 ⟨i4, List.pairwise_singleton _ _, fun a ha b hb => ?_⟩
      rw [List.mem_singleton.1 hb]
      exact i5 a ha _ (j1.subset (p1.symm.subset (List.mem_cons_self ..)))
    · have hb2 := p1.symm.subset (List.mem_cons_of_mem _ hb)
      rcases List.mem_append.1 ha with e | e
      · exact i5 a e b (j1.subset hb2)
      · rw [List.mem_singleton.1 e]
        exact first_ahead hfi hx j2 b hb2
/-- what is told is the first part of all that comes, in order -/
theorem Told.is_take (hc : ∀ s n, N n → (ofL cont (beh s n)).Perm (cont n) ∧ Fair cont (beh s n) ∧ Nds N (beh s n)) {t : List (Int × Int)} (h : Told beh nxt s l t k s1 l1) (h0 : Nds N l) (hf : Fair cont l) : t = (hit.sortH (ofL cont l)).take t.length := by
  obtain ⟨h1, h2, h3, h4, h5⟩ := h.comes hc h0 hf
  have hs : hit.Rises (t ++ hit.sortH (ofL cont l1)) := List.pairwise_append.2 ⟨h4, hit.sortH_rises _, fun a ha b hb => h5 a ha b ((hit.sortH_perm _).subset hb)⟩
  have e : t ++ hit.sortH (ofL cont l1) = hit.sortH (ofL cont l) := hit.sortH_is ((List.Perm.append_left t (hit.sortH_perm _)).trans h1) hs
  rw [← e, List.take_left]
/-- .. all of it, if nothing is left -/
theorem Told.is_all (hc : ∀ s n, N n → (ofL cont (beh s n)).Perm (cont n) ∧ Fair cont (beh s n) ∧ Nds N (beh s n)) {t : List (Int × Int)} (h : Told beh nxt s l t k s1 l1) (h0 : Nds N l) (hf : Fair cont l) (hl : ofL cont l1 = []) : t = hit.sortH (ofL cont l) := by
  obtain ⟨h1, h2, h3, h4, h5⟩ := h.comes hc h0 hf
  rw [hl, List.append_nil] at h1
  exact hit.sortH_is h1 h4
/-- what stands above r brings nothing up to r -/
theorem Fair.beyond {r : Int} (h : Fair cont l) (hr : ∀ x ∈ l, r < x.1) : ∀ b ∈ ofL cont l, r < b.2 := fun b hb => by
  obtain ⟨y, hy, hb⟩ := List.mem_flatMap.1 hb
  have h1 := h y hy b hb
  have h2 := hr y hy
  omega
end
end Go.Proofs.YtpmjpolnoaigoaaGreat.fro
/-
  A walk in memory: its struct, its heap; the contracts of first, Low, Opened; of what its function tells (asked in behind, which recovers); of Push and Pop at a walk's heap.
-/
namespace Go.Proofs.YtpmjpolnoaigoaaGreat.fro
open Go.RowKit law bytes only flat heapM Go.Sort Go.Shelf
set_option linter.unusedVariables false

/-- a walk at block wb, its heap at block hb; T: all that it may turn; F: its function; d: its entries as they stand; o: how many nodes were opened -/
def Wk (w : World) (base wb hb : Nat) (T : Nat → Prop) (F : Value) (d : Array Ent) (o : Nat) : Prop :=
  ∃ v, Blk w wb 175 #[F, .pointer (some ⟨hb, 0, none⟩), .int .i64 o] ∧ EHp w base hb v 118 d ∧ Heap (lf ce) d ∧ base ≤ hb ∧ base ≤ wb ∧ wb ≠ hb ∧ v.ownBlock ≠ some wb ∧ ∀ i, T i ↔ (i = wb ∨ Mine hb v i)
section
variable {w w' : World} {base wb hb o : Nat} {T : Nat → Prop} {F : Value} {d : Array Ent}
theorem Wk.low (h : Wk w base wb hb T F d o) : ∀ i, T i → base ≤ i ∧ i < w.heap.size := fun i hi => by
  obtain ⟨v, h1, h2, h3, h4, h5, h6, h7, h8⟩ := h
  rcases (h8 i).1 hi with e | e | e
  · rw [e]; exact ⟨h5, h1.lt⟩
  · rw [e]; exact ⟨h4, h2.lt⟩
  · exact own_lt h2.2.1 e
theorem Wk.at_ (h : Wk w base wb hb T F d o) : T wb := by
  obtain ⟨v, h1, h2, h3, h4, h5, h6, h7, h8⟩ := h
  exact (h8 wb).2 (.inl rfl)
theorem Wk.heap (h : Wk w base wb hb T F d o) : Heap (lf ce) d := by
  obtain ⟨v, h1, h2, h3, h4, h5, h6, h7, h8⟩ := h
  exact h3
theorem Wk.blk (h : Wk w base wb hb T F d o) : Blk w wb 175 #[F, .pointer (some ⟨hb, 0, none⟩), .int .i64 o] := by
  obtain ⟨v, h1, h2, h3, h4, h5, h6, h7, h8⟩ := h
  exact h1
theorem Wk.only {S : Nat → Prop} (h : Wk w base wb hb T F d o) (k : Only S w w') (hS : ∀ i, T i → ¬ S i) : Wk w' base wb hb T F d o := by
  obtain ⟨v, h1, h2, h3, h4, h5, h6, h7, h8⟩ := h
  exact ⟨v, Blk.only h1 k (hS wb ((h8 wb).2 (.inl rfl))), h2.only k fun i e => hS i ((h8 i).2 (.inr e)), h3, h4, h5, h6, h7, h8⟩
theorem Wk.below (h : Wk w base wb hb T F d o) (k : Below w.heap.size w w') : Wk w' base wb hb T F d o := h.only (S := fun _ => False) (Only.of_below k (Nat.le_refl _) _) fun i hi e => e
theorem Wk.drewN (h : Wk w base wb hb T F d o) (m : Nat) : Wk (w.drewN m) base wb hb T F d o := h
/-- a walk's count turned -/
theorem Wk.count (h : Wk w base wb hb T F d o) (o' : Nat) : Wk (w.setCell ⟨wb, 2, none⟩ (.int .i64 o')) base wb hb T F d o' ∧ Only T w (w.setCell ⟨wb, 2, none⟩ (.int .i64 o')) := by
  obtain ⟨v, h1, h2, h3, h4, h5, h6, h7, h8⟩ := h
  have ho : Only (· = wb) w (w.setCell ⟨wb, 2, none⟩ (.int .i64 o')) := Only.setCell (S := (· = wb)) (p := ⟨wb, 2, none⟩) (Only.refl _ _) (.inl rfl) _
  refine ⟨⟨v, h1.set_ 2 _, h2.only ho fun i e e2 => ?_, h3, h4, h5, h6, h7, h8⟩, ho.mono fun i e => .inl ((h8 i).2 (.inl e))⟩
  rcases e with e | e
  · exact h6 (e2.symm.trans e)
  · exact h7 (by rw [e, e2])
end
/-- what a walk's method leaves: the walk, its entries d', o' nodes opened; of what there was, T and TO alone have turned; T' is of T and of new blocks -/
def Left (base wb hb : Nat) (F : Value) (T TO : Nat → Prop) (w w' : World) (d' : Array Ent) (o' : Nat) : Prop :=
  ∃ T', Wk w' base wb hb T' F d' o' ∧ Only (fun i => T i ∨ TO i) w w' ∧ ∀ i, T' i → T i ∨ w.heap.size ≤ i
section
variable {w w' w2 : World} {base wb hb o o2 : Nat} {T TO T' : Nat → Prop} {F : Value} {d d2 : Array Ent}
theorem Left.same (h : Wk w base wb hb T F d o) : Left base wb hb F T TO w w d o := ⟨T, h, Only.refl _ _, fun i e => .inl e⟩
theorem Left.on (h : Left base wb hb F T TO w w' d o) (k : Below w'.heap.size w' w2) : Left base wb hb F T TO w w2 d o := by
  obtain ⟨T', h1, h2, h3⟩ := h
  exact ⟨T', h1.below k, h2.on k, h3⟩
theorem Left.drewN (h : Left base wb hb F T TO w w' d o) (m : Nat) : Left base wb hb F T TO w (w'.drewN m) d o := by
  obtain ⟨T', h1, h2, h3⟩ := h
  exact ⟨T', h1, h2.drewN m, h3⟩
/-- one after the other -/
theorem Left.next (h : Wk w' base wb hb T' F d o) (ho : Only (fun i => T i ∨ TO i) w w') (hT : ∀ i, T' i → T i ∨ w.heap.size ≤ i) (k : Left base wb hb F T' TO w' w2 d2 o2) : Left base wb hb F T TO w w2 d2 o2 := by
  obtain ⟨T2, k1, k2, k3⟩ := k
  refine ⟨T2, k1, ho.trans k2 fun i e => ?_, fun i e => ?_⟩
  · rcases e with e | e
    · exact (hT i e).imp .inl id
    · exact .inl (.inr e)
  · rcases k3 i e with e2 | e2
    · exact hT i e2
    · exact .inr (Nat.le_trans ho.size e2)
end
/-! ### what the function tells -/
/-- a row that can be read, below the walk's memory or made just now -/
def Seen (base : Nat) (w w' : World) (A : Option Addr) (xs : List Value) : Prop := ∀ j u, xs[j]? = some u → ∃ ad, A = some ad ∧ (ad.block < base ∨ w.heap.size ≤ ad.block) ∧ ad.block < w'.heap.size ∧ w'.cell? (ad.add j) = some u
theorem Seen.away {base : Nat} {w w' : World} {A : Option Addr} {xs : List Value} {T : Nat → Prop} (h : Seen base w w' A xs) (hT : ∀ i, T i → base ≤ i ∧ i < w.heap.size) : Away w' T A xs := fun j u hj => by
  obtain ⟨ad, e, hb, hl, hc⟩ := h j u hj
  refine ⟨ad, e, hl, fun ht => ?_, hc⟩
  have := hT _ ht
  omega
/-- what a walk's function is asked, and tells: for nodes of N (any other is never asked), where J holds (which what the walk turns doesn't change); weights, so that walks end -/
structure Op {σ : Type} (F : Value) (base : Nat) (TO : Nat → Prop) (J : σ → World → Prop) (N : Int → Prop) (beh : σ → Int → List Ent) (nxt : σ → Int → σ) (wt : Int → Nat) : Prop where
  low : ∀ i, TO i → i < base
  keep : ∀ s W W', J s W → Below base W W' → J s W'
  next : ∀ s n, N n → Nds N (beh s n)
  less : ∀ s n, N n → wsum wt (beh s n) < wt n
  pos : ∀ n, 0 < wt n
  tells : ∀ n, N n → 0 ≤ n → ∃ K cap, F = .func (.func K) #[] cap ∧ Enters Tryz.prog K ∧ ∀ s W, J s W → base ≤ W.heap.size → Calls Tryz.prog K (#[.int .i64 n] ++ cap) W fun e w' =>
    ∃ A c, e = .returned (.slice A (beh s n).length c) ∧ Seen base W w' A ((beh s n).flatMap ec) ∧ Only TO W w' ∧ J (nxt s n) w'
/-- what behind leaves -/
def Behind {σ : Type} (base : Nat) (TO : Nat → Prop) (J : σ → World → Prop) (beh : σ → Int → List Ent) (nxt : σ → Int → σ) (s : σ) (n : Int) (w : World) (e : Ending) (w' : World) : Prop :=
  ∃ A c, e = .returned (.slice A (beh s n).length c) ∧ Seen base w w' A ((beh s n).flatMap ec) ∧ Only TO w w' ∧ J (nxt s n) w'
theorem idle_behind (p : Addr) (w : World) :
    CallsD Tryz.prog 215 #[.pointer (some p)] .returning w fun e u' w' => e = .returned (.tuple #[]) ∧ u' = .returning ∧ w' = w := by
  refine callsD_of_wpS Tryz.func215 rfl fun c₀ cs hu => ?_
  apply wpS_seq
  apply wpS_region
  simp [wpOpsS, go_sem, recoverD, hu, Tryz.ntmps215, Exit.thenS]
  refine wpS_cond (t := false) (by simp [Act.eval, Array.replicate]) ?_
  simp only [Bool.false_eq_true, if_false]
  refine wpS_of_wp (wp_skip ?_)
  cases c₀
  simp_all [bodyPostS, results, Tryz.results215]
section
variable {σ : Type} {F : Value} {base wb hb o : Nat} {T TO : Nat → Prop} {J : σ → World → Prop} {N : Int → Prop} {beh : σ → Int → List Ent} {nxt : σ → Int → σ} {wt : Int → Nat} {d : Array Ent} {s : σ} {w : World}
set_option maxRecDepth 100000 in
set_option maxHeartbeats 1600000 in
theorem behind_any (H : Op F base TO J N beh nxt wt) (h : Wk w base wb hb T F d o) (hJ : J s w) (n : Int) (hn : 0 ≤ n) (hN : N n) :
    Calls Tryz.prog 175 #[.pointer (some ⟨wb, 0, none⟩), .int .i64 n] w fun e w' => Behind base TO J beh nxt s n w e w' := by
  obtain ⟨K, cap, rfl, hK, ht⟩ := H.tells n hN hn
  have hmf : ∀ (fn : Fn) (first cap : Array Value) (w : World), (Instr.makeFunc fn first cap).run Tryz.prog w = .ok (.func fn first cap) w := fun _ _ _ _ => rfl
  have hbs : base ≤ w.heap.size := Nat.le_of_lt (Nat.lt_of_le_of_lt (h.low _ h.at_).1 (h.low _ h.at_).2)
  obtain ⟨V, hV⟩ : ∃ V, V = w.alloc (.cells #[.slice none 0 0] 127) := ⟨_, rfl⟩
  have hbV : Below w.heap.size w V := by rw [hV]; exact (Below.refl _ _).alloc (Nat.le_refl _) _
  have hsz : V.heap.size = w.heap.size + 1 := by rw [hV]; simp
  have b1 : Blk V w.heap.size 127 #[.slice none 0 0] := by rw [hV]; exact Blk.new w _ _
  have q0 : V.cell? ⟨wb, 0, none⟩ = some (.func (.func K) #[] cap) := (h.below hbV).blk.cell 0
  have hC := ht s V (H.keep s w V hJ (hbV.mono hbs)) (by omega)
  have HE : Hid (∀ (W : World) A, Only TO V W → W.cell? ⟨w.heap.size, 0, none⟩ = some (.slice none 0 0) ∧ W.frozen? ⟨w.heap.size, 0, none⟩ = false ∧
      ∀ c, Seen base V W A ((beh s n).flatMap ec) → J (nxt s n) W → Behind base TO J beh nxt s n w (.returned (.slice A (beh s n).length c)) (W.setCell ⟨w.heap.size, 0, none⟩ (.slice A (beh s n).length c))) := Lib.hid fun W A hW => by
    have b2 := Blk.only b1 hW fun e => by have := H.low _ e; omega
    refine ⟨b2.cell 0, b2.frozen 0, fun c hs hj => ⟨A, c, rfl, fun j u hj2 => ?_, ?_, ?_⟩⟩
    · obtain ⟨ad, e, h1, h2, h3⟩ := hs j u hj2
      refine ⟨ad, e, by omega, by simpa [World.setCell] using h2, ?_⟩
      rw [World.cell?_setCell_other _ _ _ _ (fun e2 => by have e3 := congrArg Addr.block e2; rw [blk_add] at e3; simp only at e3; omega)]
      exact h3
    · exact Only.setCell (p := ⟨w.heap.size, 0, none⟩) ((Only.of_below hbV (Nat.le_refl _) TO).trans hW fun i e => .inl e) (.inr (Nat.le_refl _)) _
    · exact H.keep _ _ _ hj ((Below.refl _ _).setCell (p := ⟨w.heap.size, 0, none⟩) hbs _)
  have HC := Lib.hid hC
  have HV := Lib.hid hV
  rw [hV] at q0
  clear hC hV h b1 hbV hsz hbs ht H hJ
  have hK' : ∀ (args : Array Value) (w : World), (callFunc K args).run Tryz.prog w = .ok (.enter K args) w := hK
  clear hK
  go_enter_defers Tryz.func175, Tryz.ntmps175
  go_wp2_with (fail)
  rw [← HV.out]
  refine HC.out.mono ?_
  rintro e w2 ⟨A, c, rfl, hs, ho, hj⟩
  obtain ⟨t0, tf, hE⟩ := HE.out w2 A ho
  have HE2 := Lib.hid (hE c hs hj)
  have t1 : (w2.setCell ⟨w.heap.size, 0, none⟩ (.slice A (beh s n).length c)).cell? ⟨w.heap.size, 0, none⟩ = some (.slice A (beh s n).length c) := World.cell?_setCell_same _ _ _ t0
  clear hs hj ho hE HE HC
  go_wp2_with (fail)
  refine leaves_cons (f := 215) (args := #[.pointer (some ⟨w.heap.size, 0, none⟩)]) (by simp) (by simp [go_sem]) ?_
  refine (idle_behind ⟨w.heap.size, 0, none⟩ _).mono ?_
  rintro e u' w'' ⟨rfl, rfl, rfl⟩
  simp [Leaves, settle, results, Tryz.results175, go_sem]
  rw [t1]
  exact ⟨_, rfl, HE2.out⟩
end
end Go.Proofs.YtpmjpolnoaigoaaGreat.fro
/-
  The contracts of Push, Pop, Top at a walk's heap; of first; of enter (what stands behind a node comes, no lower than it).
-/
namespace Go.Proofs.YtpmjpolnoaigoaaGreat.fro
open Go.RowKit law bytes only flat heapM Go.Sort Go.Shelf
set_option linter.unusedVariables false

/-- where a row's entry stands -/
theorem Sl.ent {w : World} {B : Nat} {A : Option Addr} {l : List Ent} {k : Nat} (h : Sl w B A (l.flatMap ec)) (hk : k < l.length) : ∃ b o, A = some ⟨b, o, none⟩ ∧ b < B ∧
    w.cell? ⟨b, o + k * 3, none⟩ = some (.int .i64 l[k].1) ∧ w.cell? ⟨b, o + k * 3 + 1, none⟩ = some (.int .i64 l[k].2.1) ∧ w.cell? ⟨b, o + k * 3 + 2, none⟩ = some (.int .u64 l[k].2.2) := by
  have hl : (l.flatMap ec).length = l.length * 3 := flat_length ec_len l
  obtain ⟨b, o, rfl, hb, hc⟩ := Sl.place h (by omega)
  refine ⟨b, o, rfl, hb, ?_⟩
  have g := fun j (hj : j < 3) => flat_get ec_len l k j hk hj
  have q : ∀ j (hj : j < 3) u, (ec l[k])[j]? = some u → w.cell? ⟨b, o + (k * 3 + j), none⟩ = some u := fun j hj u hu => by
    have l0 : k * 3 + j < (l.flatMap ec).length := by omega
    have := (List.getElem?_eq_getElem l0).symm.trans ((g j hj).trans hu)
    rw [← Option.some.inj this]
    exact hc _ l0
  exact ⟨q 0 (by omega) _ rfl, by rw [Nat.add_assoc]; exact q 1 (by omega) _ rfl, by rw [Nat.add_assoc]; exact q 2 (by omega) _ rfl⟩
section
variable {base wb hb o : Nat} {T : Nat → Prop} {F : Value} {d : Array Ent} {w w' : World}
theorem Wk.base_le (h : Wk w base wb hb T F d o) : base ≤ w.heap.size := Nat.le_of_lt (Nat.lt_of_le_of_lt (h.low _ h.at_).1 (h.low _ h.at_).2)
theorem push_wk (h : Wk w base wb hb T F d o) (x : Ent) (hsz : (d.size + 1) * 24 ≤ 140737488355328) :
    Calls Tryz.prog 119 #[.pointer (some ⟨hb, 0, none⟩), tE x] w fun e w' => e = .returned (.tuple #[]) ∧ ∃ d', Left base wb hb F T (fun _ => False) w w' d' o ∧ d'.toList.Perm (x :: d.toList) := by
  have hbs := h.base_le
  obtain ⟨v, h1, h2, h3, h4, h5, h6, h7, h8⟩ := h
  refine (push_ent ce order_enters order_tells swo x w h2 h3 hbs hsz).mono ?_
  rintro e w' ⟨rfl, ho, v', d', hh, hH, hp, hm⟩
  have hnw : ¬ Mine hb v wb := fun e => e.elim h6 h7
  refine ⟨rfl, d', ⟨fun i => i = wb ∨ Mine hb v' i, ⟨v', Blk.only h1 ho hnw, hh, hH, h4, h5, h6, fun e => ?_, fun i => Iff.rfl⟩, ho.mono fun i e => .inl (.inl ((h8 i).2 (.inr e))), fun i e => ?_⟩, hp⟩
  · rcases hm with e2 | ⟨g, e2, hg⟩
    · exact h7 (e2 ▸ e)
    · have hl := h1.lt
      rw [e2] at e
      injection e with e
      omega
  · rcases e with e | e | e
    · exact .inl ((h8 i).2 (.inl e))
    · exact .inl ((h8 i).2 (.inr (.inl e)))
    · rcases hm with e2 | ⟨g, e2, hg⟩
      · exact .inl ((h8 i).2 (.inr (.inr (e2 ▸ e))))
      · rw [e2] at e
        injection e with e
        exact .inr (by omega)
theorem pop_wk (h : Wk w base wb hb T F d o) (h0 : 0 < d.size) (hsz : d.size < 2305843009213693952) :
    Calls Tryz.prog 140 #[.pointer (some ⟨hb, 0, none⟩)] w fun e w' => e = .returned (.tuple #[tE d[0]!, .bool true]) ∧ ∃ d', Left base wb hb F T (fun _ => False) w w' d' o ∧ (d[0]! :: d'.toList).Perm d.toList := by
  obtain ⟨v, h1, h2, h3, h4, h5, h6, h7, h8⟩ := h
  refine (pop_ent ce order_enters order_tells swo w h2 h3 h0 hsz).mono ?_
  rintro e w' ⟨rfl, ho, v', d', hh, hH, hp, hm⟩
  have hnw : ¬ Mine hb v wb := fun e => e.elim h6 h7
  refine ⟨rfl, d', ⟨T, ⟨v', Blk.only h1 ho hnw, hh, hH, h4, h5, h6, by rw [hm]; exact h7, fun i => (h8 i).trans ⟨fun e => e.imp id fun e => e.imp id fun e => by rw [hm]; exact e, fun e => e.imp id fun e => e.imp id fun e => by rw [hm] at e; exact e⟩⟩, ho.mono fun i e => .inl (.inl ((h8 i).2 (.inr e))), fun i e => .inl e⟩, hp⟩
theorem top_wk (h : Wk w base wb hb T F d o) : Calls Tryz.prog 173 #[.pointer (some ⟨hb, 0, none⟩)] w fun e w' => e = .returned (topE d) ∧ Below w.heap.size w w' := by
  obtain ⟨v, h1, h2, h3, h4, h5, h6, h7, h8⟩ := h
  exact top_ent h2
/-- what Top and first tell -/
def topT (d : Array Ent) : Ent × Bool := if d.size = 0 then ((0, 0, 0), false) else (d[0]!, true)
theorem topE_is (d : Array Ent) : topE d = .tuple #[tE (topT d).1, .bool (topT d).2] := by
  unfold topE topT
  by_cases h : d.size = 0
  · rw [if_pos h, if_pos h]
  · rw [if_neg h, if_neg h]
set_option maxRecDepth 100000 in
set_option maxHeartbeats 1600000 in
theorem first_any (h : Wk w base wb hb T F d o) : Calls Tryz.prog 139 #[.pointer (some ⟨wb, 0, none⟩)] w fun e w' => e = .returned (.tuple #[tE (topT d).1, .bool (topT d).2]) ∧ Below w.heap.size w w' := by
  have hb1 : Below w.heap.size w (w.alloc (.cells #[.int .i64 0, .int .i64 0, .int .u64 0] 130)) := (Below.refl _ _).alloc (Nat.le_refl _) _
  have h1 := h.below hb1
  have HT := top_wk h1
  rw [topE_is] at HT
  generalize (topT d).1 = x at HT ⊢
  generalize (topT d).2 = t at HT ⊢
  unfold tE at HT ⊢
  have q1 : (w.alloc (.cells #[.int .i64 0, .int .i64 0, .int .u64 0] 130)).cell? ⟨wb, 1, none⟩ = some (.pointer (some ⟨hb, 0, none⟩)) := h1.blk.cell 1
  have HE : Hid (∀ W, Below (w.alloc (.cells #[.int .i64 0, .int .i64 0, .int .u64 0] 130)).heap.size (w.alloc (.cells #[.int .i64 0, .int .i64 0, .int .u64 0] 130)) W → Blk W w.heap.size 130 #[.int .i64 0, .int .i64 0, .int .u64 0] ∧ Below w.heap.size w W) := Lib.hid fun W hW =>
    ⟨(Blk.new w _ _).below hW (by simp), hb1.trans (hW.mono (by simp))⟩
  have HH := Lib.hid HT
  clear h h1 HT hb1
  go_enter Tryz.func139, Tryz.ntmps139
  go_wp2_with (fail)
  refine HH.out.mono ?_
  rintro e w1 ⟨rfl, hb2⟩
  obtain ⟨b0, hB⟩ := HE.out w1 hb2
  have c0 := b0.cell 0
  have c1 := b0.cell 1
  have c2 := b0.cell 2
  have f0 := b0.frozen 0
  have f1 := b0.frozen 1
  have f2 := b0.frozen 2
  simp only [List.getElem?_toArray, List.getElem?_cons_succ, List.getElem?_cons_zero] at c0 c1 c2
  have b1 := ((b0.set_ 0 (.int .i64 x.1)).set_ 1 (.int .i64 x.2.1)).set_ 2 (.int .u64 x.2.2)
  have hE : Below w.heap.size w (((w1.setCell ⟨w.heap.size, 0, none⟩ (.int .i64 x.1)).setCell ⟨w.heap.size, 1, none⟩ (.int .i64 x.2.1)).setCell ⟨w.heap.size, 2, none⟩ (.int .u64 x.2.2)) := ((hB.setCell (p := ⟨w.heap.size, 0, none⟩) (Nat.le_refl _) _).setCell (p := ⟨w.heap.size, 1, none⟩) (Nat.le_refl _) _).setCell (p := ⟨w.heap.size, 2, none⟩) (Nat.le_refl _) _
  have HB1 := Lib.hid b1
  have HE2 := Lib.hid hE
  clear b0 b1 hE hB HE hb2 HH
  go_wp2_with (fail)
  obtain ⟨V, hV⟩ : ∃ V, V = (((w1.setCell ⟨w.heap.size, 0, none⟩ (.int .i64 x.1)).setCell ⟨w.heap.size, 1, none⟩ (.int .i64 x.2.1)).setCell ⟨w.heap.size, 2, none⟩ (.int .u64 x.2.2)) := ⟨_, rfl⟩
  rw [← hV] at HB1 HE2 ⊢
  clear hV
  have z0 := HB1.out.cell 0
  have z1 := HB1.out.cell 1
  have z2 := HB1.out.cell 2
  simp at z0 z1 z2
  refine bodyPost_ret (v := .tuple #[.agg #[.int .i64 x.1, .int .i64 x.2.1, .int .u64 x.2.2], .bool t]) (by simp [results, Tryz.results139, go_sem, z0, z1, z2]) rfl ?_
  exact ⟨rfl, HE2.out⟩
end
end Go.Proofs.YtpmjpolnoaigoaaGreat.fro
/-
  The contract of enter: what stands behind a node comes, each no lower than the node.
-/
namespace Go.Proofs.YtpmjpolnoaigoaaGreat.fro
open Go.RowKit law bytes only flat heapM Go.Sort Go.Shelf
set_option linter.unusedVariables false

/-- enter's memory ahead of a round: the walk with so many of the row's entries in; the node's own copy; the row, away from what the walk turns -/
def EnS (base wb hb : Nat) (F : Value) (T TO : Nat → Prop) (J : World → Prop) (w : World) (x : Ent) (A : Option Addr) (row : List Ent) (d : Array Ent) (o : Nat) (k : Nat) (wr : World) : Prop :=
  ∃ T' d', Wk wr base wb hb T' F d' o ∧ d'.toList.Perm (d.toList ++ lift x (row.take k)) ∧ Only (fun i => T i ∨ TO i) w wr ∧ (∀ i, T' i → T i ∨ w.heap.size ≤ i) ∧
    Blk wr w.heap.size 130 #[.int .i64 x.1, .int .i64 x.2.1, .int .u64 x.2.2] ∧ ¬ T' w.heap.size ∧ Away wr T' A (row.flatMap ec) ∧ J wr
/-- what a round asks, and what it leaves -/
def Rnd (base wb hb : Nat) (F : Value) (T TO : Nat → Prop) (J : World → Prop) (w : World) (x : Ent) (A : Option Addr) (row : List Ent) (d : Array Ent) (o k : Nat) (hk : k < row.length) (wr : World) : Prop :=
  ∃ b q y, row[k] = y ∧ A = some ⟨b, q, none⟩ ∧
      (wr.cell? ⟨b, q + k * 3, none⟩ = some (.int .i64 y.1) ∧ wr.cell? ⟨b, q + k * 3 + 1, none⟩ = some (.int .i64 y.2.1) ∧ wr.cell? ⟨b, q + k * 3 + 2, none⟩ = some (.int .u64 y.2.2)) ∧
      ((wr.alloc (.cells #[.int .i64 y.1, .int .i64 y.2.1, .int .u64 y.2.2] 130)).cell? ⟨wr.heap.size, 0, none⟩ = some (.int .i64 y.1) ∧ (wr.alloc (.cells #[.int .i64 y.1, .int .i64 y.2.1, .int .u64 y.2.2] 130)).frozen? ⟨wr.heap.size, 0, none⟩ = false ∧
        (wr.alloc (.cells #[.int .i64 y.1, .int .i64 y.2.1, .int .u64 y.2.2] 130)).cell? ⟨w.heap.size, 0, none⟩ = some (.int .i64 x.1)) ∧
      ∀ V, V = wr.alloc (.cells #[.int .i64 (max y.1 x.1), .int .i64 y.2.1, .int .u64 y.2.2] 130) →
        (∀ W, Below V.heap.size V W → W.cell? ⟨wb, 1, none⟩ = some (.pointer (some ⟨hb, 0, none⟩)) ∧ W.cell? ⟨wr.heap.size, 0, none⟩ = some (.int .i64 (max y.1 x.1)) ∧ W.cell? ⟨wr.heap.size, 1, none⟩ = some (.int .i64 y.2.1) ∧ W.cell? ⟨wr.heap.size, 2, none⟩ = some (.int .u64 y.2.2)) ∧
        ∀ W, Below V.heap.size V W → Calls Tryz.prog 119 #[.pointer (some ⟨hb, 0, none⟩), .agg #[.int .i64 (max y.1 x.1), .int .i64 y.2.1, .int .u64 y.2.2]] W fun e w' => e = .returned (.tuple #[]) ∧ EnS base wb hb F T TO J w x A row d o (k + 1) w' ∧ (w'.cell? ⟨wb, 1, none⟩ = some (.pointer (some ⟨hb, 0, none⟩)) ∧ w'.cell? ⟨wr.heap.size, 0, none⟩ = some (.int .i64 (max y.1 x.1)) ∧ w'.cell? ⟨wr.heap.size, 1, none⟩ = some (.int .i64 y.2.1) ∧ w'.cell? ⟨wr.heap.size, 2, none⟩ = some (.int .u64 y.2.2))
section
variable {base wb hb o k : Nat} {F : Value} {T TO : Nat → Prop} {J : World → Prop} {w wr : World} {x : Ent} {A : Option Addr} {row : List Ent} {d : Array Ent}
theorem EnS.round (h : EnS base wb hb F T TO J w x A row d o k wr) (hk : k < row.length) (hJ : ∀ W W', J W → Below base W W' → J W') (hsz : d.size + row.length ≤ 1099511627776) : Rnd base wb hb F T TO J w x A row d o k hk wr := by
  obtain ⟨T', d', h1, h2, h3, h4, h5, h6, h7, h8⟩ := h
  obtain ⟨b, q, rfl, hb1, c0, c1, c2⟩ := Sl.ent h7.sl hk
  refine ⟨b, q, row[k], rfl, rfl, ⟨c0, c1, c2⟩, ?_⟩
  obtain ⟨y, hy⟩ : ∃ y, row[k] = y := ⟨_, rfl⟩
  rw [hy]
  have e1 := Blk.new wr 130 #[.int .i64 y.1, .int .i64 y.2.1, .int .u64 y.2.2]
  have hbs := h1.base_le
  refine ⟨⟨e1.cell 0, e1.frozen 0, (h5.alloc _).cell 0⟩, fun V hV => ?_⟩
  have e2 : Blk V wr.heap.size 130 #[.int .i64 (max y.1 x.1), .int .i64 y.2.1, .int .u64 y.2.2] := by rw [hV]; exact Blk.new wr _ _
  have hbV : Below wr.heap.size wr V := by rw [hV]; exact (Below.refl _ _).alloc (Nat.le_refl _) _
  have h1V := h1.below hbV
  refine ⟨fun W hW => ⟨(h1V.below hW).blk.cell 1, (e2.below hW e2.lt).cell 0, (e2.below hW e2.lt).cell 1, (e2.below hW e2.lt).cell 2⟩, fun W hW => ?_⟩
  have hWr : Below wr.heap.size wr W := hbV.trans (hW.mono hbV.size)
  have hd : d'.size = d.size + (lift x (row.take k)).length := by
    have := h2.length_eq
    simpa using this
  have hd2 : (lift x (row.take k)).length ≤ k := by simp [lift]; omega
  refine (push_wk (h1V.below hW) (up x.1 y) (by omega)).mono ?_
  rintro e w' ⟨rfl, d2, ⟨T2, k1, k2, k3⟩, k4⟩
  have hoT : Only T' W w' := k2.mono fun i e => e.elim .inl False.elim
  have hoR : Only T' wr w' := (Only.of_below hWr (Nat.le_refl _) T').trans hoT fun i e => .inl e
  have hT2 : ∀ i, i < wr.heap.size → ¬ T' i → ¬ T2 i := fun i hi hn e => by
    rcases k3 i e with e2 | e2
    · exact hn e2
    · have := hWr.size; omega
  have hsw := h3.size
  have hcn : ¬ T' wr.heap.size := fun e => by have := (h1.low _ e).2; omega
  have e3 := Blk.only (e2.below hW e2.lt) hoT hcn
  refine ⟨rfl, ⟨T2, d2, k1, ?_, ?_, fun i e => ?_, Blk.only h5 hoR h6, hT2 _ h5.lt h6, h7.step hoR hT2, hJ _ _ h8 (hoR.below hbs fun i e => (h1.low i e).1)⟩, k1.blk.cell 1, e3.cell 0, e3.cell 1, e3.cell 2⟩
  · refine k4.trans ((List.Perm.cons _ h2).trans ?_)
    rw [List.take_succ_eq_append_getElem hk, hy]
    show List.Perm _ (d.toList ++ ((row.take k ++ [y]).map (up x.1)))
    rw [List.map_append, ← List.append_assoc]
    exact List.perm_append_comm (l₁ := [up x.1 y])
  · exact h3.trans hoR fun i e => (h4 i e).imp .inl id
  · rcases k3 i e with e2 | e2
    · exact h4 i e2
    · have := hWr.size; exact .inr (by omega)
end
section
variable {σ : Type} {F : Value} {base wb hb o : Nat} {T TO : Nat → Prop} {J : σ → World → Prop} {N : Int → Prop} {beh : σ → Int → List Ent} {nxt : σ → Int → σ} {wt : Int → Nat} {d : Array Ent} {s : σ} {w : World}
set_option maxRecDepth 100000 in
set_option maxHeartbeats 3200000 in
theorem enter_any (H : Op F base TO J N beh nxt wt) (h : Wk w base wb hb T F d o) (hJ : J s w) (x : Ent) (hn : 0 ≤ x.2.1) (hN : N x.2.1) (hsz : wsum wt d.toList + wt x.2.1 + o ≤ 1099511627776) :
    Calls Tryz.prog 142 #[.pointer (some ⟨wb, 0, none⟩), tE x] w fun e w' => e = .returned (.tuple #[]) ∧ ∃ d', Left base wb hb F T TO w w' d' (o + 1) ∧ d'.toList.Perm (d.toList ++ lift x (beh s x.2.1)) ∧ J (nxt s x.2.1) w' := by
  unfold tE
  have hbs := h.base_le
  have hlen : (beh s x.2.1).length ≤ wt x.2.1 := Nat.le_trans (wsum_len H.pos _) (Nat.le_of_lt (H.less s _ hN))
  have hdl : d.size ≤ wsum wt d.toList := by have := wsum_len H.pos d.toList; simpa using this
  obtain ⟨V1, hV1⟩ : ∃ V1, V1 = w.alloc (.cells #[.int .i64 x.1, .int .i64 x.2.1, .int .u64 x.2.2] 130) := ⟨_, rfl⟩
  have hb1 : Below w.heap.size w V1 := by rw [hV1]; exact (Below.refl _ _).alloc (Nat.le_refl _) _
  have hs1 : V1.heap.size = w.heap.size + 1 := by rw [hV1]; simp
  have bx : Blk V1 w.heap.size 130 #[.int .i64 x.1, .int .i64 x.2.1, .int .u64 x.2.2] := by rw [hV1]; exact Blk.new w _ _
  have h1 := h.below hb1
  have c2 : V1.cell? ⟨wb, 2, none⟩ = some (.int .i64 o) := h1.blk.cell 2
  have f2 : V1.frozen? ⟨wb, 2, none⟩ = false := h1.blk.frozen 2
  have i0 : IntKind.i64.wrap ((o : Int) + 1) = (o : Int) + 1 := by rw [IntKind.wrap_i64]; omega
  obtain ⟨h2, ho2⟩ := h1.count (o + 1)
  obtain ⟨V2, hV2⟩ : ∃ V2, V2 = V1.setCell ⟨wb, 2, none⟩ (.int .i64 ((o : Int) + 1)) := ⟨_, rfl⟩
  rw [show ((o + 1 : Nat) : Int) = (o : Int) + 1 from rfl] at h2 ho2
  rw [← hV2] at h2 ho2
  have hwn : ¬ T w.heap.size := fun e => by have := (h.low _ e).2; omega
  have bx2 : Blk V2 w.heap.size 130 #[.int .i64 x.1, .int .i64 x.2.1, .int .u64 x.2.2] := Blk.only bx ho2 hwn
  have c1 : V2.cell? ⟨w.heap.size, 1, none⟩ = some (.int .i64 x.2.1) := bx2.cell 1
  have hJ2 : J s V2 := H.keep s _ _ hJ ((hb1.mono hbs).trans (ho2.below (Nat.le_trans hbs hb1.size) fun i e => (h.low i e).1))
  have hbe := behind_any H h2 hJ2 x.2.1 hn hN
  unfold Behind at hbe
  have HBE := Lib.hid hbe
  have HEN : Hid (∀ (w3 : World) A c c', Value.slice A (beh s x.2.1).length c = c' → Seen base V2 w3 A ((beh s x.2.1).flatMap ec) → Only TO V2 w3 → J (nxt s x.2.1) w3 → EnS base wb hb F T TO (J (nxt s x.2.1)) w x A (beh s x.2.1) d (o + 1) 0 w3) := Lib.hid fun w3 A c c' _ hs ho hj => by
    have hsz2 : V2.heap.size = V1.heap.size := by rw [hV2]; simp [World.setCell]
    have hnT : ∀ i, T i → ¬ TO i := fun i e e2 => by have := (h.low i e).1; have := H.low i e2; omega
    refine ⟨T, d, h2.only ho hnT, ?_, (((Only.of_below hb1 (Nat.le_refl _) T).trans ho2 fun i e => .inl e).mono (T := fun i => T i ∨ TO i) fun i e => .inl (.inl e)).trans ho fun i e => .inl (.inr e), fun i e => .inl e, Blk.only bx2 ho fun e => by have := H.low _ e; omega, hwn, hs.away fun i e => ⟨(h.low i e).1, by have := (h.low i e).2; omega⟩, hj⟩
    show d.toList.Perm (d.toList ++ [])
    rw [List.append_nil]
  have hfin : ∀ w', EnS base wb hb F T TO (J (nxt s x.2.1)) w x none [] d (o + 1) 0 w' → True := fun _ _ => trivial
  have HRD : Hid (∀ A k wr, EnS base wb hb F T TO (J (nxt s x.2.1)) w x A (beh s x.2.1) d (o + 1) k wr → ∀ (hk : k < (beh s x.2.1).length), Rnd base wb hb F T TO (J (nxt s x.2.1)) w x A (beh s x.2.1) d (o + 1) k hk wr) := Lib.hid fun A k wr hh hk => hh.round hk (H.keep _) (by omega)
  have HEND : Hid (∀ A wr, EnS base wb hb F T TO (J (nxt s x.2.1)) w x A (beh s x.2.1) d (o + 1) (beh s x.2.1).length wr → ∃ d', Left base wb hb F T TO w wr d' (o + 1) ∧ d'.toList.Perm (d.toList ++ lift x (beh s x.2.1)) ∧ J (nxt s x.2.1) wr) := Lib.hid fun A wr ⟨T', d', e1, e2, e3, e4, e5, e6, e7, e8⟩ =>
    ⟨d', ⟨T', e1, e3, e4⟩, by rw [List.take_length] at e2; exact e2, e8⟩
  have hm : (beh s x.2.1).length < 2305843009213693952 := by omega
  generalize beh s x.2.1 = row at HBE HEN HRD HEND hm ⊢
  have HV1 := Lib.hid hV1
  have HV2 := Lib.hid hV2
  rw [hV1] at c2 f2
  clear hbe hfin h h1 h2 hb1 hs1 bx bx2 hJ hJ2 hV1 hV2 ho2 hbs hlen hdl hwn hN hsz H
  go_enter Tryz.func142, Tryz.ntmps142
  go_wp2_with (fail)
  rw [← HV1.out, ← HV2.out]
  refine HBE.out.mono ?_
  rintro e w3 ⟨A, c, rfl, hs, ho, hj⟩
  have HE0 := Lib.hid (HEN.out w3 A c _ rfl hs ho hj)
  clear hs ho hj HEN HBE c1 c2 f2 HV1 HV2
  go_wp2_with (fail)
  go_loopg [18] row.length (fun gk s18 wr => ∃ k : Nat, gk = row.length - k ∧ s18 = .int .i64 k ∧ k ≤ row.length ∧ EnS base wb hb F T TO (J (nxt s x.2.1)) w x A row d (o + 1) k wr)
  case atStart => exact ⟨0, rfl, rfl, Nat.zero_le _, HE0.out⟩
  case round =>
    clear HE0
    obtain ⟨k, rfl, rfl, hk, hh⟩ := hrel
    rcases Nat.lt_or_ge k row.length with hlt | hge
    · obtain ⟨b, q, y, -, rfl, ⟨c0, c1, c2⟩, ⟨e0, ef, ex⟩, hV⟩ := HRD.out A k wr hh hlt
      obtain ⟨V, hVV⟩ : ∃ V, V = wr.alloc (.cells #[.int .i64 (max y.1 x.1), .int .i64 y.2.1, .int .u64 y.2.2] 130) := ⟨_, rfl⟩
      obtain ⟨hS, hC⟩ := hV V hVV
      have i1 : (k : Int) < (row.length : Int) := by omega
      have i2 : IntKind.i64.wrap ((k : Int) + 1) = ((k + 1 : Nat) : Int) := by rw [IntKind.wrap_i64]; omega
      have HS := Lib.hid hS
      have HC := Lib.hid hC
      have HVV := Lib.hid hVV
      clear hS hC hVV hV hh HRD HEND
      go_wp2_with (fail)
      rw [← HVV.out]
      obtain ⟨q0, q1, q2, q3⟩ := HS.out V (Below.refl _ _)
      clear HVV c0 c1 c2 e0 ef ex
      generalize max y.1 x.1 = m at HS HC q0 q1 q2 q3 ⊢
      obtain ⟨z, hz⟩ : ∃ z, z = wr.heap.size := ⟨_, rfl⟩
      rw [← hz] at HS HC q1 q2 q3 ⊢
      clear hz
      go_region_held3 (fun W => W.cell? ⟨wb, 1, none⟩ = some (.pointer (some ⟨hb, 0, none⟩)) ∧ W.cell? ⟨z, 0, none⟩ = some (.int .i64 m) ∧ W.cell? ⟨z, 1, none⟩ = some (.int .i64 y.2.1) ∧ W.cell? ⟨z, 2, none⟩ = some (.int .u64 y.2.2)) ((first | (with_reducible assumption) | (refine HS.out _ ?_; repeat' (first | (with_reducible exact Below.refl _ _) | (with_reducible assumption) | (with_reducible refine Below.drew ?_) | (with_reducible refine below_drewN' ?_ _)))))
        (first
          | (go_at_call 119; (with_reducible refine (HC.out _ (by repeat' (first | (with_reducible exact Below.refl _ _) | (with_reducible assumption) | (with_reducible refine Below.drew ?_) | (with_reducible refine below_drewN' ?_ _)))).mono ?_); rintro e w4 ⟨rfl, hn4, hs4⟩))
      clear q0 q1 q2 q3 hs4 HS HC
      go_wp2_with (fail)
      go_roundg (row.length - (k + 1))
      case measure => omega
      case rel => exact ⟨k + 1, rfl, by go_num, by omega, hn4⟩
    · obtain rfl : k = row.length := by omega
      have hE := HEND.out A wr hh
      have HE := Lib.hid hE
      clear hE hh HRD HEND
      go_wp2_with (fail)
      go_end0
      exact ⟨rfl, HE.out⟩
end
end Go.Proofs.YtpmjpolnoaigoaaGreat.fro
/-
  The contract of within: the next thing, if it isn't farther; of the nodes ahead of it, those are opened that stand first.
-/
namespace Go.Proofs.YtpmjpolnoaigoaaGreat.fro
open Go.RowKit law bytes only flat heapM Go.Sort Go.Shelf
set_option linter.unusedVariables false

section
variable {σ : Type} (F : Value) (base wb hb : Nat) (T TO : Nat → Prop) (J : σ → World → Prop) (beh : σ → Int → List Ent) (nxt : σ → Int → σ) (s : σ) (d : Array Ent) (o : Nat) (w : World)
/-- what within leaves: behind a run of opened nodes, the first thing is told and goes, or what is left is farther -/
def Within (r : Int) (e : Ending) (w' : World) : Prop := ∃ k s1 l1, Run beh nxt s d.toList k s1 l1 ∧ J s1 w' ∧
  ((∃ x rest, First x l1 ∧ nd x = false ∧ x.1 ≤ r ∧ l1.Perm (x :: rest) ∧ e = .returned (.tuple #[.agg #[.int .u64 x.2.2, .int .i64 x.1], .bool true]) ∧ ∃ d', d'.toList.Perm rest ∧ Left base wb hb F T TO w w' d' (o + k)) ∨
   ((∀ x ∈ l1, r < x.1) ∧ e = .returned (.tuple #[.agg #[.int .u64 0, .int .i64 0], .bool false]) ∧ ∃ d', d'.toList.Perm l1 ∧ Left base wb hb F T TO w w' d' (o + k)))
/-- within's memory ahead of a round -/
def WiS (k : Nat) (s1 : σ) (d1 : Array Ent) (wr : World) : Prop :=
  ∃ T', Wk wr base wb hb T' F d1 (o + k) ∧ Run beh nxt s d.toList k s1 d1.toList ∧ Only (fun i => T i ∨ TO i) w wr ∧ (∀ i, T' i → T i ∨ w.heap.size ≤ i) ∧ Blk wr w.heap.size 83 #[.int .u64 0, .int .i64 0] ∧ ¬ T' w.heap.size ∧ J s1 wr
/-- .. behind Pop -/
def PoS (c : Nat) (x : Ent) (k : Nat) (s1 : σ) (d1 : Array Ent) (wr : World) : Prop :=
  ∃ T' d2, Wk wr base wb hb T' F d2 (o + k) ∧ (x :: d2.toList).Perm d1.toList ∧ First x d1.toList ∧ Run beh nxt s d.toList k s1 d1.toList ∧ Only (fun i => T i ∨ TO i) w wr ∧ (∀ i, T' i → T i ∨ w.heap.size ≤ i) ∧ Blk wr w.heap.size 83 #[.int .u64 0, .int .i64 0] ∧ ¬ T' w.heap.size ∧ J s1 wr ∧
    Blk wr c 130 #[.int .i64 x.1, .int .i64 x.2.1, .int .u64 x.2.2]
end
section
variable {σ : Type} {F : Value} {base wb hb o k c : Nat} {T TO : Nat → Prop} {J : σ → World → Prop} {N : Int → Prop} {beh : σ → Int → List Ent} {nxt : σ → Int → σ} {wt : Int → Nat} {d d1 : Array Ent} {s s1 : σ} {w wr W : World} {x : Ent} {r : Int}
theorem WiS.below (H : Op F base TO J N beh nxt wt) (h : WiS F base wb hb T TO J beh nxt s d o w k s1 d1 wr) (hb' : Below wr.heap.size wr W) : WiS F base wb hb T TO J beh nxt s d o w k s1 d1 W := by
  obtain ⟨T', h1, h2, h3, h4, h5, h6, h7⟩ := h
  exact ⟨T', h1.below hb', h2, h3.on hb', h4, h5.below hb' h5.lt, h6, H.keep _ _ _ h7 (hb'.mono h1.base_le)⟩
theorem PoS.below (H : Op F base TO J N beh nxt wt) (h : PoS F base wb hb T TO J beh nxt s d o w c x k s1 d1 wr) (hb' : Below wr.heap.size wr W) : PoS F base wb hb T TO J beh nxt s d o w c x k s1 d1 W := by
  obtain ⟨T', d2, h1, h2, h3, h4, h5, h6, h7, h8, h9, h10⟩ := h
  exact ⟨T', d2, h1.below hb', h2, h3, h4, h5.on hb', h6, h7.below hb' h7.lt, h8, H.keep _ _ _ h9 (hb'.mono h1.base_le), h10.below hb' h10.lt⟩
/-- nothing left, or farther -/
theorem WiS.out_ (H : Op F base TO J N beh nxt wt) (hbw : base ≤ w.heap.size) (h : WiS F base wb hb T TO J beh nxt s d o w k s1 d1 wr) (hx : ∀ x ∈ d1.toList, r < x.1) :
    (wr.cell? ⟨w.heap.size, 0, none⟩ = some (.int .u64 0) ∧ wr.cell? ⟨w.heap.size, 1, none⟩ = some (.int .i64 0) ∧ wr.frozen? ⟨w.heap.size, 0, none⟩ = false ∧ wr.frozen? ⟨w.heap.size, 1, none⟩ = false) ∧
    ∀ V, V = (wr.setCell ⟨w.heap.size, 0, none⟩ (.int .u64 0)).setCell ⟨w.heap.size, 1, none⟩ (.int .i64 0) → (V.cell? ⟨w.heap.size, 0, none⟩ = some (.int .u64 0) ∧ V.cell? ⟨w.heap.size, 1, none⟩ = some (.int .i64 0)) ∧
      Within F base wb hb T TO J beh nxt s d o w r (.returned (.tuple #[.agg #[.int .u64 0, .int .i64 0], .bool false])) V := by
  obtain ⟨T', h1, h2, h3, h4, h5, h6, h7⟩ := h
  refine ⟨⟨h5.cell 0, h5.cell 1, h5.frozen 0, h5.frozen 1⟩, fun V hV => ?_⟩
  have b1 := (h5.set_ 0 (.int .u64 0)).set_ 1 (.int .i64 0)
  rw [← hV] at b1
  have hbs := h1.base_le
  have ho : Only (· = w.heap.size) wr V := by rw [hV]; exact Only.setCell (S := (· = w.heap.size)) (p := ⟨w.heap.size, 1, none⟩) (Only.setCell (S := (· = w.heap.size)) (p := ⟨w.heap.size, 0, none⟩) (Only.refl _ _) (.inl rfl) _) (.inl rfl) _
  refine ⟨⟨b1.cell 0, b1.cell 1⟩, k, s1, d1.toList, h2, H.keep _ _ _ h7 (ho.below (Nat.le_trans hbw h3.size) fun i e => by rw [e]; exact hbw), .inr ⟨hx, rfl, d1, List.Perm.refl _, T', h1.only ho fun i e e2 => h6 (e2 ▸ e), h3.trans ho fun i e => .inr (Nat.le_of_eq e.symm), h4⟩⟩
/-- Pop ahead of which the first one was copied into block c -/
theorem WiS.pop (H : Op F base TO J N beh nxt wt) (hbw : base ≤ w.heap.size) (h : WiS F base wb hb T TO J beh nxt s d o w k s1 d1 wr) (h0 : 0 < d1.size) (hsz : d1.size < 2305843009213693952) (hc : Blk wr c 130 #[.int .i64 d1[0]!.1, .int .i64 d1[0]!.2.1, .int .u64 d1[0]!.2.2]) (hcl : ∀ i T' , Wk wr base wb hb T' F d1 (o + k) → T' i → i ≠ c) :
    Calls Tryz.prog 140 #[.pointer (some ⟨hb, 0, none⟩)] wr fun e w' => e = .returned (.tuple #[tE d1[0]!, .bool true]) ∧ PoS F base wb hb T TO J beh nxt s d o w c d1[0]! k s1 d1 w' := by
  obtain ⟨T', h1, h2, h3, h4, h5, h6, h7⟩ := h
  refine (pop_wk h1 h0 hsz).mono ?_
  rintro e w' ⟨rfl, d2, ⟨T2, k1, k2, k3⟩, k4⟩
  have hoT : Only T' wr w' := k2.mono fun i e => e.elim .inl False.elim
  have hsw := h3.size
  refine ⟨rfl, T2, d2, k1, k4, first_top h1.heap h0, h2, h3.trans hoT fun i e => (h4 i e).imp .inl id, fun i e => ?_, Blk.only h5 hoT h6, fun e => ?_, H.keep _ _ _ h7 (hoT.below h1.base_le fun i e => (h1.low i e).1), Blk.only hc hoT fun e => hcl _ _ h1 e rfl⟩
  · rcases k3 i e with e2 | e2
    · exact h4 i e2
    · exact .inr (by omega)
  · rcases k3 _ e with e2 | e2
    · exact h6 e2
    · have := h5.lt; omega
/-- the first one is a thing -/
theorem PoS.thing (H : Op F base TO J N beh nxt wt) (hbw : base ≤ w.heap.size) (h : PoS F base wb hb T TO J beh nxt s d o w c x k s1 d1 wr) (hx : nd x = false) (hr : x.1 ≤ r) :
    (wr.cell? ⟨c, 0, none⟩ = some (.int .i64 x.1) ∧ wr.cell? ⟨c, 2, none⟩ = some (.int .u64 x.2.2)) ∧
    (wr.cell? ⟨w.heap.size, 0, none⟩ = some (.int .u64 0) ∧ wr.cell? ⟨w.heap.size, 1, none⟩ = some (.int .i64 0) ∧ wr.frozen? ⟨w.heap.size, 0, none⟩ = false ∧ wr.frozen? ⟨w.heap.size, 1, none⟩ = false) ∧
    ∀ V, V = (wr.setCell ⟨w.heap.size, 0, none⟩ (.int .u64 x.2.2)).setCell ⟨w.heap.size, 1, none⟩ (.int .i64 x.1) → (V.cell? ⟨w.heap.size, 0, none⟩ = some (.int .u64 x.2.2) ∧ V.cell? ⟨w.heap.size, 1, none⟩ = some (.int .i64 x.1)) ∧
      Within F base wb hb T TO J beh nxt s d o w r (.returned (.tuple #[.agg #[.int .u64 x.2.2, .int .i64 x.1], .bool true])) V := by
  obtain ⟨T', d2, h1, hp, hf, h2, h3, h4, h5, h6, h7, h8⟩ := h
  refine ⟨⟨h8.cell 0, h8.cell 2⟩, ⟨h5.cell 0, h5.cell 1, h5.frozen 0, h5.frozen 1⟩, fun V hV => ?_⟩
  have b1 := (h5.set_ 0 (.int .u64 x.2.2)).set_ 1 (.int .i64 x.1)
  rw [← hV] at b1
  have ho : Only (· = w.heap.size) wr V := by rw [hV]; exact Only.setCell (S := (· = w.heap.size)) (p := ⟨w.heap.size, 1, none⟩) (Only.setCell (S := (· = w.heap.size)) (p := ⟨w.heap.size, 0, none⟩) (Only.refl _ _) (.inl rfl) _) (.inl rfl) _
  exact ⟨⟨b1.cell 0, b1.cell 1⟩, k, s1, d1.toList, h2, H.keep _ _ _ h7 (ho.below (Nat.le_trans hbw h3.size) fun i e => by rw [e]; exact hbw), .inl ⟨x, d2.toList, hf, hx, hr, hp.symm, rfl, d2, List.Perm.refl _, T', h1.only ho fun i e e2 => h6 (e2 ▸ e), h3.trans ho fun i e => .inr (Nat.le_of_eq e.symm), h4⟩⟩
/-- .. a node, which is entered -/
theorem PoS.node (H : Op F base TO J N beh nxt wt) (hbw : base ≤ w.heap.size) (h : PoS F base wb hb T TO J beh nxt s d o w c x k s1 d1 wr) (hx : nd x = true) (h0 : Nds N d.toList) (hsz : wsum wt d.toList + o ≤ 1099511627776) :
    Calls Tryz.prog 142 #[.pointer (some ⟨wb, 0, none⟩), tE x] wr fun e w' => e = .returned (.tuple #[]) ∧ ∃ d3, WiS F base wb hb T TO J beh nxt s d o w (k + 1) (nxt s1 x.2.1) d3 w' ∧ wsum wt d3.toList < wsum wt d1.toList := by
  obtain ⟨T', d2, h1, hp, hf, h2, h3, h4, h5, h6, h7, h8⟩ := h
  obtain ⟨k1, k2⟩ := h2.keeps H.next H.less h0
  have hN : N x.2.1 := k1 x (hp.subset (List.mem_cons_self ..)) (by simpa [nd] using hx)
  have hw := wsum_perm (wt := wt) hp
  rw [wsum_cons] at hw
  have hl := H.less s1 _ hN
  refine (enter_any H h1 h7 x (by simpa [nd] using hx) hN (by omega)).mono ?_
  rintro e w' ⟨rfl, d3, ⟨T2, j1, j2, j3⟩, j4, j5⟩
  have hnO : ¬ (T' w.heap.size ∨ TO w.heap.size) := fun e => e.elim h6 fun e => by have := H.low _ e; omega
  refine ⟨rfl, d3, ⟨T2, j1, h2.step hf hx hp.symm j4, h3.trans j2 fun i e => ?_, fun i e => ?_, Blk.only h5 j2 hnO, fun e => ?_, j5⟩, ?_⟩
  · rcases e with e | e
    · exact (h4 i e).imp .inl id
    · exact .inl (.inr e)
  · rcases j3 i e with e2 | e2
    · exact h4 i e2
    · exact .inr (Nat.le_trans h3.size e2)
  · rcases j3 _ e with e2 | e2
    · exact h6 e2
    · have := h5.lt; omega
  · have := wsum_perm (wt := wt) j4
    rw [wsum_append, wsum_lift] at this
    omega
theorem Within.below (H : Op F base TO J N beh nxt wt) (hbw : base ≤ w.heap.size) {e : Ending} (h : Within F base wb hb T TO J beh nxt s d o w r e wr) (hb' : Below wr.heap.size wr W) (hw : w.heap.size ≤ wr.heap.size) : Within F base wb hb T TO J beh nxt s d o w r e W := by
  obtain ⟨k, s1, l1, h1, h2, h3⟩ := h
  refine ⟨k, s1, l1, h1, H.keep _ _ _ h2 (hb'.mono (Nat.le_trans hbw hw)), ?_⟩
  rcases h3 with ⟨x, rest, a1, a2, a3, a4, a5, d', a6, a7⟩ | ⟨a1, a2, d', a6, a7⟩
  · exact .inl ⟨x, rest, a1, a2, a3, a4, a5, d', a6, a7.on hb'⟩
  · exact .inr ⟨a1, a2, d', a6, a7.on hb'⟩
theorem topT_none (h : d.size = 0) : topT d = ((0, 0, 0), false) := if_pos h
theorem topT_some (h : ¬ d.size = 0) : topT d = (d[0]!, true) := if_neg h
theorem WiS.first (H : Op F base TO J N beh nxt wt) (h : WiS F base wb hb T TO J beh nxt s d o w k s1 d1 wr) : Calls Tryz.prog 139 #[.pointer (some ⟨wb, 0, none⟩)] wr fun e w' => e = .returned (.tuple #[tE (topT d1).1, .bool (topT d1).2]) ∧ WiS F base wb hb T TO J beh nxt s d o w k s1 d1 w' := by
  obtain ⟨T', h1, h2⟩ := id h
  exact (first_any h1).mono fun e w' ⟨he, hb'⟩ => ⟨he, h.below H hb'⟩
set_option maxRecDepth 100000 in
set_option maxHeartbeats 3200000 in
theorem within_any (H : Op F base TO J N beh nxt wt) (h : Wk w base wb hb T F d o) (hJ : J s w) (h0 : Nds N d.toList) (hsz : wsum wt d.toList + o ≤ 1099511627776) (r : Int) :
    Calls Tryz.prog 95 #[.pointer (some ⟨wb, 0, none⟩), .int .i64 r] w fun e w' => Within F base wb hb T TO J beh nxt s d o w r e w' := by
  have hbw := h.base_le
  have hB0 : Below w.heap.size w (w.alloc (.cells #[.int .u64 0, .int .i64 0] 83)) := (Below.refl _ _).alloc (Nat.le_refl _) _
  have HST : Hid (WiS F base wb hb T TO J beh nxt s d o w 0 s d (w.alloc (.cells #[.int .u64 0, .int .i64 0] 83))) := Lib.hid ⟨T, h.below hB0, .refl _ _, Only.of_below hB0 (Nat.le_refl _) _, fun i e => .inl e, Blk.new _ _ _, fun e => by have := (h.low _ e).2; omega, H.keep _ _ _ hJ (hB0.mono hbw)⟩
  obtain ⟨P, hP⟩ : ∃ P : Ending → World → Prop, P = fun e w' => Within F base wb hb T TO J beh nxt s d o w r e w' := ⟨_, rfl⟩
  rw [show (fun e w' => Within F base wb hb T TO J beh nxt s d o w r e w') = P from hP.symm]
  obtain ⟨M, hM⟩ : ∃ M : Nat → σ → Array Ent → World → Prop, M = fun k s1 d1 wr => WiS F base wb hb T TO J beh nxt s d o w k s1 d1 wr := ⟨_, rfl⟩
  obtain ⟨PM, hPM⟩ : ∃ PM : Nat → Ent → Nat → σ → Array Ent → World → Prop, PM = fun c x k s1 d1 wr => PoS F base wb hb T TO J beh nxt s d o w c x k s1 d1 wr := ⟨_, rfl⟩
  have HMS : Hid (M 0 s d (w.alloc (.cells #[.int .u64 0, .int .i64 0] 83))) := Lib.hid (by rw [hM]; exact HST.out)
  have HMF : Hid (∀ k s1 d1 wr, M k s1 d1 wr → Calls Tryz.prog 139 #[.pointer (some ⟨wb, 0, none⟩)] wr fun e w' => e = .returned (.tuple #[tE (topT d1).1, .bool (topT d1).2]) ∧ M k s1 d1 w') := Lib.hid fun k s1 d1 wr hh => by rw [hM] at hh ⊢; exact WiS.first H hh
  have HW : Hid (∀ k s1 d1 wr, M k s1 d1 wr → wr.frozen? ⟨w.heap.size, 0, none⟩ = false ∧ wr.frozen? ⟨w.heap.size, 1, none⟩ = false ∧ wr.cell? ⟨w.heap.size, 0, none⟩ = some (.int .u64 0) ∧ wr.cell? ⟨w.heap.size, 1, none⟩ = some (.int .i64 0)) := Lib.hid fun k s1 d1 wr hh => by
    rw [hM] at hh
    obtain ⟨T', h1, h2, h3, h4, h5, h6, h7⟩ := hh
    exact ⟨h5.frozen 0, h5.frozen 1, h5.cell 0, h5.cell 1⟩
  have HMB : Hid (∀ k s1 d1 wr W, M k s1 d1 wr → Below wr.heap.size wr W → M k s1 d1 W) := Lib.hid fun k s1 d1 wr W hh hb => by rw [hM] at hh ⊢; exact hh.below H hb
  have HMO : Hid (∀ k s1 d1 wr, M k s1 d1 wr → (∀ x ∈ d1.toList, r < x.1) → ∀ V, V = (wr.setCell ⟨w.heap.size, 0, none⟩ (.int .u64 0)).setCell ⟨w.heap.size, 1, none⟩ (.int .i64 0) → (V.cell? ⟨w.heap.size, 0, none⟩ = some (.int .u64 0) ∧ V.cell? ⟨w.heap.size, 1, none⟩ = some (.int .i64 0)) ∧ P (.returned (.tuple #[.agg #[.int .u64 0, .int .i64 0], .bool false])) V) := Lib.hid fun k s1 d1 wr hh hx V hV => by
    rw [hM] at hh; rw [hP]
    exact (hh.out_ H hbw hx).2 V hV
  have HMP : Hid (∀ k s1 d1 wr c, M k s1 d1 wr → d1.size ≠ 0 → Blk wr c 130 #[.int .i64 d1[0]!.1, .int .i64 d1[0]!.2.1, .int .u64 d1[0]!.2.2] → (∀ i T', Wk wr base wb hb T' F d1 (o + k) → T' i → i ≠ c) → Calls Tryz.prog 140 #[.pointer (some ⟨hb, 0, none⟩)] wr fun e w' => e = .returned (.tuple #[tE d1[0]!, .bool true]) ∧ PM c d1[0]! k s1 d1 w') := Lib.hid fun k s1 d1 wr c hh h1 hc hl => by
    rw [hM] at hh; rw [hPM]
    obtain ⟨T', j1, j2, -⟩ := id hh
    obtain ⟨-, k2⟩ := j2.keeps H.next H.less h0
    have := wsum_len H.pos d1.toList
    have e : d1.toList.length = d1.size := by simp
    exact hh.pop H hbw (by omega) (by omega) hc hl
  have HPC : Hid (∀ c x k s1 d1 wr, PM c x k s1 d1 wr → wr.cell? ⟨c, 0, none⟩ = some (.int .i64 x.1) ∧ wr.cell? ⟨c, 1, none⟩ = some (.int .i64 x.2.1) ∧ wr.cell? ⟨c, 2, none⟩ = some (.int .u64 x.2.2) ∧ wr.frozen? ⟨w.heap.size, 0, none⟩ = false ∧ wr.frozen? ⟨w.heap.size, 1, none⟩ = false ∧ wr.cell? ⟨w.heap.size, 0, none⟩ = some (.int .u64 0) ∧ wr.cell? ⟨w.heap.size, 1, none⟩ = some (.int .i64 0)) := Lib.hid fun c x k s1 d1 wr hh => by
    rw [hPM] at hh
    obtain ⟨T', d2, h1, hp, hf, h2, h3, h4, h5, h6, h7, h8⟩ := hh
    exact ⟨h8.cell 0, h8.cell 1, h8.cell 2, h5.frozen 0, h5.frozen 1, h5.cell 0, h5.cell 1⟩
  have HPI : Hid (∀ c x k s1 d1 wr, PM c x k s1 d1 wr → Calls Tryz.prog 141 #[tE x] wr fun e w' => e = .returned (.bool (nd x)) ∧ PM c x k s1 d1 w') := Lib.hid fun c x k s1 d1 wr hh => by
    rw [hPM] at hh ⊢
    exact (isNode_any x wr).mono fun e w' ⟨he, hb'⟩ => ⟨he, hh.below H hb'⟩
  have HPT : Hid (∀ c x k s1 d1 wr, PM c x k s1 d1 wr → nd x = false → x.1 ≤ r → ∀ V, V = (wr.setCell ⟨w.heap.size, 0, none⟩ (.int .u64 x.2.2)).setCell ⟨w.heap.size, 1, none⟩ (.int .i64 x.1) → (V.cell? ⟨w.heap.size, 0, none⟩ = some (.int .u64 x.2.2) ∧ V.cell? ⟨w.heap.size, 1, none⟩ = some (.int .i64 x.1)) ∧ P (.returned (.tuple #[.agg #[.int .u64 x.2.2, .int .i64 x.1], .bool true])) V) := Lib.hid fun c x k s1 d1 wr hh hx hr V hV => by
    rw [hPM] at hh; rw [hP]
    exact (hh.thing H hbw hx hr).2.2 V hV
  have HPN : Hid (∀ c x k s1 d1 wr, PM c x k s1 d1 wr → nd x = true → Calls Tryz.prog 142 #[.pointer (some ⟨wb, 0, none⟩), tE x] wr fun e w' => e = .returned (.tuple #[]) ∧ ∃ d3, M (k + 1) (nxt s1 x.2.1) d3 w' ∧ wsum wt d3.toList < wsum wt d1.toList) := Lib.hid fun c x k s1 d1 wr hh hx => by
    rw [hPM] at hh; rw [hM]
    exact hh.node H hbw hx h0 hsz
  have HMH : Hid (∀ k s1 d1 wr, M k s1 d1 wr → wr.cell? ⟨wb, 1, none⟩ = some (.pointer (some ⟨hb, 0, none⟩)) ∧ ∀ i T', Wk (wr.alloc (.cells #[.int .i64 d1[0]!.1, .int .i64 d1[0]!.2.1, .int .u64 d1[0]!.2.2] 130)) base wb hb T' F d1 (o + k) → T' i → i ≠ wr.heap.size) := Lib.hid fun k s1 d1 wr hh => by
    rw [hM] at hh
    obtain ⟨T', h1, h2⟩ := hh
    refine ⟨h1.blk.cell 1, fun i T2 h3 hi e => ?_⟩
    obtain ⟨v, g1, g2, g3, g4, g5, g6, g7, g8⟩ := h1
    obtain ⟨v', j1, j2, j3, j4, j5, j6, j7, j8⟩ := h3
    have c1 : (wr.alloc (.cells #[.int .i64 d1[0]!.1, .int .i64 d1[0]!.2.1, .int .u64 d1[0]!.2.2] 130)).cell? ⟨hb, 1, none⟩ = some v := (g2.1.alloc _).cell 1
    have c2 : (wr.alloc (.cells #[.int .i64 d1[0]!.1, .int .i64 d1[0]!.2.1, .int .u64 d1[0]!.2.2] 130)).cell? ⟨hb, 1, none⟩ = some v' := j2.1.cell 1
    have ev : v = v' := Option.some.inj (c1.symm.trans c2)
    subst ev
    rcases (j8 i).1 hi with e2 | e2 | e2
    · have := g1.lt; omega
    · have := g2.lt; omega
    · have := (own_lt g2.2.1 e2).2; omega
  have HML : Hid (∀ k s1 d1 wr, M k s1 d1 wr → d1.size ≠ 0 → ∀ y ∈ d1.toList, d1[0]!.1 ≤ y.1) := Lib.hid fun k s1 d1 wr hh h1 => by
    rw [hM] at hh
    obtain ⟨T', j1, -⟩ := hh
    exact (first_top j1.heap (by omega)).low
  clear hM hPM HST hB0 hbw h hJ h0 hsz H hP
  go_enter Tryz.func95, Tryz.ntmps95
  go_wp2_with (fail)
  go_loopg [7] (wsum wt d.toList) (fun gk s7 wr => ∃ k s1 d1, gk = wsum wt d1.toList ∧ M k s1 d1 wr)
  case atStart => exact ⟨0, s, d, rfl, HMS.out⟩
  case round =>
    obtain ⟨k, s1, d1, rfl, hm⟩ := hrel
    clear HMS
    by_cases hd : d1.size = 0
    · have HF := Lib.hid (HMF.out k s1 d1 wr hm)
      rw [topT_none hd] at HF
      unfold tE at HF
      have HX : Hid (∀ x ∈ d1.toList, r < x.1) := Lib.hid fun x hx => by
        rw [show d1 = #[] from Array.eq_empty_of_size_eq_zero hd] at hx
        simp at hx
      clear hm HMF HMP HPC HPI HPT HPN HMH
      go_wp2_with (fail)
      refine HF.out.mono ?_
      rintro e w2 ⟨rfl, hm⟩
      have hm3 := HMB.out _ _ _ _ (w2.alloc (.cells #[.int .i64 0, .int .i64 0, .int .u64 0] 130)) hm ((Below.refl _ _).alloc (Nat.le_refl _) _)
      obtain ⟨f0, f1, c0, c1⟩ := HW.out _ _ _ _ hm3
      have HM2 := Lib.hid (HMO.out _ _ _ _ hm3 HX.out _ rfl)
      clear hm hm3 HMO HMB HW HF HX
      go_wp2_with (fail)
      obtain ⟨V, hV⟩ : ∃ V, V = ((w2.alloc (.cells #[.int .i64 0, .int .i64 0, .int .u64 0] 130)).setCell ⟨w.heap.size, 0, none⟩ (.int .u64 0)).setCell ⟨w.heap.size, 1, none⟩ (.int .i64 0) := ⟨_, rfl⟩
      rw [← hV] at HM2 ⊢
      clear hV
      obtain ⟨⟨z0, z1⟩, hp⟩ := HM2.out
      refine bodyPost_ret (v := .tuple #[.agg #[.int .u64 0, .int .i64 0], .bool false]) (by simp [results, Tryz.results95, go_sem, z0, z1]) rfl ?_
      exact hp
    · by_cases hr : r < d1[0]!.1
      · have HF := Lib.hid (HMF.out k s1 d1 wr hm)
        rw [topT_some hd] at HF
        unfold tE at HF
        have hl := HML.out _ _ _ _ hm hd
        have HX : Hid (∀ x ∈ d1.toList, r < x.1) := Lib.hid fun x hx => by have := hl x hx; omega
        have t1 : decide (r < d1[0]!.1) = true := decide_eq_true hr
        clear hm hl HML HMF HMP HPC HPI HPT HPN HMH
        generalize d1[0]! = x at *
        go_wp2_with (fail)
        refine HF.out.mono ?_
        rintro e w2 ⟨rfl, hm⟩
        have hm3 := HMB.out _ _ _ _ (w2.alloc (.cells #[.int .i64 x.1, .int .i64 x.2.1, .int .u64 x.2.2] 130)) hm ((Below.refl _ _).alloc (Nat.le_refl _) _)
        obtain ⟨f0, f1, c0, c1⟩ := HW.out _ _ _ _ hm3
        have HM2 := Lib.hid (HMO.out _ _ _ _ hm3 HX.out _ rfl)
        clear hm hm3 HMO HMB HW HF HX
        go_wp2_with (fail)
        obtain ⟨V, hV⟩ : ∃ V, V = ((w2.alloc (.cells #[.int .i64 x.1, .int .i64 x.2.1, .int .u64 x.2.2] 130)).setCell ⟨w.heap.size, 0, none⟩ (.int .u64 0)).setCell ⟨w.heap.size, 1, none⟩ (.int .i64 0) := ⟨_, rfl⟩
        rw [← hV] at HM2 ⊢
        clear hV
        obtain ⟨⟨z0, z1⟩, hp⟩ := HM2.out
        refine bodyPost_ret (v := .tuple #[.agg #[.int .u64 0, .int .i64 0], .bool false]) (by simp [results, Tryz.results95, go_sem, z0, z1]) rfl ?_
        exact hp
      · have HF := Lib.hid (HMF.out k s1 d1 wr hm)
        rw [topT_some hd] at HF
        unfold tE at HF
        have t1 : decide (r < d1[0]!.1) = false := decide_eq_false hr
        have hrle : d1[0]!.1 ≤ r := by omega
        have HPP : Hid (∀ w2, M k s1 d1 w2 → (w2.alloc (.cells #[.int .i64 d1[0]!.1, .int .i64 d1[0]!.2.1, .int .u64 d1[0]!.2.2] 130)).cell? ⟨wb, 1, none⟩ = some (.pointer (some ⟨hb, 0, none⟩)) ∧
            Calls Tryz.prog 140 #[.pointer (some ⟨hb, 0, none⟩)] (w2.alloc (.cells #[.int .i64 d1[0]!.1, .int .i64 d1[0]!.2.1, .int .u64 d1[0]!.2.2] 130)) fun e w' => e = .returned (.tuple #[tE d1[0]!, .bool true]) ∧ PM w2.heap.size d1[0]! k s1 d1 w') := Lib.hid fun w2 hm => by
          have hm3 := HMB.out _ _ _ _ (w2.alloc (.cells #[.int .i64 d1[0]!.1, .int .i64 d1[0]!.2.1, .int .u64 d1[0]!.2.2] 130)) hm ((Below.refl _ _).alloc (Nat.le_refl _) _)
          exact ⟨(HMH.out _ _ _ _ hm3).1, HMP.out _ _ _ _ _ hm3 hd (Blk.new w2 _ _) (HMH.out _ _ _ _ hm).2⟩
        have HR := Lib.hid hrle
        clear hm HML HMF HMP HMH HMO HMB HW hrle
        generalize d1[0]! = x at *
        go_wp2_with (fail)
        refine HF.out.mono ?_
        rintro e w2 ⟨rfl, hm⟩
        obtain ⟨g1, hpp⟩ := HPP.out w2 hm
        have HP2 := Lib.hid hpp
        clear hm HPP HF hpp
        go_wp2_with (fail)
        refine HP2.out.mono ?_
        rintro e w3 ⟨rfl, hm⟩
        obtain ⟨c0, c1, c2, -⟩ := HPC.out _ _ _ _ _ _ hm
        have hpi := HPI.out _ _ _ _ _ _ hm
        unfold tE at hpi
        have HI := Lib.hid hpi
        clear hm HP2 hpi g1 HPI
        generalize w2.heap.size = z at *
        cases hx : nd x with
        | false =>
          rw [hx] at HI
          go_wp2_with (fail)
          refine HI.out.mono ?_
          rintro e w4 ⟨rfl, hm⟩
          obtain ⟨c0', c1', c2', f0, f1, b0, b1⟩ := HPC.out _ _ _ _ _ _ hm
          have HM2 := Lib.hid (HPT.out _ _ _ _ _ _ hm hx HR.out _ rfl)
          clear hm HPC HPT HPN HI c0 c1 c2 hx
          go_wp2_with (fail)
          obtain ⟨V, hV⟩ : ∃ V, V = (w4.setCell ⟨w.heap.size, 0, none⟩ (.int .u64 x.2.2)).setCell ⟨w.heap.size, 1, none⟩ (.int .i64 x.1) := ⟨_, rfl⟩
          rw [← hV] at HM2 ⊢
          clear hV
          obtain ⟨⟨z0, z1⟩, hp⟩ := HM2.out
          refine bodyPost_ret (v := .tuple #[.agg #[.int .u64 x.2.2, .int .i64 x.1], .bool true]) (by simp [results, Tryz.results95, go_sem, z0, z1]) rfl ?_
          exact hp
        | true =>
          rw [hx] at HI
          go_wp2_with (fail)
          refine HI.out.mono ?_
          rintro e w4 ⟨rfl, hm⟩
          obtain ⟨c0', c1', c2', -⟩ := HPC.out _ _ _ _ _ _ hm
          have hpn := HPN.out _ _ _ _ _ _ hm hx
          unfold tE at hpn
          have HN := Lib.hid hpn
          clear hm HPC HPT HPN HI c0 c1 c2 hx hpn
          go_wp2_with (fail)
          refine HN.out.mono ?_
          rintro e w5 ⟨rfl, d3, hm3, hlt⟩
          have HM3 := Lib.hid hm3
          clear hm3 HN c0' c1' c2'
          go_wp2_with (fail)
          go_roundg (wsum wt d3.toList)
          case measure => exact hlt
          case rel => exact ⟨k + 1, _, d3, rfl, HM3.out⟩
end
end Go.Proofs.YtpmjpolnoaigoaaGreat.fro
/-
  The contracts of Next, Low, Opened of a walk.
-/
namespace Go.Proofs.YtpmjpolnoaigoaaGreat.fro
open Go.RowKit law bytes only flat heapM Go.Sort Go.Shelf
set_option linter.unusedVariables false

/-- the greatest int -/
def maxI : Int := 9223372036854775807
section
variable {σ : Type} {F : Value} {base wb hb o k c : Nat} {T TO : Nat → Prop} {J : σ → World → Prop} {N : Int → Prop} {beh : σ → Int → List Ent} {nxt : σ → Int → σ} {wt : Int → Nat} {d d1 : Array Ent} {s s1 : σ} {w wr W : World} {x : Ent} {r : Int}
theorem Within.size {e : Ending} (h : Within F base wb hb T TO J beh nxt s d o w r e wr) : w.heap.size ≤ wr.heap.size := by
  obtain ⟨k, s1, l1, h1, h2, h3⟩ := h
  rcases h3 with ⟨x, rest, a1, a2, a3, a4, a5, d', a6, T', a7, a8, a9⟩ | ⟨a1, a2, d', a6, T', a7, a8, a9⟩
  · exact a8.size
  · exact a8.size
theorem Within.val {e : Ending} (h : Within F base wb hb T TO J beh nxt s d o w r e wr) : ∃ i q t, e = .returned (.tuple #[.agg #[.int .u64 i, .int .i64 q], .bool t]) := by
  obtain ⟨k, s1, l1, h1, h2, h3⟩ := h
  rcases h3 with ⟨x, rest, a1, a2, a3, a4, a5, a6⟩ | ⟨a1, a2, a6⟩
  · exact ⟨_, _, _, a5⟩
  · exact ⟨_, _, _, a2⟩
theorem Left.put {d' : Array Ent} {o' : Nat} {V V2 : World} (hT : ∀ i, T i → i < w.heap.size) (hV : Below w.heap.size w V) (hz : w.heap.size < V.heap.size) (h : Left base wb hb F T TO V wr d' o') (ho : Only (· = w.heap.size) wr V2) : Left base wb hb F T TO w V2 d' o' := by
  obtain ⟨T', h1, h2, h3⟩ := h
  refine ⟨T', h1.only ho fun i e e2 => ?_, ((Only.of_below hV (Nat.le_refl _) (fun i => T i ∨ TO i)).trans h2 fun i e => .inl e).trans ho fun i e => .inr (Nat.le_of_eq e.symm), fun i e => (h3 i e).imp id fun e => Nat.le_trans hV.size e⟩
  rcases h3 i e with e3 | e3
  · have := hT i e3; omega
  · omega
/-- a walk asked by a call that lays its result in a new block -/
theorem Within.put (H : Op F base TO J N beh nxt wt) (hbw : base ≤ w.heap.size) (hT : ∀ i, T i → i < w.heap.size) {e : Ending} {V V2 : World} (hV : Below w.heap.size w V) (hz : w.heap.size < V.heap.size) (h : Within F base wb hb T TO J beh nxt s d o V r e wr) (ho : Only (· = w.heap.size) wr V2) : Within F base wb hb T TO J beh nxt s d o w r e V2 := by
  have hsz := h.size
  obtain ⟨k, s1, l1, h1, h2, h3⟩ := h
  refine ⟨k, s1, l1, h1, H.keep _ _ _ h2 (ho.below (by omega) fun i e => by rw [e]; exact hbw), ?_⟩
  rcases h3 with ⟨x, rest, a1, a2, a3, a4, a5, d', a6, a7⟩ | ⟨a1, a2, d', a6, a7⟩
  · exact .inl ⟨x, rest, a1, a2, a3, a4, a5, d', a6, a7.put hT hV hz ho⟩
  · exact .inr ⟨a1, a2, d', a6, a7.put hT hV hz ho⟩
theorem Within.blk (H : Op F base TO J N beh nxt wt) {e : Ending} {g : Nat} {t : TypeId} {cs : Array Value} (h : Within F base wb hb T TO J beh nxt s d o w r e wr) (hg : Blk w g t cs) (h1 : ¬ T g) (h2 : base ≤ g) : Blk wr g t cs := by
  have hn : ¬ (T g ∨ TO g) := fun e => e.elim h1 fun e => by have := H.low _ e; omega
  obtain ⟨k, s1, l1, -, -, h3⟩ := h
  rcases h3 with ⟨x, rest, a1, a2, a3, a4, a5, d', a6, T', a7, a8, a9⟩ | ⟨a1, a2, d', a6, T', a7, a8, a9⟩
  · exact Blk.only hg a8 hn
  · exact Blk.only hg a8 hn
set_option maxRecDepth 100000 in
set_option maxHeartbeats 1600000 in
theorem next_any (H : Op F base TO J N beh nxt wt) (h : Wk w base wb hb T F d o) (hJ : J s w) (h0 : Nds N d.toList) (hsz : wsum wt d.toList + o ≤ 1099511627776) :
    Calls Tryz.prog 39 #[.pointer (some ⟨wb, 0, none⟩)] w fun e w' => Within F base wb hb T TO J beh nxt s d o w maxI e w' := by
  have hbw := h.base_le
  have hT := fun i e => (h.low i e).2
  obtain ⟨V, hV⟩ : ∃ V, V = w.alloc (.cells #[.int .u64 0, .int .i64 0] 83) := ⟨_, rfl⟩
  have hB : Below w.heap.size w V := by rw [hV]; exact (Below.refl _ _).alloc (Nat.le_refl _) _
  have hz : w.heap.size < V.heap.size := by rw [hV]; simp
  have b0 : Blk V w.heap.size 83 #[.int .u64 0, .int .i64 0] := by rw [hV]; exact Blk.new w _ _
  have HW := Lib.hid (within_any H (h.below hB) (H.keep _ _ _ hJ (hB.mono hbw)) h0 hsz maxI)
  obtain ⟨P, hP⟩ : ∃ P : Ending → World → Prop, P = fun e w' => Within F base wb hb T TO J beh nxt s d o w maxI e w' := ⟨_, rfl⟩
  rw [show (fun e w' => Within F base wb hb T TO J beh nxt s d o w maxI e w') = P from hP.symm]
  have HE : Hid (∀ e w1, Within F base wb hb T TO J beh nxt s d o V maxI e w1 → (∃ i q t, e = .returned (.tuple #[.agg #[.int .u64 i, .int .i64 q], .bool t])) ∧ Blk w1 w.heap.size 83 #[.int .u64 0, .int .i64 0] ∧ ∀ V2, Only (· = w.heap.size) w1 V2 → P e V2) := Lib.hid fun e w1 hh =>
    ⟨hh.val, hh.blk H b0 (fun e => by have := hT _ e; omega) hbw, fun V2 ho => by rw [hP]; exact hh.put H hbw hT hB hz ho⟩
  have HV := Lib.hid hV
  have em : maxI = 9223372036854775807 := rfl
  generalize maxI = mx at HW HE em
  clear hP hB hz b0 hV h hJ h0 hsz hbw hT
  subst em
  go_enter Tryz.func39, Tryz.ntmps39
  go_wp2_with (fail)
  rw [← HV.out]
  refine HW.out.mono ?_
  intro e w1 hh
  obtain ⟨⟨i, q, t, rfl⟩, b1, hE⟩ := HE.out _ _ hh
  have c0 := b1.cell 0
  have c1 := b1.cell 1
  have f0 := b1.frozen 0
  have f1 := b1.frozen 1
  simp only [List.getElem?_toArray, List.getElem?_cons_succ, List.getElem?_cons_zero] at c0 c1
  have b2 := (b1.set_ 0 (.int .u64 i)).set_ 1 (.int .i64 q)
  have HP2 := Lib.hid (hE ((w1.setCell ⟨w.heap.size, 0, none⟩ (.int .u64 i)).setCell ⟨w.heap.size, 1, none⟩ (.int .i64 q)) (Only.setCell (S := (· = w.heap.size)) (p := ⟨w.heap.size, 1, none⟩) (Only.setCell (S := (· = w.heap.size)) (p := ⟨w.heap.size, 0, none⟩) (Only.refl _ _) (.inl rfl) _) (.inl rfl) _))
  have HB2 := Lib.hid b2
  clear hh b1 b2 hE HE HW HV
  go_wp2_with (fail)
  obtain ⟨V2, hV2⟩ : ∃ V2, V2 = (w1.setCell ⟨w.heap.size, 0, none⟩ (.int .u64 i)).setCell ⟨w.heap.size, 1, none⟩ (.int .i64 q) := ⟨_, rfl⟩
  rw [← hV2] at HP2 HB2 ⊢
  clear hV2
  have z0 := HB2.out.cell 0
  have z1 := HB2.out.cell 1
  simp at z0 z1
  refine bodyPost_ret (v := .tuple #[.agg #[.int .u64 i, .int .i64 q], .bool t]) (by simp [results, Tryz.results39, go_sem, z0, z1]) rfl ?_
  exact HP2.out
/-- how near the next thing may be -/
def lowT (d : Array Ent) : Int := if d.size = 0 then 1125899906842624 else d[0]!.1
end
end Go.Proofs.YtpmjpolnoaigoaaGreat.fro
/-
  The contract of Take.
-/
namespace Go.Proofs.YtpmjpolnoaigoaaGreat.fro
open Go.RowKit law bytes only flat heapM Go.Sort Go.Shelf
set_option linter.unusedVariables false

theorem hiE : ElemK Tryz.prog 83 2 16 := elemK_mk (z := .agg #[.int .u64 0, .int .i64 0]) (by kernel_rfl) rfl
theorem hi_one (a b : Int) : ∀ u ∈ [Value.int .u64 a, Value.int .i64 b], u.oneCell' = true := by simp [Value.oneCell']
section
variable {σ : Type} (F : Value) (base wb hb : Nat) (T TO : Nat → Prop) (J : σ → World → Prop) (beh : σ → Int → List Ent) (nxt : σ → Int → σ) (s : σ) (d : Array Ent) (o : Nat) (w : World)
/-- a walk behind so many told things, with a row v of the call's own that holds vs -/
def TaS (t : List (Int × Int)) (v : Value) (vs : List (Int × Int)) (k : Nat) (s1 : σ) (d1 : Array Ent) (wr : World) : Prop :=
  ∃ T', Wk wr base wb hb T' F d1 (o + k) ∧ Told beh nxt s d.toList t k s1 d1.toList ∧ Only (fun i => T i ∨ TO i) w wr ∧ (∀ i, T' i → T i ∨ w.heap.size ≤ i) ∧ J s1 wr ∧
    wr.ownsRow w.heap.size 83 2 v vs.length (hit.hv vs) ∧ ∀ g, v.ownBlock = some g → ¬ T' g
/-- what Take leaves: what is told, in a row of the call's own; fewer than asked: nothing is left -/
def Takes (n : Int) (e : Ending) (w' : World) : Prop := ∃ t k s1 l1 j s2 l2 d2 A c T', e = .returned (.slice A t.length c) ∧ w'.ownsRow w.heap.size 83 2 (.slice A t.length c) t.length (hit.hv t) ∧
  Told beh nxt s d.toList t k s1 l1 ∧ Run beh nxt s1 l1 j s2 l2 ∧ d2.toList.Perm l2 ∧ ((t.length : Int) < n → ∀ x ∈ d2.toList, maxI < x.1) ∧ (n ≤ t.length → j = 0) ∧ (t.length = 0 ∨ (t.length : Int) ≤ n) ∧
  Wk w' base wb hb T' F d2 (o + k + j) ∧ Only (fun i => T i ∨ TO i) w w' ∧ (∀ i, T' i → T i ∨ w.heap.size ≤ i) ∧ J s2 w' ∧ ∀ g, (Value.slice A t.length c).ownBlock = some g → ¬ T' g
end
section
variable {σ : Type} {F : Value} {base wb hb o k c : Nat} {T TO : Nat → Prop} {J : σ → World → Prop} {N : Int → Prop} {beh : σ → Int → List Ent} {nxt : σ → Int → σ} {wt : Int → Nat} {d d1 : Array Ent} {s s1 : σ} {w wr W : World} {t vs : List (Int × Int)} {v : Value} {A0 : Option Addr}
theorem TaS.below (H : Op F base TO J N beh nxt wt) (h : TaS F base wb hb T TO J beh nxt s d o w t v vs k s1 d1 wr) (hb' : Below wr.heap.size wr W) : TaS F base wb hb T TO J beh nxt s d o w t v vs k s1 d1 W := by
  obtain ⟨T', h1, h2, h3, h4, h5, h6, h7⟩ := h
  exact ⟨T', h1.below hb', h2, h3.on hb', h4, H.keep _ _ _ h5 (hb'.mono h1.base_le), own_below h6 hb' (Nat.le_refl _), h7⟩
theorem TaS.size (h : TaS F base wb hb T TO J beh nxt s d o w t v vs k s1 d1 wr) : w.heap.size ≤ wr.heap.size := by
  obtain ⟨T', h1, h2, h3, h4, h5, h6, h7⟩ := h
  exact h3.size
/-- Next asked of it: a thing more, or the end -/
theorem TaS.next (H : Op F base TO J N beh nxt wt) (hbw : base ≤ w.heap.size) (h : TaS F base wb hb T TO J beh nxt s d o w t v t k s1 d1 wr) (h0 : Nds N d.toList) (hsz : wsum wt d.toList + o ≤ 1099511627776) (n : Int) (hn : (t.length : Int) < n) (A : Option Addr) (hv : v = .slice A t.length c) :
    Calls Tryz.prog 39 #[.pointer (some ⟨wb, 0, none⟩)] wr fun e w' => ∃ i q b, e = .returned (.tuple #[.agg #[.int .u64 i, .int .i64 q], .bool b]) ∧
      (b = true → ∃ k2 s2 d2, TaS F base wb hb T TO J beh nxt s d o w (t ++ [(i, q)]) v t k2 s2 d2 w' ∧ wsum wt d2.toList < wsum wt d1.toList) ∧
      (b = false → ∀ W, Below w'.heap.size w' W → Takes F base wb hb T TO J beh nxt s d o w n (.returned v) W) := by
  obtain ⟨T', h1, h2, h3, h4, h5, h6, h7⟩ := h
  obtain ⟨k1, k2⟩ := h2.keeps H.next H.less h0
  refine (next_any H h1 h5 k1 (by omega)).mono fun e w' hh => ?_
  obtain ⟨j, s2, l2, hr, hj, hc⟩ := hh
  obtain ⟨r1, r2⟩ := hr.keeps H.next H.less k1
  have hrow : ∀ W, Only (fun i => T' i ∨ TO i) wr W → W.ownsRow w.heap.size 83 2 v t.length (hit.hv t) := fun W ho => own_only h6 ho fun g e e2 => by
    rcases e2 with e2 | e2
    · exact h7 g e e2
    · have := (own_lt h6 e).1
      have := H.low _ e2
      omega
  have hlt : ∀ g, v.ownBlock = some g → g < wr.heap.size := fun g e => (own_lt h6 e).2
  have hon : ∀ W, Only (fun i => T' i ∨ TO i) wr W → Only (fun i => T i ∨ TO i) w W := fun W ho => h3.trans ho fun i e => by
    rcases e with e | e
    · exact (h4 i e).imp .inl id
    · exact .inl (.inr e)
  have hsw := h3.size
  rcases hc with ⟨x, rest, a1, a2, a3, a4, a5, d', a6, T2, a7, a8, a9⟩ | ⟨a1, a2, d', a6, T2, a7, a8, a9⟩
  · refine ⟨_, _, true, a5, fun _ => ⟨k + j, s2, d', ⟨T2, by rw [← Nat.add_assoc]; exact a7, .snoc h2 hr a1 a2 (a4.trans (List.Perm.cons x a6.symm)), hon _ a8, fun i e => ?_, hj, hrow _ a8, fun g e e2 => ?_⟩, ?_⟩, fun e => by cases e⟩
    · rcases a9 i e with e2 | e2
      · exact h4 i e2
      · exact .inr (by omega)
    · rcases a9 g e2 with e3 | e3
      · exact h7 g e e3
      · have := hlt g e; omega
    · have e1 := wsum_perm (wt := wt) a4
      have e2 := wsum_perm (wt := wt) a6
      rw [wsum_cons] at e1
      have := H.pos x.2.1
      omega
  · refine ⟨_, _, false, a2, (fun e => by cases e), fun _ W hW => ?_⟩
    subst hv
    refine ⟨t, k, s1, d1.toList, j, s2, l2, d', A, c, T2, rfl, own_below (hrow _ a8) hW (Nat.le_refl _), h2, hr, a6, fun _ x hx => a1 x (a6.subset hx), fun e => by omega, .inr (by omega), a7.below hW, (hon _ a8).on hW, fun i e => ?_, H.keep _ _ _ hj (hW.mono a7.base_le), fun g e e2 => ?_⟩
    · rcases a9 i e with e2 | e2
      · exact h4 i e2
      · exact .inr (by omega)
    · rcases a9 g e2 with e3 | e3
      · exact h7 g e e3
      · have := hlt g e; omega
theorem TaS.append (H : Op F base TO J N beh nxt wt) (hbw : base ≤ w.heap.size) (h : TaS F base wb hb T TO J beh nxt s d o w t v vs k s1 d1 wr) {v4 : Value} {w4 : World} {ts : List (Int × Int)} (hown : w4.ownsRow w.heap.size 83 2 v4 ts.length (hit.hv ts)) (hg : wr.grownBy w4 v.ownBlock) (hat : v4.ownBlock = v.ownBlock ∨ v4.ownBlock = some wr.heap.size) : TaS F base wb hb T TO J beh nxt s d o w t v4 ts k s1 d1 w4 := by
  obtain ⟨T', h1, h2, h3, h4, h5, h6, h7⟩ := h
  have ho : Only (fun i => v.ownBlock = some i) wr w4 := Only.of_grown hg fun g e => .inl e
  refine ⟨T', h1.only ho fun i e e2 => h7 i e2 e, h2, h3.trans ho fun i e => .inr (own_lt h6 e).1, h4, H.keep _ _ _ h5 (ho.below h1.base_le fun i e => Nat.le_trans hbw (own_lt h6 e).1), hown, fun g e e2 => ?_⟩
  rcases hat with e3 | e3
  · exact h7 g (e3 ▸ e) e2
  · rw [e3] at e
    injection e with e
    have := (h1.low g e2).2
    omega
theorem TaS.stop (h : TaS F base wb hb T TO J beh nxt s d o w t (.slice A0 t.length c) t k s1 d1 wr) (n : Int) (hn : n ≤ t.length) (h2 : t.length = 0 ∨ (t.length : Int) ≤ n) : Takes F base wb hb T TO J beh nxt s d o w n (.returned (.slice A0 t.length c)) wr := by
  obtain ⟨T', h1, h2, h3, h4, h5, h6, h7⟩ := h
  exact ⟨t, k, s1, d1.toList, 0, s1, d1.toList, d1, A0, c, T', rfl, h6, h2, .refl _ _, List.Perm.refl _, fun e => by omega, fun _ => rfl, by assumption, h1, h3, h4, h5, h7⟩
theorem TaS.len (H : Op F base TO J N beh nxt wt) (h : TaS F base wb hb T TO J beh nxt s d o w t v vs k s1 d1 wr) (h0 : Nds N d.toList) : t.length + wsum wt d1.toList ≤ wsum wt d.toList := by
  obtain ⟨T', h1, h2, -⟩ := h
  exact h2.many H.pos H.next H.less h0
set_option maxRecDepth 100000 in
set_option maxHeartbeats 1600000 in
theorem take_any (H : Op F base TO J N beh nxt wt) (h : Wk w base wb hb T F d o) (hJ : J s w) (h0 : Nds N d.toList) (hsz : wsum wt d.toList + o ≤ 1099511627776) (n : Int) :
    Calls Tryz.prog 22 #[.pointer (some ⟨wb, 0, none⟩), .int .i64 n] w fun e w' => Takes F base wb hb T TO J beh nxt s d o w n e w' := by
  have hbw := h.base_le
  obtain ⟨P, hP⟩ : ∃ P : Ending → World → Prop, P = fun e w' => Takes F base wb hb T TO J beh nxt s d o w n e w' := ⟨_, rfl⟩
  rw [show (fun e w' => Takes F base wb hb T TO J beh nxt s d o w n e w') = P from hP.symm]
  obtain ⟨M, hM⟩ : ∃ M : List (Int × Int) → Value → List (Int × Int) → Nat → σ → Array Ent → World → Prop, M = fun t v vs k s1 d1 wr => TaS F base wb hb T TO J beh nxt s d o w t v vs k s1 d1 wr := ⟨_, rfl⟩
  have HST : Hid (M [] (.slice none 0 0) [] 0 s d w) := Lib.hid (by rw [hM]; exact ⟨T, h, .nil _ _, Only.refl _ _, fun i e => .inl e, hJ, World.ownsRow_nil _ _ _ _, fun g e => by cases e⟩)
  have HMN : Hid (∀ t k s1 d1 wr A c, M t (.slice A t.length c) t k s1 d1 wr → (t.length : Int) < n → Calls Tryz.prog 39 #[.pointer (some ⟨wb, 0, none⟩)] wr fun e w' => ∃ i q b, e = .returned (.tuple #[.agg #[.int .u64 i, .int .i64 q], .bool b]) ∧
      (b = true → ∃ k2 s2 d2, M (t ++ [(i, q)]) (.slice A t.length c) t k2 s2 d2 w' ∧ wsum wt d2.toList < wsum wt d1.toList) ∧
      (b = false → ∀ W, Below w'.heap.size w' W → P (.returned (.slice A t.length c)) W)) := Lib.hid fun t k s1 d1 wr A c hh hn => by
    rw [hM] at hh ⊢; rw [hP]
    exact hh.next H hbw h0 hsz n hn A rfl
  have HMS : Hid (∀ t k s1 d1 wr A c, M t (.slice A t.length c) t k s1 d1 wr → n ≤ t.length → (t.length = 0 ∨ (t.length : Int) ≤ n) → P (.returned (.slice A t.length c)) wr) := Lib.hid fun t k s1 d1 wr A c hh h1 h2 => by
    rw [hM] at hh; rw [hP]
    exact hh.stop n h1 h2
  have HMB : Hid (∀ t v vs k s1 d1 wr W, M t v vs k s1 d1 wr → Below wr.heap.size wr W → M t v vs k s1 d1 W) := Lib.hid fun t v vs k s1 d1 wr W hh hb => by rw [hM] at hh ⊢; exact hh.below H hb
  have HMA : Hid (∀ t v vs k s1 d1 wr v4 w4 (ts : List (Int × Int)), M t v vs k s1 d1 wr → w4.ownsRow w.heap.size 83 2 v4 ts.length (hit.hv ts) → wr.grownBy w4 v.ownBlock → (v4.ownBlock = v.ownBlock ∨ v4.ownBlock = some wr.heap.size) → M t v4 ts k s1 d1 w4) := Lib.hid fun t v vs k s1 d1 wr v4 w4 ts hh h1 h2 h3 => by
    rw [hM] at hh ⊢
    exact hh.append H hbw h1 h2 h3
  have HML : Hid (∀ t v vs k s1 d1 wr, M t v vs k s1 d1 wr → t.length + wsum wt d1.toList ≤ 1099511627776 ∧ wr.ownsRow w.heap.size 83 2 v vs.length (hit.hv vs) ∧ w.heap.size ≤ wr.heap.size) := Lib.hid fun t v vs k s1 d1 wr hh => by
    rw [hM] at hh
    have := hh.len H h0
    refine ⟨by omega, ?_, hh.size⟩
    obtain ⟨T', h1, h2, h3, h4, h5, h6, h7⟩ := hh
    exact h6
  clear hM hP h hJ h0 hsz hbw H
  go_enter Tryz.func22, Tryz.ntmps22
  go_wp2_with (fail)
  go_loopg [5] (wsum wt d.toList) (fun gk s5 wr => ∃ t k s1 d1 A c, gk = wsum wt d1.toList ∧ s5 = .slice A t.length c ∧ M t (.slice A t.length c) t k s1 d1 wr ∧ (t.length = 0 ∨ (t.length : Int) ≤ n))
  case atStart => exact ⟨[], 0, s, d, none, 0, rfl, rfl, HST.out, .inl rfl⟩
  case round =>
    obtain ⟨t, k, s1, d1, A, c, rfl, rfl, hm, hle⟩ := hrel
    clear HST
    by_cases hn : (t.length : Int) < n
    · have HN := Lib.hid (HMN.out t k s1 d1 wr A c hm hn)
      clear hm hle HMN HMS
      go_wp2_with (fail)
      refine HN.out.mono ?_
      rintro e w2 ⟨i, q, b, rfl, hyes, hno⟩
      cases b with
      | false =>
        have HP := Lib.hid (hno rfl (w2.alloc (.cells #[.int .u64 i, .int .i64 q] 83)) ((Below.refl _ _).alloc (Nat.le_refl _) _))
        clear hyes hno HMB HMA HML HN
        go_wp2_with (fail)
        exact HP.out
      | true =>
        obtain ⟨k2, s2, d2, hm2, hlt⟩ := hyes rfl
        have hm3 := HMB.out _ _ _ _ _ _ _ (w2.alloc (.cells #[.int .u64 i, .int .i64 q] 83)) hm2 ((Below.refl _ _).alloc (Nat.le_refl _) _)
        obtain ⟨hl, hown, hsz⟩ := HML.out _ _ _ _ _ _ _ hm3
        simp only [List.length_append, List.length_cons, List.length_nil] at hl
        simp at hsz
        have HM3 := Lib.hid (HMB.out _ _ _ _ _ _ _ ((w2.alloc (.cells #[.int .u64 i, .int .i64 q] 83)).alloc (.cells #[.int .u64 i, .int .i64 q] 83)) hm3 ((Below.refl _ _).alloc (Nat.le_refl _) _))
        have hsl := Sl.lit (w2.alloc (.cells #[.int .u64 i, .int .i64 q] 83)) [.int .u64 i, .int .i64 q] 83
        rw [show (w2.alloc (.cells #[.int .u64 i, .int .i64 q] 83)).heap.size = w2.heap.size + 1 by simp] at hsl
        have HLT := Lib.hid hlt
        clear hyes hno hm2 hm3 hlt HN HML HMB
        go_wp2_with (at_builtin
                     refine wpList_append_slk _ rfl (.tmp 19) (.tmp 21) _ rfl w.heap.size 83 2 16 Tryz.underlying61 hiE (by omega) (.slice A t.length c) t.length (hit.hv t) rfl (World.ownsRow.alloc (w := w2.alloc (.cells #[.int .u64 i, .int .i64 q] 83)) hown _) _ _ 1 1 [.int .u64 i, .int .i64 q] rfl hsl rfl (hi_one _ _) (by omega) (by unfold maxLen; omega) (by simp; omega) ?_
                     intro v4 w4 hown4 hg4 hat4
                     obtain ⟨A4, c4, rfl, hc4⟩ := own_slice hown4)
        have HM4 := Lib.hid (HMA.out _ _ _ _ _ _ _ _ _ (t ++ [(i, q)]) HM3.out (by rw [hit.hv_append, List.length_append]; exact hown4) hg4 hat4)
        clear hown4 hg4 hat4 HM3 HMA
        go_wp2_with (fail)
        go_roundg (wsum wt d2.toList)
        case measure => exact HLT.out
        case rel => exact ⟨t ++ [(i, q)], k2, s2, d2, A4, c4, rfl, by rw [List.length_append]; rfl, by rw [List.length_append]; exact HM4.out, .inr (by rw [List.length_append]; simp; omega)⟩
    · have HP := Lib.hid (HMS.out t k s1 d1 wr A c hm (by omega) hle)
      clear hm hle HMN HMS HMB HMA HML
      go_wp2_with (fail)
      exact HP.out
end
end Go.Proofs.YtpmjpolnoaigoaaGreat.fro
/-
  The contract of Upto.
-/
namespace Go.Proofs.YtpmjpolnoaigoaaGreat.fro
open Go.RowKit law bytes only flat heapM Go.Sort Go.Shelf
set_option linter.unusedVariables false

section
variable {σ : Type} (F : Value) (base wb hb : Nat) (T TO : Nat → Prop) (J : σ → World → Prop) (beh : σ → Int → List Ent) (nxt : σ → Int → σ) (s : σ) (d : Array Ent) (o : Nat) (w : World)
/-- what Upto leaves: what is told, in a row of the call's own; what is left is farther -/
def Uptos (r : Int) (e : Ending) (w' : World) : Prop := ∃ t k s1 l1 j s2 l2 d2 A c T', e = .returned (.slice A t.length c) ∧ w'.ownsRow w.heap.size 83 2 (.slice A t.length c) t.length (hit.hv t) ∧
  Told beh nxt s d.toList t k s1 l1 ∧ Run beh nxt s1 l1 j s2 l2 ∧ d2.toList.Perm l2 ∧ (∀ h ∈ t, h.2 ≤ r) ∧ (∀ x ∈ d2.toList, r < x.1) ∧
  Wk w' base wb hb T' F d2 (o + k + j) ∧ Only (fun i => T i ∨ TO i) w w' ∧ (∀ i, T' i → T i ∨ w.heap.size ≤ i) ∧ J s2 w' ∧ ∀ g, (Value.slice A t.length c).ownBlock = some g → ¬ T' g
end
section
variable {σ : Type} {F : Value} {base wb hb o k c : Nat} {T TO : Nat → Prop} {J : σ → World → Prop} {N : Int → Prop} {beh : σ → Int → List Ent} {nxt : σ → Int → σ} {wt : Int → Nat} {d d1 : Array Ent} {s s1 : σ} {w wr W : World} {t vs : List (Int × Int)} {v : Value} {A0 : Option Addr}
/-- within asked of it: a thing more, or the end -/
theorem TaS.within (H : Op F base TO J N beh nxt wt) (hbw : base ≤ w.heap.size) (h : TaS F base wb hb T TO J beh nxt s d o w t v t k s1 d1 wr) (h0 : Nds N d.toList) (hsz : wsum wt d.toList + o ≤ 1099511627776) (r : Int) (ht : ∀ h ∈ t, h.2 ≤ r) (A : Option Addr) (hv : v = .slice A t.length c) :
    Calls Tryz.prog 95 #[.pointer (some ⟨wb, 0, none⟩), .int .i64 r] wr fun e w' => ∃ i q b, e = .returned (.tuple #[.agg #[.int .u64 i, .int .i64 q], .bool b]) ∧
      (b = true → q ≤ r ∧ ∃ k2 s2 d2, TaS F base wb hb T TO J beh nxt s d o w (t ++ [(i, q)]) v t k2 s2 d2 w' ∧ wsum wt d2.toList < wsum wt d1.toList) ∧
      (b = false → ∀ W, Below w'.heap.size w' W → Uptos F base wb hb T TO J beh nxt s d o w r (.returned v) W) := by
  obtain ⟨T', h1, h2, h3, h4, h5, h6, h7⟩ := h
  obtain ⟨k1, k2⟩ := h2.keeps H.next H.less h0
  refine (within_any H h1 h5 k1 (by omega) r).mono fun e w' hh => ?_
  obtain ⟨j, s2, l2, hr, hj, hc⟩ := hh
  obtain ⟨r1, r2⟩ := hr.keeps H.next H.less k1
  have hrow : ∀ W, Only (fun i => T' i ∨ TO i) wr W → W.ownsRow w.heap.size 83 2 v t.length (hit.hv t) := fun W ho => own_only h6 ho fun g e e2 => by
    rcases e2 with e2 | e2
    · exact h7 g e e2
    · have := (own_lt h6 e).1
      have := H.low _ e2
      omega
  have hlt : ∀ g, v.ownBlock = some g → g < wr.heap.size := fun g e => (own_lt h6 e).2
  have hon : ∀ W, Only (fun i => T' i ∨ TO i) wr W → Only (fun i => T i ∨ TO i) w W := fun W ho => h3.trans ho fun i e => by
    rcases e with e | e
    · exact (h4 i e).imp .inl id
    · exact .inl (.inr e)
  have hsw := h3.size
  rcases hc with ⟨x, rest, a1, a2, a3, a4, a5, d', a6, T2, a7, a8, a9⟩ | ⟨a1, a2, d', a6, T2, a7, a8, a9⟩
  · refine ⟨_, _, true, a5, fun _ => ⟨a3, k + j, s2, d', ⟨T2, by rw [← Nat.add_assoc]; exact a7, .snoc h2 hr a1 a2 (a4.trans (List.Perm.cons x a6.symm)), hon _ a8, fun i e => ?_, hj, hrow _ a8, fun g e e2 => ?_⟩, ?_⟩, fun e => by cases e⟩
    · rcases a9 i e with e2 | e2
      · exact h4 i e2
      · exact .inr (by omega)
    · rcases a9 g e2 with e3 | e3
      · exact h7 g e e3
      · have := hlt g e; omega
    · have e1 := wsum_perm (wt := wt) a4
      have e2 := wsum_perm (wt := wt) a6
      rw [wsum_cons] at e1
      have := H.pos x.2.1
      omega
  · refine ⟨_, _, false, a2, (fun e => by cases e), fun _ W hW => ?_⟩
    subst hv
    refine ⟨t, k, s1, d1.toList, j, s2, l2, d', A, c, T2, rfl, own_below (hrow _ a8) hW (Nat.le_refl _), h2, hr, a6, ht, fun x hx => a1 x (a6.subset hx), a7.below hW, (hon _ a8).on hW, fun i e => ?_, H.keep _ _ _ hj (hW.mono a7.base_le), fun g e e2 => ?_⟩
    · rcases a9 i e with e2 | e2
      · exact h4 i e2
      · exact .inr (by omega)
    · rcases a9 g e2 with e3 | e3
      · exact h7 g e e3
      · have := hlt g e; omega
end
end Go.Proofs.YtpmjpolnoaigoaaGreat.fro
/-
  The contract of front.New (any number of entries to begin with); what lives.
-/
namespace Go.Proofs.YtpmjpolnoaigoaaGreat.fro
open Go.RowKit law bytes only flat heapM Go.Sort Go.Shelf
set_option linter.unusedVariables false

/-- New's memory ahead of a round -/
def NeS (wb hb : Nat) (F : Value) (w : World) (l : List Ent) (k : Nat) (wr : World) : Prop :=
  ∃ T' d', Wk wr w.heap.size wb hb T' F d' 0 ∧ d'.toList.Perm (l.take k) ∧ Below w.heap.size w wr
/-- what a round asks, and what it leaves -/
def Nrd (wb hb : Nat) (F : Value) (w : World) (A : Option Addr) (l : List Ent) (k : Nat) (hk : k < l.length) (wr : World) : Prop :=
  ∃ b q y, l[k] = y ∧ A = some ⟨b, q, none⟩ ∧
    (wr.cell? ⟨b, q + k * 3, none⟩ = some (.int .i64 y.1) ∧ wr.cell? ⟨b, q + k * 3 + 1, none⟩ = some (.int .i64 y.2.1) ∧ wr.cell? ⟨b, q + k * 3 + 2, none⟩ = some (.int .u64 y.2.2)) ∧
    ∀ V, V = wr.alloc (.cells #[.int .i64 y.1, .int .i64 y.2.1, .int .u64 y.2.2] 130) →
      (∀ W, Below V.heap.size V W → W.cell? ⟨wb, 1, none⟩ = some (.pointer (some ⟨hb, 0, none⟩)) ∧ W.cell? ⟨wr.heap.size, 0, none⟩ = some (.int .i64 y.1) ∧ W.cell? ⟨wr.heap.size, 1, none⟩ = some (.int .i64 y.2.1) ∧ W.cell? ⟨wr.heap.size, 2, none⟩ = some (.int .u64 y.2.2)) ∧
      ∀ W, Below V.heap.size V W → Calls Tryz.prog 119 #[.pointer (some ⟨hb, 0, none⟩), .agg #[.int .i64 y.1, .int .i64 y.2.1, .int .u64 y.2.2]] W fun e w' => e = .returned (.tuple #[]) ∧ NeS wb hb F w l (k + 1) w' ∧
        (w'.cell? ⟨wb, 1, none⟩ = some (.pointer (some ⟨hb, 0, none⟩)) ∧ w'.cell? ⟨wr.heap.size, 0, none⟩ = some (.int .i64 y.1) ∧ w'.cell? ⟨wr.heap.size, 1, none⟩ = some (.int .i64 y.2.1) ∧ w'.cell? ⟨wr.heap.size, 2, none⟩ = some (.int .u64 y.2.2))
section
variable {wb hb k : Nat} {F : Value} {w wr : World} {A : Option Addr} {l : List Ent}
theorem NeS.round (h : NeS wb hb F w l k wr) (hk : k < l.length) (hA : Sl w w.heap.size A (l.flatMap ec)) (hsz : l.length ≤ 1099511627776) : Nrd wb hb F w A l k hk wr := by
  obtain ⟨T', d', h1, h2, h3⟩ := h
  obtain ⟨b, q, rfl, hb1, c0, c1, c2⟩ := Sl.ent (hA.below h3) hk
  refine ⟨b, q, l[k], rfl, rfl, ⟨c0, c1, c2⟩, ?_⟩
  obtain ⟨y, hy⟩ : ∃ y, l[k] = y := ⟨_, rfl⟩
  rw [hy]
  have hbs := h1.base_le
  intro V hV
  have e2 : Blk V wr.heap.size 130 #[.int .i64 y.1, .int .i64 y.2.1, .int .u64 y.2.2] := by rw [hV]; exact Blk.new wr _ _
  have hbV : Below wr.heap.size wr V := by rw [hV]; exact (Below.refl _ _).alloc (Nat.le_refl _) _
  have h1V := h1.below hbV
  refine ⟨fun W hW => ⟨(h1V.below hW).blk.cell 1, (e2.below hW e2.lt).cell 0, (e2.below hW e2.lt).cell 1, (e2.below hW e2.lt).cell 2⟩, fun W hW => ?_⟩
  have hWr : Below wr.heap.size wr W := hbV.trans (hW.mono hbV.size)
  have hd : d'.size ≤ l.length := by
    have := h2.length_eq
    simp at this
    omega
  refine (push_wk (h1V.below hW) y (by omega)).mono ?_
  rintro e w' ⟨rfl, d2, ⟨T2, k1, k2, k3⟩, k4⟩
  have hoT : Only T' W w' := k2.mono fun i e => e.elim .inl False.elim
  have hcn : ¬ T' wr.heap.size := fun e => by have := (h1.low _ e).2; omega
  have e3 := Blk.only (e2.below hW e2.lt) hoT hcn
  refine ⟨rfl, ⟨T2, d2, k1, ?_, (h3.trans (hWr.mono hbs)).trans (hoT.below (Nat.le_trans hbs hWr.size) fun i e => (h1.low i e).1)⟩, k1.blk.cell 1, e3.cell 0, e3.cell 1, e3.cell 2⟩
  refine k4.trans ((List.Perm.cons _ h2).trans ?_)
  rw [List.take_succ_eq_append_getElem hk, hy]
  exact List.perm_append_comm (l₁ := [y])
set_option maxRecDepth 100000 in
set_option maxHeartbeats 1600000 in
theorem new_any (F : Value) (hF : F = .nilFunc ∨ ∃ f a b, F = .func f a b) (A : Option Addr) (l : List Ent) (c : Nat) (w : World) (hA : Sl w w.heap.size A (l.flatMap ec)) (hsz : l.length ≤ 1099511627776) :
    Calls Tryz.prog 73 #[F, .slice A l.length c] w fun e w' => ∃ wb hb T d, e = .returned (.pointer (some ⟨wb, 0, none⟩)) ∧ Wk w' w.heap.size wb hb T F d 0 ∧ d.toList.Perm l ∧ Below w.heap.size w w' := by
  have HN := Lib.hid (new_ent 118 w.heap.size w (Nat.le_refl _))
  have HS : Hid (∀ w1, Below w.heap.size w w1 → EHp w1 w.heap.size w.heap.size (.slice none 0 0) 118 #[] → NeS w1.heap.size w.heap.size F w l 0 (w1.alloc (.cells #[F, .pointer (some ⟨w.heap.size, 0, none⟩), .int .i64 0] 175))) := Lib.hid fun w1 h1 h2 => by
    have hb1 : Below w1.heap.size w1 (w1.alloc (.cells #[F, .pointer (some ⟨w.heap.size, 0, none⟩), .int .i64 0] 175)) := (Below.refl _ _).alloc (Nat.le_refl _) _
    have hl := h2.lt
    refine ⟨fun i => i = w1.heap.size ∨ Mine w.heap.size (.slice none 0 0) i, #[], ⟨_, Blk.new _ _ _, h2.below hb1 (Nat.le_refl _), fun i _ hi => by simp at hi, Nat.le_refl _, h1.size, by omega, (fun e => by cases e), fun i => Iff.rfl⟩, List.Perm.refl _, h1.trans (hb1.mono h1.size)⟩
  have HR : Hid (∀ wb hb k wr, NeS wb hb F w l k wr → ∀ hk : k < l.length, Nrd wb hb F w A l k hk wr) := Lib.hid fun wb hb k wr hh hk => hh.round hk hA hsz
  have HE : Hid (∀ wb hb wr, NeS wb hb F w l l.length wr → ∃ wb' hb T d, Value.pointer (some ⟨wb, 0, none⟩) = .pointer (some ⟨wb', 0, none⟩) ∧ Wk wr w.heap.size wb' hb T F d 0 ∧ d.toList.Perm l ∧ Below w.heap.size w wr) := Lib.hid fun wb hb wr ⟨T, d, h1, h2, h3⟩ => ⟨wb, hb, T, d, rfl, h1, by rw [List.take_length] at h2; exact h2, h3⟩
  clear hA
  obtain ⟨Q, hQ⟩ : ∃ Q : Nat → Nat → World → Prop, Q = fun wb k wr => NeS wb w.heap.size F w l k wr := ⟨_, rfl⟩
  have HQ : Hid (∀ wb k wr, NeS wb w.heap.size F w l k wr ↔ Q wb k wr) := Lib.hid fun wb k wr => by rw [hQ]
  clear hQ
  rcases hF with rfl | ⟨f, a, b, rfl⟩
  · go_enter Tryz.func73, Tryz.ntmps73
    go_wp2_with (fail)
    refine HN.out.mono ?_
    rintro e w1 ⟨rfl, hb1, he1⟩
    have HS0 := Lib.hid (HS.out w1 hb1 he1)
    clear hb1 he1 HN HS
    go_wp2_with (fail)
    generalize w1.heap.size = wb at *
    go_loopg [14] l.length (fun gk s14 wr => ∃ k : Nat, gk = l.length - k ∧ s14 = .int .i64 k ∧ k ≤ l.length ∧ Q wb k wr)
    case atStart => exact ⟨0, rfl, rfl, Nat.zero_le _, (HQ.out _ _ _).1 HS0.out⟩
    case round =>
      clear HS0
      obtain ⟨k, rfl, rfl, hk, hq⟩ := hrel
      have hh := (HQ.out _ _ _).2 hq
      clear hq
      rcases Nat.lt_or_ge k l.length with hlt | hge
      · obtain ⟨b, q, y, -, rfl, ⟨c0, c1, c2⟩, hV⟩ := HR.out _ _ _ _ hh hlt
        obtain ⟨V, hVV⟩ : ∃ V, V = wr.alloc (.cells #[.int .i64 y.1, .int .i64 y.2.1, .int .u64 y.2.2] 130) := ⟨_, rfl⟩
        obtain ⟨hS, hC⟩ := hV V hVV
        have i1 : (k : Int) < (l.length : Int) := by omega
        have i2 : IntKind.i64.wrap ((k : Int) + 1) = ((k + 1 : Nat) : Int) := by rw [IntKind.wrap_i64]; omega
        have HSS := Lib.hid hS
        have HC := Lib.hid hC
        have HVV := Lib.hid hVV
        clear hS hC hVV hV hh HR HE
        go_wp2_with (fail)
        rw [← HVV.out]
        obtain ⟨q0, q1, q2, q3⟩ := HSS.out V (Below.refl _ _)
        clear HVV c0 c1 c2
        obtain ⟨z, hz⟩ : ∃ z, z = wr.heap.size := ⟨_, rfl⟩
        rw [← hz] at HSS HC q1 q2 q3 ⊢
        clear hz
        go_region_held3 (fun W => W.cell? ⟨wb, 1, none⟩ = some (.pointer (some ⟨w.heap.size, 0, none⟩)) ∧ W.cell? ⟨z, 0, none⟩ = some (.int .i64 y.1) ∧ W.cell? ⟨z, 1, none⟩ = some (.int .i64 y.2.1) ∧ W.cell? ⟨z, 2, none⟩ = some (.int .u64 y.2.2)) ((first | (with_reducible assumption) | (refine HSS.out _ ?_; repeat' (first | (with_reducible exact Below.refl _ _) | (with_reducible assumption) | (with_reducible refine Below.drew ?_) | (with_reducible refine below_drewN' ?_ _)))))
          (first
            | (go_at_call 119; (with_reducible refine (HC.out _ (by repeat' (first | (with_reducible exact Below.refl _ _) | (with_reducible assumption) | (with_reducible refine Below.drew ?_) | (with_reducible refine below_drewN' ?_ _)))).mono ?_); rintro e w4 ⟨rfl, hn4, hs4⟩))
        clear q0 q1 q2 q3 hs4 HSS HC
        go_wp2_with (fail)
        go_roundg (l.length - (k + 1))
        case measure => omega
        case rel => exact ⟨k + 1, rfl, by go_num, by omega, (HQ.out _ _ _).1 hn4⟩
      · obtain rfl : k = l.length := by omega
        obtain ⟨wb', hb, T, d, e1, e2⟩ := HE.out _ _ _ hh
        have HF := Lib.hid (And.intro e1 e2)
        clear hh HR HE e1 e2
        go_wp2_with (fail)
        go_ret
        exact ⟨wb', hb, T, d, by rw [← HF.out.1]; rfl, HF.out.2⟩
  · go_enter Tryz.func73, Tryz.ntmps73
    go_wp2_with (fail)
    refine HN.out.mono ?_
    rintro e w1 ⟨rfl, hb1, he1⟩
    have HS0 := Lib.hid (HS.out w1 hb1 he1)
    clear hb1 he1 HN HS
    go_wp2_with (fail)
    generalize w1.heap.size = wb at *
    go_loopg [14] l.length (fun gk s14 wr => ∃ k : Nat, gk = l.length - k ∧ s14 = .int .i64 k ∧ k ≤ l.length ∧ Q wb k wr)
    case atStart => exact ⟨0, rfl, rfl, Nat.zero_le _, (HQ.out _ _ _).1 HS0.out⟩
    case round =>
      clear HS0
      obtain ⟨k, rfl, rfl, hk, hq⟩ := hrel
      have hh := (HQ.out _ _ _).2 hq
      clear hq
      rcases Nat.lt_or_ge k l.length with hlt | hge
      · obtain ⟨b, q, y, -, rfl, ⟨c0, c1, c2⟩, hV⟩ := HR.out _ _ _ _ hh hlt
        obtain ⟨V, hVV⟩ : ∃ V, V = wr.alloc (.cells #[.int .i64 y.1, .int .i64 y.2.1, .int .u64 y.2.2] 130) := ⟨_, rfl⟩
        obtain ⟨hS, hC⟩ := hV V hVV
        have i1 : (k : Int) < (l.length : Int) := by omega
        have i2 : IntKind.i64.wrap ((k : Int) + 1) = ((k + 1 : Nat) : Int) := by rw [IntKind.wrap_i64]; omega
        have HSS := Lib.hid hS
        have HC := Lib.hid hC
        have HVV := Lib.hid hVV
        clear hS hC hVV hV hh HR HE
        go_wp2_with (fail)
        rw [← HVV.out]
        obtain ⟨q0, q1, q2, q3⟩ := HSS.out V (Below.refl _ _)
        clear HVV c0 c1 c2
        obtain ⟨z, hz⟩ : ∃ z, z = wr.heap.size := ⟨_, rfl⟩
        rw [← hz] at HSS HC q1 q2 q3 ⊢
        clear hz
        go_region_held3 (fun W => W.cell? ⟨wb, 1, none⟩ = some (.pointer (some ⟨w.heap.size, 0, none⟩)) ∧ W.cell? ⟨z, 0, none⟩ = some (.int .i64 y.1) ∧ W.cell? ⟨z, 1, none⟩ = some (.int .i64 y.2.1) ∧ W.cell? ⟨z, 2, none⟩ = some (.int .u64 y.2.2)) ((first | (with_reducible assumption) | (refine HSS.out _ ?_; repeat' (first | (with_reducible exact Below.refl _ _) | (with_reducible assumption) | (with_reducible refine Below.drew ?_) | (with_reducible refine below_drewN' ?_ _)))))
          (first
            | (go_at_call 119; (with_reducible refine (HC.out _ (by repeat' (first | (with_reducible exact Below.refl _ _) | (with_reducible assumption) | (with_reducible refine Below.drew ?_) | (with_reducible refine below_drewN' ?_ _)))).mono ?_); rintro e w4 ⟨rfl, hn4, hs4⟩))
        clear q0 q1 q2 q3 hs4 HSS HC
        go_wp2_with (fail)
        go_roundg (l.length - (k + 1))
        case measure => omega
        case rel => exact ⟨k + 1, rfl, by go_num, by omega, (HQ.out _ _ _).1 hn4⟩
      · obtain rfl : k = l.length := by omega
        obtain ⟨wb', hb, T, d, e1, e2⟩ := HE.out _ _ _ hh
        have HF := Lib.hid (And.intro e1 e2)
        clear hh HR HE e1 e2
        go_wp2_with (fail)
        go_ret
        exact ⟨wb', hb, T, d, by rw [← HF.out.1]; rfl, HF.out.2⟩
end
/-! ### what lives -/
theorem Run.none {σ : Type} {beh : σ → Int → List Ent} {nxt : σ → Int → σ} {s s1 : σ} {l l1 : List Ent} {k : Nat} (h : Run beh nxt s l k s1 l1) (h0 : ∀ x ∈ l, nd x = false) : k = 0 ∧ l1 = l := by
  induction h with
  | refl => exact ⟨rfl, rfl⟩
  | @step k s1 l1 x rest l2 h hf hx hp hq ih =>
    obtain ⟨-, rfl⟩ := ih
    rw [h0 x (hp.symm.subset (List.mem_cons_self ..))] at hx
    cases hx
/-- a walk whose function is never asked -/
theorem op_none (F : Value) (base : Nat) : Op (σ := Unit) F base (fun _ => False) (fun _ _ => True) (fun _ => False) (fun _ _ => []) (fun _ _ => ()) (fun _ => 1) where
  low i e := e.elim
  keep _ _ _ _ _ := trivial
  next _ _ e := e.elim
  less _ _ e := e.elim
  pos _ := by omega
  tells _ e := e.elim
def seven : Ent := (3, -1, 7)
def two : Ent := (3, -1, 2)
/-- what Next tells of these -/
theorem lives_next {w w1 : World} {wb hb : Nat} {T : Nat → Prop} {F : Value} {d : Array Ent} {e : Ending} (hp : d.toList.Perm [seven, two]) {base : Nat} (h : Within (σ := Unit) F base wb hb T (fun _ => False) (fun _ _ => True) (fun _ _ => []) (fun _ _ => ()) () d 0 w maxI e w1) :
    e = .returned (.tuple #[.agg #[.int .u64 2, .int .i64 3], .bool true]) ∧ ∃ d' T', Wk w1 base wb hb T' F d' 0 ∧ lowT d' = 3 := by
  obtain ⟨k, s1, l1, h1, -, h3⟩ := h
  have hm : ∀ x ∈ d.toList, x = seven ∨ x = two := fun x hx => by simpa using hp.subset hx
  obtain ⟨rfl, rfl⟩ := h1.none fun x hx => by
    rcases hm x hx with rfl | rfl
    · decide
    · decide
  rcases h3 with ⟨x, rest, a1, a2, a3, a4, rfl, d', a6, T', a7, -⟩ | ⟨a1, -⟩
  · rcases hm x (a4.symm.subset (List.mem_cons_self ..)) with rfl | rfl
    · exact ((a1 two (hp.symm.subset (by simp))) (.inr ⟨rfl, .inr (.inr ⟨by decide, by decide, by decide⟩)⟩)).elim
    · refine ⟨rfl, d', T', a7, ?_⟩
      have p1 := (a4.symm.trans hp).trans (List.Perm.swap two seven [])
      have p2 := a6.trans ((List.perm_cons two).1 p1)
      have e1 : d'.toList = [seven] := List.perm_singleton.1 p2
      have e2 : d' = #[seven] := by rw [← Array.toArray_toList (xs := d'), e1]
      rw [e2]
      rfl
  · have := a1 two (hp.symm.subset (by simp))
    exact (by unfold two maxI at this; omega : False).elim
end Go.Proofs.YtpmjpolnoaigoaaGreat.fro
