/-
  Program-free: rows of structs of k cells each, flat: which cell stands where, one put in another's place, a first part, a last one.
-/
import Derived.Test.YtikdnpfnijhkkaaOnly
import Derived.Laws.IdiomCopy
namespace Go.Proofs.Ytikdnpfnijhkkaa.flat
open Go.RowKit bytes only

section
variable {α : Type} {E : α → List Value} {k : Nat}
theorem flat_length (hk : ∀ x, (E x).length = k) (l : List α) : (l.flatMap E).length = l.length * k := by
  induction l with
  | nil => simp
  | cons x l ih => simp only [List.flatMap_cons, List.length_append, hk, ih, List.length_cons]; rw [Nat.add_mul]; omega
theorem flat_get (hk : ∀ x, (E x).length = k) (l : List α) (i j : Nat) (hi : i < l.length) (hj : j < k) : (l.flatMap E)[i * k + j]? = (E l[i])[j]? := by
  induction l generalizing i with
  | nil => simp at hi
  | cons x l ih =>
    rw [List.flatMap_cons]
    cases i with
    | zero => rw [Nat.zero_mul, Nat.zero_add, List.getElem?_append_left (by rw [hk]; exact hj)]; rfl
    | succ i =>
      rw [List.getElem?_append_right (by rw [hk, Nat.add_mul]; omega), hk, show (i + 1) * k + j - k = i * k + j by rw [Nat.add_mul]; omega]
      rw [ih i (by simpa using hi)]
      rfl
theorem flat_set (hk : ∀ x, (E x).length = k) (l : List α) (i : Nat) (y : α) (hi : i < l.length) : (l.set i y).flatMap E = (l.flatMap E).take (i * k) ++ E y ++ (l.flatMap E).drop (i * k + k) := by
  induction l generalizing i with
  | nil => simp at hi
  | cons x l ih =>
    cases i with
    | zero =>
      rw [List.set_cons_zero, List.flatMap_cons, List.flatMap_cons, Nat.zero_mul, List.take_zero, Nat.zero_add]
      have : (E x ++ l.flatMap E).drop k = l.flatMap E := by rw [← hk x]; exact List.drop_left
      rw [this]
      rfl
    | succ i =>
      rw [List.set_cons_succ, List.flatMap_cons, List.flatMap_cons, ih i (by simpa using hi)]
      have e1 : (E x ++ l.flatMap E).take ((i + 1) * k) = E x ++ (l.flatMap E).take (i * k) := by
        rw [List.take_append, hk, List.take_of_length_le (by rw [hk, Nat.add_mul]; omega), show (i + 1) * k - k = i * k by rw [Nat.add_mul]; omega]
      have e2 : (E x ++ l.flatMap E).drop ((i + 1) * k + k) = (l.flatMap E).drop (i * k + k) := by
        rw [List.drop_append, hk, List.drop_of_length_le (by rw [hk, Nat.add_mul]; omega), show (i + 1) * k + k - k = i * k + k by rw [Nat.add_mul]; omega]
        rfl
      rw [e1, e2, List.append_assoc, List.append_assoc, List.append_assoc]
theorem flat_take (hk : ∀ x, (E x).length = k) (l : List α) (m : Nat) : (l.flatMap E).take (m * k) = (l.take m).flatMap E := by
  induction l generalizing m with
  | nil => simp
  | cons x l ih =>
    cases m with
    | zero => simp
    | succ m =>
      rw [List.take_succ_cons, List.flatMap_cons, List.flatMap_cons, List.take_append, hk, List.take_of_length_le (by rw [hk, Nat.add_mul]; omega), show (m + 1) * k - k = m * k by rw [Nat.add_mul]; omega, ih m]
end
/-- a row of the call's own, of things of k cells each -/
def FRow {α : Type} (E : α → List Value) (k : Nat) (e : TypeId) (w : World) (base g c : Nat) (d : Array α) : Prop := w.ownsRow base e k (.slice (some ⟨g, 0, none⟩) d.size c) d.size (d.toList.flatMap E)
section
variable {α : Type} {E : α → List Value} {k : Nat} {e : TypeId} {w w' : World} {base g c : Nat} {d : Array α}
theorem FRow.lt (h : FRow E k e w base g c d) : g < w.heap.size := (own_lt h (g := g) rfl).2
theorem FRow.ge (h : FRow E k e w base g c d) : base ≤ g := (own_lt h (g := g) rfl).1
theorem FRow.cell [Inhabited α] (h : FRow E k e w base g c d) (hk : ∀ x, (E x).length = k) (i j : Nat) (hi : i < d.size) (hj : j < k) : w.cell? ⟨g, i * k + j, none⟩ = (E d[i]!)[j]? := by
  have hle : i * k + j < d.size * k := Nat.lt_of_lt_of_le (Nat.add_lt_add_left hj _) (by rw [← Nat.succ_mul]; exact Nat.mul_le_mul_right _ hi)
  rw [World.ownsRow.cellAt h _ hle, flat_get hk _ i j (by simpa using hi) hj, getElem!_pos d i hi]
  rfl
theorem FRow.frozen (h : FRow E k e w base g c d) (i : Nat) : w.frozen? ⟨g, i, none⟩ = false := by
  obtain ⟨hl, hn | ⟨g', cap, cur, hv, hg, hh, hnc, hcm, hcs, hx⟩⟩ := h
  · simp at hn
  · injection hv with e1 e2 e3
    injection e1 with e1
    injection e1 with e1
    subst e1
    exact Blk.frozen (w := w) (g := g) (t := e) (cs := cur) hh i
theorem FRow.only {S : Nat → Prop} (h : FRow E k e w base g c d) (o : Only S w w') (hg : ¬ S g) : FRow E k e w' base g c d := own_only h o fun g' e => by
  simp only [Value.ownBlock, Option.some.injEq] at e
  rwa [← e]
theorem FRow.below {B : Nat} (h : FRow E k e w base g c d) (o : Below B w w') (hB : w.heap.size ≤ B) : FRow E k e w' base g c d := own_below h o hB
theorem FRow.drew_ (h : FRow E k e w base g c d) : FRow E k e w.drew base g c d := h
/-- one of the row's cells, whatever is put there: what the row holds, cell by cell -/
theorem own_set {n : Nat} {xs : List Value} (h : w.ownsRow base e k (.slice (some ⟨g, 0, none⟩) n c) n xs) (i : Nat) (u : Value) : (w.setCell ⟨g, i, none⟩ u).ownsRow base e k (.slice (some ⟨g, 0, none⟩) n c) n (xs.set i u) := by
  obtain ⟨hl, hn | ⟨g', cap, cur, hv, hg, hh, hnc, hcm, hcs, hx⟩⟩ := h
  · simp at hn
  · injection hv with e1 e2 e3
    injection e1 with e1
    injection e1 with e1
    subst e1 e3
    refine ⟨by simpa using hl, .inr ⟨g, c, cur.setIfInBounds i u, rfl, hg, ?_, hnc, hcm, by simpa using hcs, ?_⟩⟩
    · simp [World.setCell, Array.getElem?_modify, hh]
    · rw [Array.toList_setIfInBounds, List.take_set, hx]
theorem list_sets (us : List Value) : ∀ (xs : List Value) (i : Nat), i + us.length ≤ xs.length → ∀ {w : World} {n : Nat}, w.ownsRow base e k (.slice (some ⟨g, 0, none⟩) n c) n xs →
    (w.setCells g i us).ownsRow base e k (.slice (some ⟨g, 0, none⟩) n c) n (xs.take i ++ us ++ xs.drop (i + us.length)) := by
  induction us with
  | nil => intro xs i hi w n h; simpa [World.setCells] using h
  | cons u us ih =>
    intro xs i hi w n h
    simp only [List.length_cons] at hi
    have h2 := ih (xs.set i u) (i + 1) (by simp; omega) (own_set h i u)
    have e1 : (xs.set i u).take (i + 1) = xs.take i ++ [u] := by
      rw [List.take_succ_eq_append_getElem (by simp; omega), List.take_set_of_le (Nat.le_refl i)]
      simp
    have e2 : (xs.set i u).drop (i + 1 + us.length) = xs.drop (i + (u :: us).length) := by
      rw [List.drop_set_of_lt (by omega)]
      congr 1
      simp only [List.length_cons]
      omega
    rw [e1, e2] at h2
    simpa [World.setCells] using h2
/-- one thing put in another's place -/
theorem FRow.set_ (h : FRow E k e w base g c d) (hk : ∀ x, (E x).length = k) (i : Nat) (x : α) (hi : i < d.size) : FRow E k e (w.setCells g (i * k) (E x)) base g c (d.setIfInBounds i x) := by
  have hle : i * k + k ≤ d.size * k := by rw [← Nat.succ_mul]; exact Nat.mul_le_mul_right _ hi
  have h2 := list_sets (E x) (d.toList.flatMap E) (i * k) (by rw [flat_length hk, hk]; simpa using hle) h
  unfold FRow
  rw [Array.size_setIfInBounds, Array.toList_setIfInBounds, flat_set hk _ _ _ (by simpa using hi)]
  rwa [hk] at h2
/-- a row's first part -/
theorem own_takeK {n : Nat} {xs : List Value} (h : w.ownsRow base e k (.slice (some ⟨g, 0, none⟩) n c) n xs) (m : Nat) (hm : m ≤ n) : w.ownsRow base e k (.slice (some ⟨g, 0, none⟩) m c) m (xs.take (m * k)) := by
  have hmk : m * k ≤ n * k := Nat.mul_le_mul_right _ hm
  obtain ⟨hl, hn | ⟨g', cap, cur, hv, hg, hh, hnc, hcm, hcs, hx⟩⟩ := h
  · simp at hn
  · injection hv with e1 e2 e3
    injection e1 with e1
    injection e1 with e1
    subst e1 e3
    exact ⟨by simp; omega, .inr ⟨g, c, cur, rfl, hg, hh, by omega, hcm, hcs, by rw [← hx, List.take_take, Nat.min_eq_left hmk]⟩⟩
end

/-! ### append of one thing onto a row of the call's own -/
/-- an element type of k cells -/
def ElemK (P : Program) (e : TypeId) (k bytes : Nat) : Prop := ∃ i z, P.info? e = some i ∧ i.zero = some z ∧ i.size = k ∧ i.bytes = bytes ∧ z.cells.size = k
theorem elemK_mk {P : Program} {e : TypeId} {z : Value} {k bytes : Nat} (h : (P.info? e).map (fun i => (i.zero, i.size, i.bytes)) = some (some z, k, bytes)) (hz : z.cells.size = k) : ElemK P e k bytes := by
  obtain ⟨i, hi, h0, h1, h2⟩ := info_parts h
  exact ⟨i, z, hi, h0, h1, h2, hz⟩
section
variable {P : Program}
theorem run_append_k (w : World) (base : Nat) (t ty e : TypeId) (k bytes : Nat) (ht : P.underlying t = some (.slice e)) (he : ElemK P e k bytes) (hk : 0 < k)
    (v : Value) (n : Nat) (xs : List Value) (hown : w.ownsRow base e k v n xs) (b c : Nat) (us : List Value) (tb : TypeId) (hb : Blk w b tb us.toArray) (hl : us.length = k) (h1 : ∀ u ∈ us, u.oneCell' = true)
    (hbytes : (n + 1) * bytes ≤ 140737488355328) (h63 : n + 1 ≤ maxLen) (hbase : base ≤ w.heap.size) :
    ∃ v' w', (Builtin.append_ #[t, t] ty #[v, .slice (some ⟨b, 0, none⟩) 1 c]).run P w = .ok v' w' ∧ w'.ownsRow base e k v' (n + 1) (xs ++ us) ∧ w.grownBy w' v.ownBlock ∧ (v'.ownBlock = v.ownBlock ∨ v'.ownBlock = some w.heap.size) := by
  obtain ⟨i, z, hi, hz, hsize, hby, hzs⟩ := he
  obtain ⟨v', w', hrun, h2, h3, _, h5⟩ := run_append_own_at (P := P) w base t ty e i z k bytes ht hi hz hsize hby hzs hk v n xs hown ⟨b, 0, none⟩ 1 c us (by omega) (fun j u hj => by
    have : (⟨b, 0, none⟩ : Addr).add j = ⟨b, j, none⟩ := by simp [Addr.add]; intro h; exact h.symm
    rw [this, hb.cell j]
    simpa using hj) h1 h63 hbytes hbase
  exact ⟨v', w', hrun, h2, h3, h5⟩
theorem wp_append_k (w : World) {o : Oper} {a : Act} {K : Act → World → Prop} {Q : Exit → Act → World → Prop} (s x : Operand) (t : TypeId)
    (ho : o.op = .call { callee := .builtin .append, args := #[s, x], argTypes := #[t, t] }) (base : Nat) (e : TypeId) (k bytes : Nat) (ht : P.underlying t = some (.slice e)) (he : ElemK P e k bytes) (hk : 0 < k)
    (v : Value) (n : Nat) (xs : List Value) (hs : a.eval s = v) (hown : w.ownsRow base e k v n xs) (b c : Nat) (us : List Value) (tb : TypeId) (hb : Blk w b tb us.toArray) (hx : a.eval x = .slice (some ⟨b, 0, none⟩) 1 c) (hl : us.length = k)
    (h1 : ∀ u ∈ us, u.oneCell' = true) (hbytes : (n + 1) * bytes ≤ 140737488355328) (h63 : n + 1 ≤ maxLen) (hbase : base ≤ w.heap.size)
    (h : ∀ v' w', w'.ownsRow base e k v' (n + 1) (xs ++ us) → w.grownBy w' v.ownBlock → (v'.ownBlock = v.ownBlock ∨ v'.ownBlock = some w.heap.size) → K (a.put o.dst v') w') : o.wp P a w K Q := by
  obtain ⟨v', w', hrun, h2, h3, h4⟩ := run_append_k (P := P) w base t o.type e k bytes ht he hk v n xs hown b c us tb hb hl h1 hbytes h63 hbase
  unfold Oper.wp execOp
  simp only [ho, resolve, invoke, builtin, Sem.run_bind, Sem.run_pure, Result.andThen_ok, List.map_toArray, List.map_cons, List.map_nil, hs, hx, hrun]
  exact h v' w' h2 h3 h4
theorem wpList_append_k (w : World) {ops : Array Oper} {rest : List Oper} {o : Oper} {a : Act} {Q : Exit → Act → World → Prop} (hgd : o.guard = none) (s x : Operand) (t : TypeId)
    (ho : o.op = .call { callee := .builtin .append, args := #[s, x], argTypes := #[t, t] }) (base : Nat) (e : TypeId) (k bytes : Nat) (ht : P.underlying t = some (.slice e)) (he : ElemK P e k bytes) (hk : 0 < k)
    (v : Value) (n : Nat) (xs : List Value) (hs : a.eval s = v) (hown : w.ownsRow base e k v n xs) (b c : Nat) (us : List Value) (tb : TypeId) (hb : Blk w b tb us.toArray) (hx : a.eval x = .slice (some ⟨b, 0, none⟩) 1 c) (hl : us.length = k)
    (h1 : ∀ u ∈ us, u.oneCell' = true) (hbytes : (n + 1) * bytes ≤ 140737488355328) (h63 : n + 1 ≤ maxLen) (hbase : base ≤ w.heap.size)
    (h : ∀ v' w', w'.ownsRow base e k v' (n + 1) (xs ++ us) → w.grownBy w' v.ownBlock → (v'.ownBlock = v.ownBlock ∨ v'.ownBlock = some w.heap.size) → wpList P ops Q rest (a.put o.dst v') w') : wpList P ops Q (o :: rest) a w :=
  wpList_plain hgd fun _ hK => wp_append_k w s x t ho base e k bytes ht he hk v n xs hs hown b c us tb hb hx hl h1 hbytes h63 hbase fun v' w' h2 h3 h4 => hK _ _ (h v' w' h2 h3 h4)
theorem step_append_k (w : World) {ops : Array Oper} {o : Oper} {a : Act} {K : Act → World → Prop} {Q : Exit → Act → World → Prop} {E : Prop} (hgd : o.guard = none) (s x : Operand) (t : TypeId)
    (ho : o.op = .call { callee := .builtin .append, args := #[s, x], argTypes := #[t, t] }) (base : Nat) (e : TypeId) (k bytes : Nat) (ht : P.underlying t = some (.slice e)) (he : ElemK P e k bytes) (hk : 0 < k)
    (v : Value) (n : Nat) (xs : List Value) (hs : a.eval s = v) (hown : w.ownsRow base e k v n xs) (b c : Nat) (us : List Value) (tb : TypeId) (hb : Blk w b tb us.toArray) (hx : a.eval x = .slice (some ⟨b, 0, none⟩) 1 c) (hl : us.length = k)
    (h1 : ∀ u ∈ us, u.oneCell' = true) (hbytes : (n + 1) * bytes ≤ 140737488355328) (h63 : n + 1 ≤ maxLen) (hbase : base ≤ w.heap.size)
    (h : ∀ v' w', w'.ownsRow base e k v' (n + 1) (xs ++ us) → w.grownBy w' v.ownBlock → (v'.ownBlock = v.ownBlock ∨ v'.ownBlock = some w.heap.size) → K (a.put o.dst v') w') :
    if Region.wanted o (yielded ops a.tmps) = true then Oper.wp P o a w K Q else E := by
  have hw : Region.wanted o (yielded ops a.tmps) = true := by simp [Region.wanted, hgd]
  rw [if_pos hw]
  exact wp_append_k w s x t ho base e k bytes ht he hk v n xs hs hown b c us tb hb hx hl h1 hbytes h63 hbase h
/-- 'clear(s)', s of one thing of k cells -/
theorem run_clear_k (w : World) (t e ty : TypeId) (z : Value) (ht : P.underlying t = some (.slice e)) (hv : ∀ w, (zeroValue e).run P w = .ok z w) (h1 : ∀ u ∈ z.cells.toList, u.oneCell' = true) (b o c : Nat)
    (hc : ∀ j, j < z.cells.size → (w.cell? ⟨b, o + j, none⟩).isSome = true) (hf : ∀ j, j < z.cells.size → w.frozen? ⟨b, o + j, none⟩ = false) :
    (Builtin.clear_ #[t] ty #[.slice (some ⟨b, o, none⟩) 1 c]).run P w = .ok (.tuple #[]) (w.setCells b o z.cells.toList) := by
  have hzc : (Builtin.zeroCells z.cells 1).toList = z.cells.toList := by
    apply List.ext_getElem
    · simp [Builtin.zeroCells]
    · intro i h2 h3
      have h4 : i < z.cells.size := by simpa using h3
      simp [Builtin.zeroCells, Nat.mod_eq_of_lt h4, h4]
  have hst := run_storeCells_cells (P := P) b o z.cells.toList 0 w (by simpa using hc) (by simpa using hf) h1
  simp only [Nat.add_zero] at hst
  simp [Builtin.clear_, run_underlying ht, hv, hzc, hst]
end
end Go.Proofs.Ytikdnpfnijhkkaa.flat
