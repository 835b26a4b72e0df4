/-
  Program-free: rows of things of k cells each, read by slices: append of as many things as there are onto a row of the call's own; cells of a thing; what came in.
-/
import Derived.Test.YtikdnpfnijhkkaaFlat
import Derived.Test.YtikdnpfnijhkkaaCame
import Derived.Lib.OwnBridge
import Derived.Shelf.SlSortCmp.InsertionK
namespace Go.Proofs.Ytikdnpfnijhkkaa.flat
open Go.RowKit bytes only came
section
variable {P : Program}
theorem run_append_slk (w : World) (base : Nat) (t ty e : TypeId) (k bytes : Nat) (ht : P.underlying t = some (.slice e)) (he : ElemK P e k bytes) (hk : 0 < k)
    (v : Value) (n : Nat) (xs : List Value) (hown : w.ownsRow base e k v n xs) (B : Nat) (A : Option Addr) (m c : Nat) (news : List Value) (hr : Sl w B A news) (hl : news.length = m * k) (h1 : ∀ u ∈ news, u.oneCell' = true)
    (hbytes : (n + m) * bytes ≤ 140737488355328) (h63 : n + m ≤ maxLen) (hbase : base ≤ w.heap.size) :
    ∃ v' w', (Builtin.append_ #[t, t] ty #[v, .slice A m c]).run P w = .ok v' w' ∧ w'.ownsRow base e k v' (n + m) (xs ++ news) ∧ w.grownBy w' v.ownBlock ∧ (v'.ownBlock = v.ownBlock ∨ v'.ownBlock = some w.heap.size) := by
  obtain ⟨i, z, hi, hz, hsize, hby, hzs⟩ := he
  rcases A with _ | ad
  · have h0 : news = [] := by
      rcases news with _ | ⟨u, r⟩
      · rfl
      · obtain ⟨ad, h, _⟩ := hr 0 u rfl
        cases h
    subst h0
    obtain rfl : m = 0 := by
      rcases Nat.eq_zero_or_pos m with h | h
      · exact h
      · have := Nat.mul_pos h hk
        simp at hl
        omega
    refine ⟨v, w, ?_, by simpa using hown, World.grownBy.refl w _, .inl rfl⟩
    obtain ⟨A', c', rfl, hc'⟩ := own_slice hown
    rcases A' with _ | a' <;> simp [Builtin.append_, run_underlying ht, sizeOf, typeInfo, hi, Builtin.lenOf, Builtin.firstCells, hc', storeCells]
  · have hcells : ∀ j u, news[j]? = some u → w.cell? (ad.add j) = some u := fun j u hu => by
      obtain ⟨ad', h, _, hc⟩ := hr j u hu
      injection h with h
      subst h
      exact hc
    obtain ⟨v', w', hrun, h2, h3, _, h5⟩ := run_append_own_at (P := P) w base t ty e i z k bytes ht hi hz hsize hby hzs hk v n xs hown ad m c news hl hcells h1 h63 hbytes hbase
    exact ⟨v', w', hrun, h2, h3, h5⟩
theorem wp_append_slk (w : World) {o : Oper} {a : Act} {K : Act → World → Prop} {Q : Exit → Act → World → Prop} (s x : Operand) (t : TypeId)
    (ho : o.op = .call { callee := .builtin .append, args := #[s, x], argTypes := #[t, t] }) (base : Nat) (e : TypeId) (k bytes : Nat) (ht : P.underlying t = some (.slice e)) (he : ElemK P e k bytes) (hk : 0 < k)
    (v : Value) (n : Nat) (xs : List Value) (hs : a.eval s = v) (hown : w.ownsRow base e k v n xs) (B : Nat) (A : Option Addr) (m c : Nat) (news : List Value) (hx : a.eval x = .slice A m c) (hr : Sl w B A news) (hl : news.length = m * k)
    (h1 : ∀ u ∈ news, u.oneCell' = true) (hbytes : (n + m) * bytes ≤ 140737488355328) (h63 : n + m ≤ maxLen) (hbase : base ≤ w.heap.size)
    (h : ∀ v' w', w'.ownsRow base e k v' (n + m) (xs ++ news) → w.grownBy w' v.ownBlock → (v'.ownBlock = v.ownBlock ∨ v'.ownBlock = some w.heap.size) → K (a.put o.dst v') w') : o.wp P a w K Q := by
  obtain ⟨v', w', hrun, h2, h3, h4⟩ := run_append_slk (P := P) w base t o.type e k bytes ht he hk v n xs hown B A m c news hr hl h1 hbytes h63 hbase
  unfold Oper.wp execOp
  simp only [ho, resolve, invoke, builtin, Sem.run_bind, Sem.run_pure, Result.andThen_ok, List.map_toArray, List.map_cons, List.map_nil, hs, hx, hrun]
  exact h v' w' h2 h3 h4
theorem wpList_append_slk (w : World) {ops : Array Oper} {rest : List Oper} {o : Oper} {a : Act} {Q : Exit → Act → World → Prop} (hgd : o.guard = none) (s x : Operand) (t : TypeId)
    (ho : o.op = .call { callee := .builtin .append, args := #[s, x], argTypes := #[t, t] }) (base : Nat) (e : TypeId) (k bytes : Nat) (ht : P.underlying t = some (.slice e)) (he : ElemK P e k bytes) (hk : 0 < k)
    (v : Value) (n : Nat) (xs : List Value) (hs : a.eval s = v) (hown : w.ownsRow base e k v n xs) (B : Nat) (A : Option Addr) (m c : Nat) (news : List Value) (hx : a.eval x = .slice A m c) (hr : Sl w B A news) (hl : news.length = m * k)
    (h1 : ∀ u ∈ news, u.oneCell' = true) (hbytes : (n + m) * bytes ≤ 140737488355328) (h63 : n + m ≤ maxLen) (hbase : base ≤ w.heap.size)
    (h : ∀ v' w', w'.ownsRow base e k v' (n + m) (xs ++ news) → w.grownBy w' v.ownBlock → (v'.ownBlock = v.ownBlock ∨ v'.ownBlock = some w.heap.size) → wpList P ops Q rest (a.put o.dst v') w') : wpList P ops Q (o :: rest) a w :=
  wpList_plain hgd fun _ hK => wp_append_slk w s x t ho base e k bytes ht he hk v n xs hs hown B A m c news hx hr hl h1 hbytes h63 hbase fun v' w' h2 h3 h4 => hK _ _ (h v' w' h2 h3 h4)
theorem step_append_slk (w : World) {ops : Array Oper} {o : Oper} {a : Act} {K : Act → World → Prop} {Q : Exit → Act → World → Prop} {E : Prop} (hgd : o.guard = none) (s x : Operand) (t : TypeId)
    (ho : o.op = .call { callee := .builtin .append, args := #[s, x], argTypes := #[t, t] }) (base : Nat) (e : TypeId) (k bytes : Nat) (ht : P.underlying t = some (.slice e)) (he : ElemK P e k bytes) (hk : 0 < k)
    (v : Value) (n : Nat) (xs : List Value) (hs : a.eval s = v) (hown : w.ownsRow base e k v n xs) (B : Nat) (A : Option Addr) (m c : Nat) (news : List Value) (hx : a.eval x = .slice A m c) (hr : Sl w B A news) (hl : news.length = m * k)
    (h1 : ∀ u ∈ news, u.oneCell' = true) (hbytes : (n + m) * bytes ≤ 140737488355328) (h63 : n + m ≤ maxLen) (hbase : base ≤ w.heap.size)
    (h : ∀ v' w', w'.ownsRow base e k v' (n + m) (xs ++ news) → w.grownBy w' v.ownBlock → (v'.ownBlock = v.ownBlock ∨ v'.ownBlock = some w.heap.size) → K (a.put o.dst v') w') :
    if Region.wanted o (yielded ops a.tmps) = true then Oper.wp P o a w K Q else E := by
  have hw : Region.wanted o (yielded ops a.tmps) = true := by simp [Region.wanted, hgd]
  rw [if_pos hw]
  exact wp_append_slk w s x t ho base e k bytes ht he hk v n xs hs hown B A m c news hx hr hl h1 hbytes h63 hbase h
end
section
variable {w w' : World} {B : Nat} {A : Option Addr} {e : TypeId} {k : Nat}
/-- a row of the call's own, read -/
theorem Sl.of_ownK {base n c : Nat} {xs : List Value} (h : w.ownsRow base e k (.slice A n c) n xs) : Sl w w.heap.size A xs := fun j u hj => by
  rcases h.2 with ⟨h', rfl⟩ | ⟨g, cap, cur, hv, _, hh, _⟩
  · have : xs = [] := List.eq_nil_of_length_eq_zero (by simpa using h.1)
    subst this
    simp at hj
  · injection hv with hA
    subst hA
    exact ⟨_, rfl, (Array.getElem?_eq_some_iff.1 hh).1, h.cells (g := g) rfl j u hj⟩
/-- things just made, one behind the other -/
theorem Sl.lit (w : World) (xs : List Value) (t : TypeId) : Sl (w.alloc (.cells xs.toArray t)) (w.alloc (.cells xs.toArray t)).heap.size (some ⟨w.heap.size, 0, none⟩) xs := fun j u hj =>
  ⟨_, rfl, by simp, by
    have : (⟨w.heap.size, 0, none⟩ : Addr).add j = ⟨w.heap.size, j, none⟩ := by simp [Addr.add]; intro h; exact h.symm
    rw [this, (Blk.new w t xs.toArray).cell j]
    simpa using hj⟩
theorem below_appendK {w wr w2 : World} {B : Nat} {v : Value} {base n : Nat} {xs : List Value} (hb : Below B w wr) (hB : B ≤ wr.heap.size) (hown : wr.ownsRow base e k v n xs) (hB2 : B ≤ base) (hg : wr.grownBy w2 v.ownBlock) : Below B w w2 :=
  hb.grown hg hB (fun i hi => Nat.le_trans hB2 (hown.lt i hi).1)
theorem below_appendK1 {w wr w2 : World} {B : Nat} {v : Value} {base n : Nat} {xs : List Value} (hb : Below B w wr) (hB : B ≤ wr.heap.size) (o : Obj) (hown : wr.ownsRow base e k v n xs) (hB2 : B ≤ base) (hg : (wr.alloc o).grownBy w2 v.ownBlock) : Below B w w2 :=
  (hb.alloc hB o).grown hg (by simp; omega) (fun i hi => Nat.le_trans hB2 (hown.lt i hi).1)
/-- a row that is read is one of places without a spot, as soon as there is something in it -/
theorem Sl.place {xs : List Value} (h : Sl w B A xs) (h0 : 0 < xs.length) : ∃ b o, A = some ⟨b, o, none⟩ ∧ b < B ∧ ∀ j (hj : j < xs.length), w.cell? ⟨b, o + j, none⟩ = some xs[j] := by
  obtain ⟨ad, rfl, hb, hc⟩ := h.addr h0
  have h1 := hc 0 h0
  have e0 : ad.add 0 = ad := by unfold Addr.add; simp
  rw [e0] at h1
  have hs := spot_none h1
  refine ⟨ad.block, ad.off, by rw [← hs], hb, fun j hj => ?_⟩
  have h2 := hc j hj
  rw [hs] at h2
  unfold Addr.add at h2
  split at h2
  · rename_i hz
    subst hz
    simpa using h2
  · simpa using h2
theorem Came.sl {α : Type} {N : Nat} {cells : α → List Value} {l : List α} (h : Came N cells w A l) (hN : 0 < N) (hc : ∀ a, (cells a).length = N) : Sl w w.heap.size A (l.flatMap cells) := fun j u hj => by
  have hlt := (List.getElem?_eq_some_iff.1 hj).1
  rw [flat_length hc] at hlt
  have hi : j / N < l.length := Nat.div_lt_of_lt_mul (by rw [Nat.mul_comm]; exact hlt)
  have hr : j % N < N := Nat.mod_lt _ hN
  have e : j / N * N + j % N = j := by rw [Nat.mul_comm]; exact Nat.div_add_mod j N
  obtain ⟨ad, rfl, hat⟩ := h (j / N) hi
  have h2 := hat (j % N) hr
  have h3 := flat_get hc l (j / N) (j % N) hi hr
  rw [e] at h2 h3
  rw [h3] at hj
  rw [hj] at h2
  refine ⟨ad, rfl, ?_, h2⟩
  have := World.block_lt_of_cell? w _ h2
  rwa [blk_add] at this
end
/-! ### what a sort leaves -/
open Go.Sort Go.Shelf in
theorem below_sortK {α : Type} [Inhabited α] {enc : α → List Value} {k B g off n : Nat} {w0 w : World} {d : Array α} {os : Array Obj} (h : Below B w0 w) (hg : B ≤ g) (hw : B ≤ w.heap.size) : Below B w0 (sortWorldK enc k w g off n d os) := by
  refine ⟨?_, ?_, ?_, ?_, fun i hi => ?_⟩
  · exact h.os
  · exact h.tape
  · exact h.output
  · exact Nat.le_trans h.size (size_sortWorldK_c enc k w g off n d os)
  · rw [← h.block i hi]
    have hs : (putRowK enc k (Sort.ahead w n) g off d).heap.size = w.heap.size := by rw [size_putRowK]; rfl
    have e1 : (sortWorldK enc k w g off n d os).heap[i]? = (putRowK enc k (Sort.ahead w n) g off d).heap[i]? := by
      show ((putRowK enc k (Sort.ahead w n) g off d).heap ++ os)[i]? = _
      rw [Array.getElem?_append_left (by omega)]
    rw [e1]
    show (w.heap.modify g _)[i]? = _
    rw [Array.getElem?_modify, if_neg (by omega)]
open Go.Sort in
theorem holdsK_of_own {α : Type} [Inhabited α] {E : α → List Value} {k g c base : Nat} {e : TypeId} {w : World} {d : Array α} (hk : ∀ x, (E x).length = k) (h : FRow E k e w base g c d) : HoldsK E k w g 0 d := fun j hj => by
  have hj2 : j < d.size * k := by simpa using hj
  rcases Nat.eq_zero_or_pos k with h0 | h0
  · subst h0; simp at hj2
  have hi : j / k < d.size := Nat.div_lt_of_lt_mul (by rw [Nat.mul_comm]; exact hj2)
  have hr : j % k < k := Nat.mod_lt _ h0
  have e : j / k * k + j % k = j := by rw [Nat.mul_comm]; exact Nat.div_add_mod j k
  have hc := h.cell hk (j / k) (j % k) hi hr
  rw [e] at hc
  refine ⟨?_, by rw [Nat.zero_add]; exact h.frozen j⟩
  rw [Nat.zero_add, hc, get_flatK _ _ _ _ hj2]
  have hl : j % k < (E d[j / k]!).length := by rw [hk]; exact hr
  rw [List.getElem?_eq_getElem hl, getElem!_pos (E d[j / k]!) (j % k) hl]
  rfl
open Go.Sort in
theorem Sl.of_holdsK {α : Type} [Inhabited α] {E : α → List Value} {k g : Nat} {w : World} {d : Array α} (hk : ∀ x, (E x).length = k) (h : HoldsK E k w g 0 d) (hg : g < w.heap.size) : Sl w w.heap.size (some ⟨g, 0, none⟩) (d.toList.flatMap E) := fun j u hj => by
  have hlt := (List.getElem?_eq_some_iff.1 hj).1
  rw [flat_length hk] at hlt
  have hj2 : j < d.size * k := by simpa using hlt
  rcases Nat.eq_zero_or_pos k with h0 | h0
  · subst h0; simp at hj2
  have hi : j / k < d.size := Nat.div_lt_of_lt_mul (by rw [Nat.mul_comm]; exact hj2)
  have hr : j % k < k := Nat.mod_lt _ h0
  have e : j / k * k + j % k = j := by rw [Nat.mul_comm]; exact Nat.div_add_mod j k
  have h3 := flat_get hk d.toList (j / k) (j % k) (by simpa using hi) hr
  rw [e] at h3
  have hc := (h.cell hi hr).1
  rw [Nat.zero_add, e] at hc
  refine ⟨_, rfl, hg, ?_⟩
  have e2 : (⟨g, 0, none⟩ : Addr).add j = ⟨g, j, none⟩ := by simp [Addr.add]; intro h; exact h.symm
  rw [e2, hc]
  have hl : j % k < (E d[j / k]!).length := by rw [hk]; exact hr
  rw [h3, List.getElem?_eq_getElem (by rw [hk]; exact hr)] at hj
  injection hj with hj
  rw [← hj, getElem!_pos (E d[j / k]!) (j % k) hl]
  congr 1
  simp only [getElem!_pos d (j / k) hi, Array.getElem_toList]
end Go.Proofs.Ytikdnpfnijhkkaa.flat
