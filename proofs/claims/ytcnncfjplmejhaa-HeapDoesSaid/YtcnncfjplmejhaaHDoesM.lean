/-
  What the law HeapDoes keeps from deed to deed.
-/
import Derived.Test.YtcnncfjplmejhaaHAll
import Derived.Test.YtcnncfjplmejhaaHLives
import Derived.Test.YtcnncfjplmejhaaCame
namespace Go.Proofs.Ytcnncfjplmejhaa.heapDoes
open Go.RowKit law bytes only heapM heap put came Go.Sort Go.Shelf
open Go.ChangeShapes Go.WideShapes Go.Deep Go.ChangeAt
set_option linter.unusedVariables false

/-! ### rising rows -/
theorem rise_eq : ∀ a b : List Int, a.Perm b → a.Pairwise (· ≤ ·) → b.Pairwise (· ≤ ·) → a = b
  | [], b, h, _, _ => (List.nil_perm.1 h).symm
  | x :: t, [], h, _, _ => by have := h.length_eq; simp at this
  | x :: t, y :: s, h, ha, hb => by
    obtain ⟨a1, a2⟩ := List.pairwise_cons.1 ha
    obtain ⟨b1, b2⟩ := List.pairwise_cons.1 hb
    have h1 : y ≤ x := by
      rcases List.mem_cons.1 (h.subset (List.mem_cons_self ..)) with e | e
      · omega
      · exact b1 x e
    have h2 : x ≤ y := by
      rcases List.mem_cons.1 (h.symm.subset (List.mem_cons_self ..)) with e | e
      · omega
      · exact a1 y e
    obtain rfl : x = y := by omega
    rw [rise_eq t s (List.Perm.cons_inv h) a2 b2]
theorem sorted_is {d R : Array Int} {xs : List Int} (hp : PermIn 0 d.size d R) (hs : SortedIn (lf cI) 0 d.size R) (hx : xs.Perm d.toList) (hr : xs.Pairwise (· ≤ ·)) : R.toList = xs := by
  refine rise_eq _ _ ?_ ?_ hr
  · have h := hp.2.2
    have e1 : R.extract 0 d.size = R := by rw [← hp.1]; simp
    have e2 : d.extract 0 d.size = d := by simp
    rw [e1, e2] at h
    exact h.trans hx.symm
  · rw [List.pairwise_iff_getElem]
    intro i j hi hj hij
    have hi2 : i < R.size := by simpa using hi
    have hj2 : j < R.size := by simpa using hj
    have h := hs i j (Nat.zero_le _) hij (by rw [← hp.1]; exact hj2)
    rw [cI_lt, getElem!_pos R i hi2, getElem!_pos R j hj2] at h
    simp only [Array.getElem_toList]
    simpa using h
theorem first_is {d : Array Int} {xs : List Int} (hH : Heap (lf cI) d) (h0 : 0 < d.size) (hx : xs.Perm d.toList) (hr : xs.Pairwise (· ≤ ·)) : ∃ t, xs = d[0]! :: t := by
  have hl := hx.length_eq
  match xs, hr, hx with
  | [], _, hx => simp at hl; omega
  | y :: t, hr, hx =>
    have hy : y ∈ d.toList := hx.subset (List.mem_cons_self ..)
    have hm : d[0]! ∈ d.toList := by rw [getElem!_pos d 0 h0]; exact Array.getElem_mem_toList _
    have h1 : y ≤ d[0]! := by
      rcases List.mem_cons.1 (hx.symm.subset hm) with e | e
      · omega
      · exact (List.pairwise_cons.1 hr).1 _ e
    have h2 : d[0]! ≤ y := by
      obtain ⟨j, hj, e⟩ := List.getElem_of_mem hy
      have h := hH.top cI_swo j j (Nat.le_refl _) (by simpa using hj)
      rw [cI_lt, getElem!_pos d j (by simpa using hj)] at h
      simp only [Array.getElem_toList] at e
      rw [e] at h
      simpa using h
    exact ⟨t, by rw [show y = d[0]! by omega]⟩
/-! ### a row that is read, away from what turns -/
def Rr (W : World) (M : Nat → Prop) (A : Option Addr) (xs : List Int) : Prop := ∀ j (hj : j < xs.length), ∃ ad, A = some ad ∧ ad.block < W.heap.size ∧ ¬ M ad.block ∧ W.cell? (ad.add j) = some (.int .i64 xs[j])
section
variable {W W2 : World} {M M2 : Nat → Prop} {A : Option Addr} {xs t : List Int} {x : Int}
theorem Rr.nil : Rr W M A [] := fun j hj => by simp at hj
theorem Rr.sl (h : Rr W M A xs) : Sl W W.heap.size A (il xs) := fun j u hj => by
  have hj2 : j < xs.length := by
    have := (List.getElem?_eq_some_iff.1 hj).1
    rwa [il_length] at this
  obtain ⟨ad, rfl, hb, _, hc⟩ := h j hj2
  simp only [il, List.getElem?_map, List.getElem?_eq_getElem hj2, Option.map_some, Option.some.injEq] at hj
  exact ⟨ad, rfl, hb, by rw [hc, hj]⟩
theorem Rr.step (h : Rr W M A xs) (o : Only M W W2) (hM : ∀ i, i < W.heap.size → ¬ M i → ¬ M2 i) : Rr W2 M2 A xs := fun j hj => by
  obtain ⟨ad, rfl, hb, hm, hc⟩ := h j hj
  refine ⟨ad, rfl, Nat.lt_of_lt_of_le hb o.size, hM _ hb hm, ?_⟩
  rw [World.cell?_of_block (o.block _ (by rw [blk_add]; exact hb) (by rw [blk_add]; exact hm))]
  exact hc
theorem Rr.tail (h : Rr W M A (x :: t)) : Rr W M (A.map (·.add 1)) t := fun j hj => by
  obtain ⟨ad, rfl, hb, hm, hc⟩ := h (j + 1) (by simpa using hj)
  exact ⟨ad.add 1, rfl, by rw [blk_add]; exact hb, by rw [blk_add]; exact hm, by rw [add_two, Nat.add_comm]; simpa using hc⟩
theorem Rr.first (h : Rr W M A (x :: t)) : ∃ g o, A = some ⟨g, o, none⟩ ∧ W.cell? ⟨g, o, none⟩ = some (.int .i64 x) := by
  obtain ⟨ad, rfl, hb, hm, hc⟩ := h 0 (by simp)
  obtain ⟨g, o, s⟩ := ad
  cases s with
  | none => exact ⟨g, o, rfl, by simpa [Addr.add] using hc⟩
  | some s =>
    have e := spot_none hc
    simp [Addr.add] at e
theorem Rr.made {n : Int} {e : Ending} {B : Nat} {c : Nat} (ho : W2.ownsRow B 3 1 (.slice A xs.length c) xs.length (il xs)) (hM : ∀ i, B ≤ i → ¬ M2 i) : Rr W2 M2 A xs := fun j hj => by
  obtain ⟨g, k, e, h1, h2, _⟩ := own_form ho (by omega)
  injection e with e1 e2 e3
  obtain ⟨ad, e4, hb, hc⟩ := Sl.int (Sl.of_own ho) hj
  refine ⟨ad, e4, hb, ?_, hc⟩
  rw [e1] at e4
  injection e4 with e4
  rw [← e4]
  exact hM _ h1
end
/-! ### a deed -/
def dC (x : Bool × Int) : List Value := [.bool x.1, .int .i64 x.2]
theorem dC_len (x : Bool × Int) : (dC x).length = 2 := rfl
section
variable {H : Type} {enc : TypeId × Value → H} {P : Program} {w : World} {base : Nat} {held : Bool}
theorem cells_deed {fuel : Nat} {t : TypeId} {f0 f1 : Field} {cs : List Value} {y : DataW H × List MemPlace} (ht : P.underlying t = some (.struct #[f0, f1])) (hone : oneCellFields P #[f0, f1] = true) (hC : P.cellsOf t = 2)
    (k0 : P.underlying f0.type = some .bool) (k1 : P.underlying f1.type = some (.int .i64))
    (h : DataW.trod enc P w base (fun _ => true) held fuel t cs = some y) : ∃ a : Bool × Int, cs = dC a ∧ True := by
  obtain ⟨xs, n, _, hx, hl, hlen, hg⟩ := DataW.trod_struct ht h
  obtain ⟨o0, q0⟩ := hone_of hone 0 f0 rfl
  obtain ⟨o1, q1⟩ := hone_of hone 1 f1 rfl
  match cs, hl.trans hC with
  | [c0, c1], _ =>
    match xs, hlen with
    | [y0, y1], _ =>
      have g0 : DataW.trod enc P w base (fun _ => true) held n f0.type [c0] = some y0 := by simpa [o0, q0] using hg 0 f0 rfl
      have g1 : DataW.trod enc P w base (fun _ => true) held n f1.type [c1] = some y1 := by simpa [o1, q1] using hg 1 f1 rfl
      obtain ⟨a, e0, -⟩ := DataW.trod_bool k0 g0
      obtain rfl := List.singleton_inj.1 e0
      obtain ⟨b, e1, -, -⟩ := DataW.trod_int k1 g1
      obtain rfl := List.singleton_inj.1 e1
      exact ⟨(a, b), rfl, trivial⟩
end
/-! ### the law's memory -/
structure St (w W : World) (v : Value) (d : Array Int) (A : Option Addr) (xs : List Int) : Prop where
  hp : Hp W w.heap.size w.heap.size v 7 d
  heap : Heap (lf cI) d
  below : Below w.heap.size w W
  rises : xs.Pairwise (· ≤ ·)
  perm : xs.Perm d.toList
  row : Rr W (Mine w.heap.size v) A xs
section
variable {w W W2 : World} {v v2 : Value} {d d2 : Array Int} {A A2 : Option Addr} {xs t : List Int} {c : Nat}
theorem St.len (h : St w W v d A xs) : xs.length = d.size := by have := h.perm.length_eq; simpa using this
/-- what methods leave is as it was below the law's own memory -/
theorem St.mine (h : St w W v d A xs) (ho : Only (Mine w.heap.size v) W W2) : Below w.heap.size w W2 :=
  h.below.trans (ho.below h.below.size fun i e => by
    rcases e with rfl | e
    · exact Nat.le_refl _
    · exact (own_lt h.hp.2.1 e).1)
theorem St.away (h : St w W v d A xs) (hm : Moved W v v2) : ∀ i, i < W.heap.size → ¬ Mine w.heap.size v i → ¬ Mine w.heap.size v2 i := fun i hi hn e => by
  rcases e with rfl | e
  · exact hn (.inl rfl)
  · rcases hm with e1 | ⟨g, e1, hg⟩
    · exact hn (.inr (by rw [← e1]; exact e))
    · rw [e1] at e
      injection e with e
      omega
theorem St.on (h : St w W v d A xs) (hb : Below W.heap.size W W2) : St w W2 v d A xs :=
  ⟨h.hp.below hb (Nat.le_refl _), h.heap, h.below.trans (hb.mono h.below.size), h.rises, h.perm, h.row.step (Only.of_below hb (Nat.le_refl _) _) fun _ _ e => e⟩
/-- behind a Pop -/
theorem St.popped {t : List Int} (h : St w W v d A (d[0]! :: t)) (ho : Only (Mine w.heap.size v) W W2) (hp : Hp W2 w.heap.size w.heap.size v2 7 d2) (hH : Heap (lf cI) d2) (hpe : (d[0]! :: d2.toList).Perm d.toList) (hv : v2.ownBlock = v.ownBlock) : St w W2 v2 d2 (A.map (·.add 1)) t :=
  ⟨hp, hH, h.mine ho, (List.pairwise_cons.1 h.rises).2, List.Perm.cons_inv (h.perm.trans hpe.symm), (h.row.step ho (h.away (.inl hv))).tail⟩
/-- behind a Push, ahead of the document's Put: the old row still reads -/
theorem St.pushed_row (h : St w W v d A xs) (ho : Only (Mine w.heap.size v) W W2) (hv : Moved W v v2) : Rr W2 (Mine w.heap.size v2) A xs := h.row.step ho (h.away hv)
theorem St.put {W3 : World} {n : Int} {c : Nat} (h : St w W v d A xs) (ho : Only (Mine w.heap.size v) W W2) (hp : Hp W2 w.heap.size w.heap.size v2 7 d2) (hH : Heap (lf cI) d2) (hpe : d2.toList.Perm (n :: d.toList))
    (hb : Below W2.heap.size W2 W3) (hown : W3.ownsRow W2.heap.size 3 1 (.slice A2 (xs.length + 1) c) (xs.length + 1) (il (putL n xs))) : St w W3 v2 d2 A2 (putL n xs) := by
  refine ⟨hp.below hb (Nat.le_refl _), hH, (h.mine ho).trans (hb.mono (h.mine ho).size), putL_rises n xs h.rises, (putL_perm n xs).trans ((h.perm.cons n).trans hpe.symm), ?_⟩
  rw [← putL_length n xs] at hown
  refine Rr.made (n := n) (e := .outgrown) hown fun i hi e => ?_
  rcases e with rfl | e
  · have := hp.lt; omega
  · have := (own_lt hp.2.1 e).2; omega
end
/-- where the law stands behind a deed: the row's slice, the heap -/
def Got (w : World) (k : Nat) (s4 : Value) (W : World) : Prop := ∃ (v : Value) (d : Array Int) (A : Option Addr) (c : Nat) (xs : List Int), s4 = .slice A d.size c ∧ d.size ≤ c ∧ d.size ≤ k ∧ St w W v d A xs
end Go.Proofs.Ytcnncfjplmejhaa.heapDoes
