/-
  The laws' arguments as they come in; where a law of layer 19 stands.
-/
import Derived.Test.YthbohedkagjohaaPvL
namespace Go.Proofs.Ythbohedkagjohaa.pv
open Go.RowKit law bytes only flat nums ord obj metric
open Go.ChangeShapes Go.WideShapes Go.Deep Go.ChangeAt
set_option linter.unusedVariables false
set_option maxRecDepth 100000

section
variable {H : Type} {enc : TypeId × Value → H} {P : Program} {w : World} {base : Nat} {held : Bool}
/-- a row among other cells -/
theorem row_in {α : Type} {N : Nat} {fuel : Nat} {t e : TypeId} {cs : List Value} {y : DataW H × List MemPlace} {cells : α → List Value} {R : α → Prop} (ht : P.underlying t = some (.slice e)) (hC : P.cellsOf e = N)
    (k : ∀ (fuel : Nat) (cs : List Value) (y : DataW H × List MemPlace), DataW.trod enc P w base (fun _ => true) held fuel e cs = some y → ∃ a, cs = cells a ∧ R a)
    (h : DataW.trod enc P w base (fun _ => true) held fuel t cs = some y) :
    ∃ A c, ∃ l : List α, cs = [.slice A l.length c] ∧ l.length ≤ c ∧ l.length ≤ maxLen ∧ (∀ a ∈ l, R a) ∧ came.Came N cells w A l := by
  rcases open_slice ht h with ⟨hcs, hx⟩ | ⟨a, len, cap, m, n, D, Pl, hcs, _, hl, hm, hmm, hx, hi⟩
  · exact ⟨none, 0, [], hcs, Nat.le_refl _, Nat.zero_le _, fun a ha => by simp at ha, fun i hi => absurd hi (by simp)⟩
  · simp only [if_true] at hmm
    have hex : ∀ i, i < len → ∃ q : α, (∀ j, j < N → w.cell? (a.add (i * N + j)) = (cells q)[j]?) ∧ R q := fun i hlt => by
      obtain ⟨cs', hc, hr⟩ := hi i (by omega)
      obtain ⟨q, rfl, hR⟩ := k _ _ _ hr
      rw [hC] at hc
      obtain ⟨-, -, hat⟩ := World.cells?_some hc
      refine ⟨q, fun j hj => ?_, hR⟩
      rw [← Go.Deep.add_add, hat j hj]
    obtain ⟨l, hl2, hR⟩ := came.list_of hex
    refine ⟨some a, cap, l, by rw [hl2]; exact hcs, by omega, by omega, fun q hq => ?_, fun i hi => ⟨a, rfl, (hR i (by omega) hi).1⟩⟩
    obtain ⟨i, hi, rfl⟩ := List.getElem_of_mem hq
    exact (hR i (by omega) hi).2
end
/-- what a law of this layer is asked -/
structure Dat where
  n : Int
  p : Int
  f : Int
  A : Option Addr
  c : Nat
  l : List At
/-- .. by value: four cells -/
def aC (d : Dat) : Array Value := #[.int .i64 d.n, .int .i64 d.p, .int .i64 d.f, .slice d.A d.l.length d.c]
/-- .. in memory -/
structure Hyp (w : World) (d : Dat) : Prop where
  row : Sl w w.heap.size d.A (ocs d.l)
  vec : ∀ p ∈ d.l, Sl w w.heap.size p.a (iv p.x.vec)
  ok : ∀ p ∈ d.l, Okay p.x
  len : d.l.length ≤ maxLen
theorem Away.of_new {w w' : World} {T : Nat → Prop} {A : Option Addr} {xs : List Value} (h : Sl w w.heap.size A xs) (hb : Below w.heap.size w w') (hT : ∀ i, T i → w.heap.size ≤ i) : Away w' T A xs := fun j u hj => by
  obtain ⟨ad, e, h1, hc⟩ := (h.below hb) j u hj
  exact ⟨ad, e, Nat.lt_of_lt_of_le h1 hb.size, fun ht => by have := hT _ ht; omega, hc⟩
theorem Hyp.ts {w w' : World} {d : Dat} {T : Nat → Prop} (h : Hyp w d) (hb : Below w.heap.size w w') (hT : ∀ i, T i → w.heap.size ≤ i) : Ts w' T d.A d.l := ⟨Away.of_new h.row hb hT, fun p hp => Away.of_new (h.vec p hp) hb hT⟩
theorem brief_40 {w : World} {d : Dat} (h : Hyp w d) (hs : shortL 40 d.l = true) : Brief d.l := fun p hp => by
  simp only [shortL, List.all_eq_true] at hs
  obtain ⟨h1, h2⟩ := (shortP_iff 40 p.x).1 (hs p hp)
  exact ⟨(h.ok p hp).2, by omega, by omega⟩
section
variable {H : Type} {enc : TypeId × Value → H} {W : World} {base b0 : Nat} {held : Bool}
theorem obj_in (fuel : Nat) (cs : List Value) (y : DataW H × List MemPlace) (h : DataW.trod enc Try.prog W base (fun _ => true) held fuel 38 cs = some y) : ∃ p : At, cs = oc p ∧ Lies W p :=
  cells_obj Try.underlying38 (by kernel_rfl) (by kernel_rfl) Try.underlying3 Try.underlying36 Try.underlying21 (by kernel_rfl) Try.underlying9 h
theorem objs_in (fuel : Nat) (cs : List Value) (y : DataW H × List MemPlace) (h : DataW.trod enc Try.prog W base (fun _ => true) held fuel 22 cs = some y) :
    ∃ A c, ∃ l : List At, cs = [.slice A l.length c] ∧ l.length ≤ c ∧ l.length ≤ maxLen ∧ (∀ p ∈ l, Lies W p) ∧ came.Came 3 oc W A l :=
  row_in Try.underlying22 (by kernel_rfl) obj_in h
/-- the laws' argument -/
theorem open_ask {r : Reach} {v : Value} {d : DataW H} {p : List MemPlace} (hval : Value.okWide Try.prog W r b0 24 v) (h : DataW.Trod enc Try.prog W base (fun _ => true) held 24 v d p) : ∃ a : Dat, v = .agg (aC a) ∧ Hyp W a := by
  obtain ⟨cs, rfl, hsz⟩ := okWide_struct Try.underlying24 hval
  obtain ⟨fuel, hf⟩ := h
  obtain ⟨xs, n, _, hx, hl, hlen, hg⟩ := DataW.trod_struct Try.underlying24 hf
  have hl4 : (Value.cells (.agg cs)).toList.length = 4 := hl.trans (by kernel_rfl)
  have hcs : (Value.cells (.agg cs)).toList = cs.toList := rfl
  rw [hcs] at hl4 hg
  obtain ⟨L, hL⟩ : ∃ L, cs.toList = L := ⟨_, rfl⟩
  rw [hL] at hl4 hg
  match L, hl4, xs, hlen with
  | [c0, c1, c2, c3], _, [y0, y1, y2, y3], _ =>
    have g0 : DataW.trod enc Try.prog W base (fun _ => true) held n 3 [c0] = some y0 := hg 0 _ rfl
    have g1 : DataW.trod enc Try.prog W base (fun _ => true) held n 3 [c1] = some y1 := hg 1 _ rfl
    have g2 : DataW.trod enc Try.prog W base (fun _ => true) held n 3 [c2] = some y2 := hg 2 _ rfl
    have g3 : DataW.trod enc Try.prog W base (fun _ => true) held n 22 [c3] = some y3 := hg 3 _ rfl
    obtain ⟨n0, e0, -, -⟩ := DataW.trod_int Try.underlying3 g0
    obtain ⟨p0, e1, -, -⟩ := DataW.trod_int Try.underlying3 g1
    obtain ⟨f0, e2, -, -⟩ := DataW.trod_int Try.underlying3 g2
    obtain ⟨A, c, l, e3, hc, hm, hR, hr⟩ := objs_in _ _ _ g3
    refine ⟨⟨n0, p0, f0, A, c, l⟩, ?_, flat.Came.sl hr (by decide) oc_len, fun p hp => (hR p hp).1, fun p hp => (hR p hp).2, hm⟩
    have h0 := List.singleton_inj.1 e0
    have h1 := List.singleton_inj.1 e1
    have h2 := List.singleton_inj.1 e2
    have h3 := List.singleton_inj.1 e3
    subst h0 h1 h2 h3
    rw [show cs = (cs.toList).toArray from by simp, hL]
    rfl
theorem int_in (fuel : Nat) (cs : List Value) (y : DataW H × List MemPlace) (h : DataW.trod enc Try.prog W base (fun _ => true) held fuel 3 cs = some y) : ∃ x : Int, cs = [Value.int .i64 x] ∧ True := by
  obtain ⟨x, e, -, -⟩ := DataW.trod_int Try.underlying3 h
  exact ⟨x, e, trivial⟩
theorem flat_nv (l : List Int) : l.flatMap (fun x : Int => [Value.int .i64 x]) = nv l := by
  unfold nv
  induction l with
  | nil => rfl
  | cons x l ih => rw [List.flatMap_cons, ih]; rfl
/-- a []int that came in -/
theorem open_ints {r : Reach} {v : Value} {d : DataW H} {p : List MemPlace} (hval : Value.okWide Try.prog W r b0 29 v) (h : DataW.Trod enc Try.prog W base (fun _ => true) held 29 v d p) :
    ∃ A c, ∃ l : List Int, v = .slice A l.length c ∧ l.length ≤ maxLen ∧ Sl W W.heap.size A (nv l) := by
  obtain ⟨A, len, cap, rfl⟩ := okWide_slice Try.underlying29 hval
  obtain ⟨fuel, hf⟩ := h
  have hcs : (Value.cells (.slice A len cap)).toList = [.slice A len cap] := rfl
  rw [hcs] at hf
  obtain ⟨A', c', l, e, hc, hm, -, hr⟩ := row_in (N := 1) (cells := fun x : Int => [Value.int .i64 x]) Try.underlying29 (by kernel_rfl) int_in hf
  have e2 := List.singleton_inj.1 e
  have hs := flat.Came.sl hr (by decide) (fun _ => rfl)
  rw [flat_nv] at hs
  exact ⟨A', c', l, e2, hm, hs⟩
end
/-! ### where a law stands -/
/-- the cells that a law reads -/
def Rd (W : World) (b : Nat) (d : Dat) : Prop := W.cell? ⟨b, 0, none⟩ = some (.int .i64 d.n) ∧ W.cell? ⟨b, 1, none⟩ = some (.int .i64 d.p) ∧ W.cell? ⟨b, 2, none⟩ = some (.int .i64 d.f) ∧ W.cell? ⟨b, 3, none⟩ = some (.slice d.A d.l.length d.c)
theorem rd_of {W : World} {g : Nat} {d : Dat} (h : Blk W g 24 (aC d)) : Rd W g d := ⟨h.cell 0, h.cell 1, h.cell 2, h.cell 3⟩
/-- the argument's box, and what there was -/
structure Pre (w W : World) (d : Dat) : Prop where
  box : Blk W w.heap.size 24 (aC d)
  low : Below w.heap.size w W
section
variable {w W W' : World} {d : Dat}
theorem Pre.start (w : World) (d : Dat) : Pre w (w.alloc (.cells (aC d) 24)) d := ⟨Blk.new w _ _, (Below.refl _ _).alloc (Nat.le_refl _) _⟩
theorem Pre.on (h : Pre w W d) (o : Below W.heap.size W W') : Pre w W' d := ⟨h.box.below o h.box.lt, h.low.trans (o.mono h.low.size)⟩
theorem Pre.drew (h : Pre w W d) : Pre w W.drew d := h.on ((Below.refl _ _).drew)
theorem Pre.drewN (h : Pre w W d) (n : Nat) : Pre w (W.drewN n) d := h.on (below_drewN' (Below.refl _ _) n)
theorem Pre.rd (h : Pre w W d) : Rd W w.heap.size d := rd_of h.box
theorem Pre.size (h : Pre w W d) : w.heap.size < W.heap.size := h.box.lt
theorem Pre.turn (h : Pre w W d) {g : Nat} (hg : w.heap.size < g) (o : Only (fun i => i = g) W W') : Pre w W' d :=
  ⟨Blk.only h.box o (Nat.ne_of_lt hg), h.low.trans (o.below h.low.size fun i e => by omega)⟩
end
end Go.Proofs.Ythbohedkagjohaa.pv
