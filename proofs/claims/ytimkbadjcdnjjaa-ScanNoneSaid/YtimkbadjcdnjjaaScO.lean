/-
  Items that came in, by their cells; the laws' argument; where a law of layer 17 stands.
-/
import Derived.Test.YtimkbadjcdnjjaaScD
import Derived.Test.YtimkbadjcdnjjaaScQ
import Derived.Test.YtimkbadjcdnjjaaScL
import Derived.Test.YtimkbadjcdnjjaaGBest
namespace Go.Proofs.Ytimkbadjcdnjjaa.scan
open Go.RowKit law bytes only flat nums ord obj metric
open hit (Hit hv hv_length lt Rises sortH sortH_length hitE hc_oneOf hv_snoc)
open best (Be keep)
open Go.ChangeShapes Go.WideShapes Go.Deep Go.ChangeAt
set_option linter.unusedVariables false
set_option maxRecDepth 100000

section
variable {H : Type} {enc : TypeId × Value → H} {P : Program} {w : World} {base : Nat} {held : Bool}
theorem cells_item {fuel : Nat} {t : TypeId} {f0 f1 : Field} {cs : List Value} {y : DataW H × List MemPlace} (ht : P.underlying t = some (.struct #[f0, f1])) (hC : P.cellsOf t = 4) (hoff : (f0.offset, f1.offset) = (0, 1)) (hsz : (P.cellsOf f0.type, P.cellsOf f1.type) = (1, 3))
    (k0 : P.underlying f0.type = some (.int .u64)) (k1 : ∀ (fuel : Nat) (cs : List Value) (y : DataW H × List MemPlace), DataW.trod enc P w base (fun _ => true) held fuel f1.type cs = some y → ∃ p : At, cs = oc p ∧ Lies w p)
    (h : DataW.trod enc P w base (fun _ => true) held fuel t cs = some y) : ∃ p : Item, cs = ic p ∧ Lies w p.2 := by
  obtain ⟨xs, n, _, hx, hl, hlen, hg⟩ := DataW.trod_struct ht h
  simp only [Prod.mk.injEq] at hoff hsz
  obtain ⟨o0, o1⟩ := hoff
  obtain ⟨z0, z1⟩ := hsz
  match cs, hl.trans hC with
  | [c0, c1, c2, c3], _ =>
    match xs, hlen with
    | [y0, y1], _ =>
      have g0 : DataW.trod enc P w base (fun _ => true) held n f0.type [c0] = some y0 := by simpa [o0, z0] using hg 0 f0 rfl
      have g1 : DataW.trod enc P w base (fun _ => true) held n f1.type [c1, c2, c3] = some y1 := by simpa [o1, z1] using hg 1 f1 rfl
      obtain ⟨id, e0, -, -⟩ := DataW.trod_int k0 g0
      obtain rfl := List.singleton_inj.1 e0
      obtain ⟨p, e1, h1⟩ := k1 _ _ _ g1
      refine ⟨(id, p), ?_, h1⟩
      show _ = Value.int .u64 id :: oc p
      rw [← e1]
/-- a row among other cells -/
theorem row_in {α : Type} {N : Nat} {fuel : Nat} {t e : TypeId} {cs : List Value} {y : DataW H × List MemPlace} {cells : α → List Value} {R : α → Prop} (ht : P.underlying t = some (.slice e)) (hC : P.cellsOf e = N)
    (k : ∀ (fuel : Nat) (cs : List Value) (y : DataW H × List MemPlace), DataW.trod enc P w base (fun _ => true) held fuel e cs = some y → ∃ a, cs = cells a ∧ R a)
    (h : DataW.trod enc P w base (fun _ => true) held fuel t cs = some y) :
    ∃ A c, ∃ l : List α, cs = [.slice A l.length c] ∧ l.length ≤ c ∧ l.length ≤ maxLen ∧ (∀ a ∈ l, R a) ∧ came.Came N cells w A l := by
  rcases open_slice ht h with ⟨hcs, hx⟩ | ⟨a, len, cap, m, n, D, Pl, hcs, _, hl, hm, hmm, hx, hi⟩
  · exact ⟨none, 0, [], hcs, Nat.le_refl _, Nat.zero_le _, fun a ha => by simp at ha, fun i hi => absurd hi (by simp)⟩
  · simp only [if_true] at hmm
    have hex : ∀ i, i < len → ∃ q : α, (∀ j, j < N → w.cell? (a.add (i * N + j)) = (cells q)[j]?) ∧ R q := fun i hlt => by
      obtain ⟨cs', hc, hr⟩ := hi i (by omega)
      obtain ⟨q, rfl, hR⟩ := k _ _ _ hr
      rw [hC] at hc
      obtain ⟨-, -, hat⟩ := World.cells?_some hc
      refine ⟨q, fun j hj => ?_, hR⟩
      rw [← Go.Deep.add_add, hat j hj]
    obtain ⟨l, hl2, hR⟩ := came.list_of hex
    refine ⟨some a, cap, l, by rw [hl2]; exact hcs, by omega, by omega, fun q hq => ?_, fun i hi => ⟨a, rfl, (hR i (by omega) hi).1⟩⟩
    obtain ⟨i, hi, rfl⟩ := List.getElem_of_mem hq
    exact (hR i (by omega) hi).2
end
/-- what a law of this layer is asked -/
structure Dat where
  n : Int
  A : Option Addr
  c : Nat
  l : List Item
  q : At
  r : Int
  kk : Int
/-- .. by value: seven cells -/
def aC (d : Dat) : Array Value := #[.int .i64 d.n, .slice d.A d.l.length d.c, .int .i64 d.q.x.tag, .slice d.q.a d.q.x.vec.length d.q.c, .string d.q.x.str, .int .i64 d.r, .int .i64 d.kk]
/-- .. in memory -/
structure Hyp (w : World) (d : Dat) : Prop where
  its : Its w w.heap.size d.A d.l
  qs : Sl w w.heap.size d.q.a (iv d.q.x.vec)
  ok : (∀ p ∈ d.l, Okay p.2.x) ∧ Okay d.q.x
  cap : d.l.length ≤ d.c
  len : d.l.length ≤ maxLen
section
variable {H : Type} {enc : TypeId × Value → H} {W : World} {base b0 : Nat} {held : Bool}
theorem obj_in (fuel : Nat) (cs : List Value) (y : DataW H × List MemPlace) (h : DataW.trod enc Try.prog W base (fun _ => true) held fuel 25 cs = some y) : ∃ p : At, cs = oc p ∧ Lies W p :=
  cells_obj Try.underlying25 (by kernel_rfl) (by kernel_rfl) Try.underlying3 Try.underlying23 Try.underlying21 (by kernel_rfl) Try.underlying9 h
theorem item_in (fuel : Nat) (cs : List Value) (y : DataW H × List MemPlace) (h : DataW.trod enc Try.prog W base (fun _ => true) held fuel 46 cs = some y) : ∃ p : Item, cs = ic p ∧ Lies W p.2 :=
  cells_item Try.underlying46 (by kernel_rfl) (by kernel_rfl) (by kernel_rfl) Try.underlying44 obj_in h
theorem items_in (fuel : Nat) (cs : List Value) (y : DataW H × List MemPlace) (h : DataW.trod enc Try.prog W base (fun _ => true) held fuel 22 cs = some y) :
    ∃ A c, ∃ l : List Item, cs = [.slice A l.length c] ∧ l.length ≤ c ∧ l.length ≤ maxLen ∧ (∀ p ∈ l, Lies W p.2) ∧ came.Came 4 ic W A l :=
  row_in Try.underlying22 (by kernel_rfl) item_in h
/-- the laws' argument -/
theorem open_ask {r : Reach} {v : Value} {d : DataW H} {p : List MemPlace} (hval : Value.okWide Try.prog W r b0 27 v) (h : DataW.Trod enc Try.prog W base (fun _ => true) held 27 v d p) : ∃ a : Dat, v = .agg (aC a) ∧ Hyp W a := by
  obtain ⟨cs, rfl, hsz⟩ := okWide_struct Try.underlying27 hval
  obtain ⟨fuel, hf⟩ := h
  obtain ⟨xs, n, _, hx, hl, hlen, hg⟩ := DataW.trod_struct Try.underlying27 hf
  have hl7 : (Value.cells (.agg cs)).toList.length = 7 := hl.trans (by kernel_rfl)
  have hcs : (Value.cells (.agg cs)).toList = cs.toList := rfl
  rw [hcs] at hl7 hg
  obtain ⟨L, hL⟩ : ∃ L, cs.toList = L := ⟨_, rfl⟩
  rw [hL] at hl7 hg
  match L, hl7, xs, hlen with
  | [c0, c1, c2, c3, c4, c5, c6], _, [y0, y1, y2, y3, y4], _ =>
    have g0 : DataW.trod enc Try.prog W base (fun _ => true) held n 3 [c0] = some y0 := hg 0 _ rfl
    have g1 : DataW.trod enc Try.prog W base (fun _ => true) held n 22 [c1] = some y1 := hg 1 _ rfl
    have g2 : DataW.trod enc Try.prog W base (fun _ => true) held n 25 [c2, c3, c4] = some y2 := hg 2 _ rfl
    have g3 : DataW.trod enc Try.prog W base (fun _ => true) held n 3 [c5] = some y3 := hg 3 _ rfl
    have g4 : DataW.trod enc Try.prog W base (fun _ => true) held n 3 [c6] = some y4 := hg 4 _ rfl
    obtain ⟨n0, e0, -, -⟩ := DataW.trod_int Try.underlying3 g0
    obtain ⟨A, c, l, e1, hc, hm, hR, hr⟩ := items_in _ _ _ g1
    obtain ⟨q, e2, hq⟩ := obj_in _ _ _ g2
    obtain ⟨r0, e3, -, -⟩ := DataW.trod_int Try.underlying3 g3
    obtain ⟨k0, e4, -, -⟩ := DataW.trod_int Try.underlying3 g4
    refine ⟨⟨n0, A, c, l, q, r0, k0⟩, ?_, ⟨flat.Came.sl hr (by decide) ic_len, fun p hp => (hR p hp).1⟩, hq.1, ⟨fun p hp => (hR p hp).2, hq.2⟩, hc, hm⟩
    have h0 := List.singleton_inj.1 e0
    have h1 := List.singleton_inj.1 e1
    have h3 := List.singleton_inj.1 e3
    have h4 := List.singleton_inj.1 e4
    injection e2 with e5 e2
    injection e2 with e6 e2
    injection e2 with e7 e2
    subst h0 h1 h3 h4 e5 e6 e7
    rw [show cs = (cs.toList).toArray from by simp, hL]
    rfl
end
/-- short things are small -/
theorem small_40 {x : Thing} {m : Int} (h : shortP m x = true) (hm : m ≤ 1048576) (hO : Okay x) : Small x := by
  obtain ⟨h1, h2⟩ := (shortP_iff m x).1 h
  exact ⟨hO.2, by omega, by omega⟩
end Go.Proofs.Ytimkbadjcdnjjaa.scan
