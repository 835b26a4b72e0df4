/-
  Deeds as they come in: rows in rows, with what weighs on them.
-/
import Derived.Test.YtaamlidflfdjkaaLpR
import Derived.Test.YtaamlidflfdjkaaGItm
import Derived.Test.YtaamlidflfdjkaaGLib
import Derived.Test.YtaamlidflfdjkaaGMet
import Derived.Test.YtaamlidflfdjkaaIdT
import Derived.Test.YtaamlidflfdjkaaTy
namespace Go.Proofs.Ytaamlidflfdjkaa.play
open Go.RowKit law bytes only flat nums ord obj metric came
open aro (Kept zK)
open store (iE RI item_in item_fit Lie)
open Go.ChangeShapes Go.WideShapes Go.Deep Go.ChangeAt
set_option linter.unusedVariables false
set_option maxRecDepth 100000
section
variable {H : Type} {enc : TypeId × Value → H} {P : Program} {w : World} {base : Nat} {held : Bool}
theorem first_wf {fuel : Nat} {t : TypeId} {f0 f1 : Field} {cs : List Value} {y : DataW H × List MemPlace} (ht : P.underlying t = some (.struct #[f0, f1])) (hoff : f0.offset = 0) (hsz : P.cellsOf f0.type = 1)
    (k0 : P.underlying f0.type = some (.int .u64)) (h : DataW.trod enc P w base (fun _ => true) held fuel t cs = some y) {id : Int} {r : List Value} (hcs : cs = .int .u64 id :: r) : (Lit.int .u64 id).wf = true := by
  obtain ⟨xs, n, _, hx, hl, hlen, hg⟩ := DataW.trod_struct ht h
  match xs, hlen with
  | [y0, y1], _ =>
    have g0 : DataW.trod enc P w base (fun _ => true) held n f0.type [.int .u64 id] = some y0 := by simpa [hoff, hsz, hcs] using hg 0 f0 rfl
    obtain ⟨m, e0, -, hw⟩ := DataW.trod_int k0 g0
    have e1 := List.singleton_inj.1 e0
    injection e1 with _ e2
    rw [e2]; exact hw
/-- a row among other cells, and what weighs on it -/
theorem row_D {α : Type} {N : Nat} {fuel : Nat} {t e : TypeId} {cs : List Value} {y : DataW H × List MemPlace} {cells : α → List Value} {R : α → DataW H → Prop} (ht : P.underlying t = some (.slice e)) (hC : P.cellsOf e = N)
    (k : ∀ (fuel : Nat) (cs : List Value) (y : DataW H × List MemPlace), DataW.trod enc P w base (fun _ => true) held fuel e cs = some y → ∃ a, cs = cells a ∧ R a y.1)
    (h : DataW.trod enc P w base (fun _ => true) held fuel t cs = some y) :
    ∃ A c, ∃ l : List α, cs = [.slice A l.length c] ∧ Came N cells w A l ∧ l.length ≤ maxLen ∧ ((∀ n ∈ y.1.weights P t, n ≤ reachBytes) → l.length * P.bytesOf e ≤ reachBytes ∧ ∀ a ∈ l, ∃ d, R a d ∧ ∀ n ∈ d.weights P e, n ≤ reachBytes) := by
  rcases open_slice ht h with ⟨hcs, hx⟩ | ⟨a, len, cap, m, n, D, Pl, hcs, _, hl, hm, hmm, hx, hi⟩
  · exact ⟨none, 0, [], hcs, fun i hi => absurd hi (by simp), Nat.zero_le _, fun _ => ⟨by simp, fun a ha => by simp at ha⟩⟩
  · simp only [if_true] at hmm
    have hex : ∀ i, i < len → ∃ q : α, (∀ j, j < N → w.cell? (a.add (i * N + j)) = (cells q)[j]?) ∧ R q (D i) := fun i hlt => by
      obtain ⟨cs', hc, hr⟩ := hi i (by omega)
      obtain ⟨q, rfl, hR⟩ := k _ _ _ hr
      rw [hC] at hc
      obtain ⟨-, -, hat⟩ := World.cells?_some hc
      refine ⟨q, fun j hj => ?_, hR⟩
      rw [← Go.Deep.add_add, hat j hj]
    obtain ⟨l, hl2, hR⟩ := came.list_of hex
    refine ⟨some a, cap, l, by rw [hl2]; exact hcs, fun i hi => ⟨a, rfl, (hR i (by omega) hi).1⟩, by omega, fun hw => ?_⟩
    rw [hx] at hw
    simp only [DataW.weights, ht, List.mem_cons, List.mem_append] at hw
    refine ⟨?_, fun q hq => ?_⟩
    · have := hw _ (.inl rfl)
      simp only [List.length_map, List.length_range] at this
      rw [hl2]
      exact Nat.le_trans (Nat.mul_le_mul_right _ (by omega)) this
    · obtain ⟨i, hi, rfl⟩ := List.getElem_of_mem hq
      refine ⟨D i, (hR i (by omega) hi).2, fun n hn => hw n (.inr (.inl (weighs (List.mem_map.2 ⟨i, List.mem_range.2 (by omega), rfl⟩) n hn)))⟩
end
section
variable {H : Type} {enc : TypeId × Value → H} {W : World} {base b0 : Nat} {held : Bool}
theorem obj_in (fuel : Nat) (cs : List Value) (y : DataW H × List MemPlace) (h : DataW.trod enc Try.prog W base (fun _ => true) held fuel 36 cs = some y) : ∃ p : At, cs = oc p ∧ Lies W p :=
  metric.cells_obj Try.underlying36 (by kernel_rfl) (by kernel_rfl) Try.underlying3 Try.underlying34 Try.underlying21 (by kernel_rfl) Try.underlying9 h
/-- a thing that came in: its numbers are of 32 bits -/
def Ki (W : World) (p : Int × Kept) : Prop := Sl W W.heap.size p.2.A (iv p.2.x.vec) ∧ dist.Bd p.2.x.vec ∧ (Lit.int .u64 p.1).wf = true
theorem iv_one {W : World} {B B' : Nat} {A : Option Addr} {xs ys : List Int} (h : Sl W B A (iv xs)) (h' : Sl W B' A (iv ys)) (hl : xs.length = ys.length) : xs = ys := by
  refine List.ext_getElem hl fun i h1 h2 => ?_
  obtain ⟨a, e, -, hc⟩ := h i _ (List.getElem?_eq_getElem (by simpa [iv] using h1))
  obtain ⟨a', e', -, hc'⟩ := h' i _ (List.getElem?_eq_getElem (by simpa [iv] using h2))
  rw [e] at e'
  injection e' with e'
  subst e'
  rw [hc] at hc'
  injection hc' with hc'
  simpa [iv] using hc'
theorem item_ki (fuel : Nat) (cs : List Value) (y : DataW H × List MemPlace) (h : DataW.trod enc Try.prog W base (fun _ => true) held fuel 38 cs = some y) : ∃ p : Int × Kept, cs = iE p ∧ Ki W p := by
  obtain ⟨a, e, hR⟩ := item_in fuel cs y h
  have hwf := first_wf Try.underlying38 (by kernel_rfl) (by kernel_rfl) Try.underlying33 h e
  refine ⟨a, e, ?_, ?_, hwf⟩
  · obtain ⟨d0, d1, -, h1⟩ := hR
    exact h1.1
  · obtain ⟨d0, d1, -, hs1, -⟩ := hR
    obtain ⟨xs, n, _, hx, hl, hlen, hg⟩ := DataW.trod_struct Try.underlying38 h
    match cs, hl.trans (show Try.prog.cellsOf 38 = 4 by kernel_rfl) with
    | [c0, c1, c2, c3], _ =>
      match xs, hlen with
      | [y0, y1], _ =>
        have g1 : DataW.trod enc Try.prog W base (fun _ => true) held n 36 [c1, c2, c3] = some y1 := hg 1 _ rfl
        obtain ⟨p, e2, hs2, hbd⟩ := obj_in _ _ _ g1
        simp only [iE, List.cons.injEq] at e
        simp only [oc, List.cons.injEq] at e2
        obtain ⟨-, -, e3, -⟩ := e
        obtain ⟨-, e4, -⟩ := e2
        rw [e3] at e4
        injection e4 with eA el ec
        rw [← eA] at hs2
        rw [iv_one hs1 hs2 el]
        exact hbd.2
/-- a deed as it came in -/
structure DIn (W : World) (a : Deed) : Prop where
  it : Ki W a.it
  row : Sl W W.heap.size a.A (a.l.flatMap iE)
  each : ∀ p ∈ a.l, Ki W p
  few : (a.l.length + 1) * 56 ≤ 140737488355328
theorem deed_in (fuel : Nat) (cs : List Value) (y : DataW H × List MemPlace) (h : DataW.trod enc Try.prog W base (fun _ => true) held fuel 41 cs = some y) :
    ∃ a : Deed, cs = acE a ∧ ((∀ n ∈ y.1.weights Try.prog 41, n ≤ reachBytes) → DIn W a) := by
  obtain ⟨xs, n, _, hx, hl, hlen, hg⟩ := DataW.trod_struct Try.underlying41 h
  match cs, hl.trans (show Try.prog.cellsOf 41 = 8 by kernel_rfl) with
  | [c0, c1, c2, c3, c4, c5, c6, c7], _ =>
    match xs, hlen with
    | [y0, y1, y2, y3, y4], _ =>
      have g0 : DataW.trod enc Try.prog W base (fun _ => true) held n 3 [c0] = some y0 := hg 0 _ rfl
      have g1 : DataW.trod enc Try.prog W base (fun _ => true) held n 38 [c1, c2, c3, c4] = some y1 := hg 1 _ rfl
      have g2 : DataW.trod enc Try.prog W base (fun _ => true) held n 32 [c5] = some y2 := hg 2 _ rfl
      have g3 : DataW.trod enc Try.prog W base (fun _ => true) held n 3 [c6] = some y3 := hg 3 _ rfl
      have g4 : DataW.trod enc Try.prog W base (fun _ => true) held n 39 [c7] = some y4 := hg 4 _ rfl
      obtain ⟨n0, e0, -, -⟩ := DataW.trod_int Try.underlying3 g0
      obtain ⟨n3, e3, -, -⟩ := DataW.trod_int Try.underlying3 g3
      obtain ⟨p, e1, h1⟩ := item_ki _ _ _ g1
      obtain ⟨A, c, l, e2, hc2, -, hw2⟩ := row_D (N := 4) (R := fun a _ => Ki W a) Try.underlying32 (by kernel_rfl) item_ki g2
      obtain ⟨D, dc, raw, e4, -, -, -⟩ := row_D (N := 1) (cells := fun x : Int => [Value.int .i64 x]) (R := fun _ _ => True) Try.underlying39 (by kernel_rfl) (fun fuel cs y h => by
        obtain ⟨m, e, -, -⟩ := DataW.trod_int Try.underlying3 h
        exact ⟨m, e, trivial⟩) g4
      refine ⟨⟨n0, p, A, c, l, n3, D, dc, raw⟩, ?_, fun hw => ⟨h1, Came.sl hc2 (by decide) store.iE_len, fun q hq => ?_, ?_⟩⟩
      · have h0 := List.singleton_inj.1 e0
        have h3 := List.singleton_inj.1 e3
        have h5 := List.singleton_inj.1 e2
        have h7 := List.singleton_inj.1 e4
        simp only [iE, List.cons.injEq] at e1
        obtain ⟨rfl, rfl, rfl, rfl, -⟩ := e1
        subst h0 h3 h5 h7
        rfl
      all_goals
        have hw3 := hw2 fun m hm => hw m (by
          rw [hx]
          simp only [DataW.weights, Try.underlying41, List.map_cons, List.map_nil, DataW.weightsEach, List.mem_append]
          exact .inr (.inr (.inl hm)))
      · obtain ⟨d, hd, -⟩ := hw3.2 q hq
        exact hd
      · have := hw3.1
        rw [show Try.prog.bytesOf 38 = 56 from by kernel_rfl, show reachBytes = 140737488351232 from by decide] at this
        show (l.length + 1) * 56 ≤ _
        omega
end
end Go.Proofs.Ytaamlidflfdjkaa.play
