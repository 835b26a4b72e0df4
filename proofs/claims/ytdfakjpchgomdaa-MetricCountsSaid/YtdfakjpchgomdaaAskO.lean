/-
  Program-free: things and asks that came in, by their cells: by value, in arrays, in rows.
-/
import Derived.Test.YtdfakjpchgomdaaShort
namespace Go.Proofs.Ytdfakjpchgomdaa.metric
open Go.RowKit law bytes nums ord obj
open Go.ChangeShapes Go.WideShapes Go.Deep Go.ChangeAt
set_option linter.unusedVariables false
section
variable {H : Type} {enc : TypeId × Value → H} {P : Program} {w : World} {base : Nat} {held : Bool}
/-- a thing whose numbers lie in memory, each of 32 bits -/
def Lies (w : World) (p : At) : Prop := Sl w w.heap.size p.a (iv p.x.vec) ∧ Okay p.x
/-- three cells that read as a thing are one -/
theorem cells_obj {fuel : Nat} {t e : TypeId} {f0 f1 f2 : Field} {cs : List Value} {y : DataW H × List MemPlace} (ht : P.underlying t = some (.struct #[f0, f1, f2])) (hone : oneCellFields P #[f0, f1, f2] = true) (hC : P.cellsOf t = 3)
    (k0 : P.underlying f0.type = some (.int .i64)) (k1 : P.underlying f1.type = some (.slice e)) (ke : P.underlying e = some (.int .i32)) (kc : P.cellsOf e = 1) (k2 : P.underlying f2.type = some .string)
    (h : DataW.trod enc P w base (fun _ => true) held fuel t cs = some y) : ∃ p : At, cs = oc p ∧ Lies w p := by
  obtain ⟨xs, n, _, hx, hl, hlen, hg⟩ := DataW.trod_struct ht h
  obtain ⟨o0, q0⟩ := hone_of hone 0 f0 rfl
  obtain ⟨o1, q1⟩ := hone_of hone 1 f1 rfl
  obtain ⟨o2, q2⟩ := hone_of hone 2 f2 rfl
  match cs, hl.trans hC with
  | [c0, c1, c2], _ =>
    match xs, hlen with
    | [y0, y1, y2], _ =>
      have g0 : DataW.trod enc P w base (fun _ => true) held n f0.type [c0] = some y0 := by simpa [o0, q0] using hg 0 f0 rfl
      have g1 : DataW.trod enc P w base (fun _ => true) held n f1.type [c1] = some y1 := by simpa [o1, q1] using hg 1 f1 rfl
      have g2 : DataW.trod enc P w base (fun _ => true) held n f2.type [c2] = some y2 := by simpa [o2, q2] using hg 2 f2 rfl
      obtain ⟨tag, e0, -, w0⟩ := DataW.trod_int k0 g0
      obtain rfl := List.singleton_inj.1 e0
      obtain ⟨A, c, vec, rfl, hc, hs, hb, hd⟩ := open_nums k1 ke kc g1
      obtain ⟨str, e2, z2, w2⟩ := DataW.trod_string k2 g2
      obtain rfl := List.singleton_inj.1 e2
      exact ⟨⟨A, c, ⟨tag, vec, str⟩⟩, rfl, hs, i64_bd' w0, hb⟩
/-- what is asked -/
structure Ask where
  n : Int
  x : At
  y : At
  most : Int
  up : Bool
def ac (q : Ask) : List Value := .int .i64 q.n :: (oc q.x ++ (oc q.y ++ [.int .i64 q.most, .bool q.up]))
theorem ac_len (q : Ask) : (ac q).length = 9 := rfl
theorem cells_ask {fuel : Nat} {t : TypeId} {f0 f1 f2 f3 f4 : Field} {cs : List Value} {y : DataW H × List MemPlace} (ht : P.underlying t = some (.struct #[f0, f1, f2, f3, f4])) (hC : P.cellsOf t = 9)
    (hoff : (f0.offset, f1.offset, f2.offset, f3.offset, f4.offset) = (0, 1, 4, 7, 8)) (hsz : (P.cellsOf f0.type, P.cellsOf f1.type, P.cellsOf f2.type, P.cellsOf f3.type, P.cellsOf f4.type) = (1, 3, 3, 1, 1))
    (k0 : P.underlying f0.type = some (.int .i64)) (k3 : P.underlying f3.type = some (.int .i64)) (k4 : P.underlying f4.type = some .bool)
    (k1 : ∀ (fuel : Nat) (cs : List Value) (y : DataW H × List MemPlace), DataW.trod enc P w base (fun _ => true) held fuel f1.type cs = some y → ∃ p : At, cs = oc p ∧ Lies w p)
    (k2 : ∀ (fuel : Nat) (cs : List Value) (y : DataW H × List MemPlace), DataW.trod enc P w base (fun _ => true) held fuel f2.type cs = some y → ∃ p : At, cs = oc p ∧ Lies w p)
    (h : DataW.trod enc P w base (fun _ => true) held fuel t cs = some y) : ∃ q : Ask, cs = ac q ∧ Lies w q.x ∧ Lies w q.y := by
  obtain ⟨xs, n, _, hx, hl, hlen, hg⟩ := DataW.trod_struct ht h
  simp only [Prod.mk.injEq] at hoff hsz
  obtain ⟨o0, o1, o2, o3, o4⟩ := hoff
  obtain ⟨z0, z1, z2, z3, z4⟩ := hsz
  match cs, hl.trans hC with
  | [c0, c1, c2, c3, c4, c5, c6, c7, c8], _ =>
    match xs, hlen with
    | [y0, y1, y2, y3, y4], _ =>
      have g0 : DataW.trod enc P w base (fun _ => true) held n f0.type [c0] = some y0 := by simpa [o0, z0] using hg 0 f0 rfl
      have g1 : DataW.trod enc P w base (fun _ => true) held n f1.type [c1, c2, c3] = some y1 := by simpa [o1, z1] using hg 1 f1 rfl
      have g2 : DataW.trod enc P w base (fun _ => true) held n f2.type [c4, c5, c6] = some y2 := by simpa [o2, z2] using hg 2 f2 rfl
      have g3 : DataW.trod enc P w base (fun _ => true) held n f3.type [c7] = some y3 := by simpa [o3, z3] using hg 3 f3 rfl
      have g4 : DataW.trod enc P w base (fun _ => true) held n f4.type [c8] = some y4 := by simpa [o4, z4] using hg 4 f4 rfl
      obtain ⟨m, e0, -, -⟩ := DataW.trod_int k0 g0
      obtain rfl := List.singleton_inj.1 e0
      obtain ⟨most, e3, -, -⟩ := DataW.trod_int k3 g3
      obtain rfl := List.singleton_inj.1 e3
      obtain ⟨up, e4, -⟩ := DataW.trod_bool k4 g4
      obtain rfl := List.singleton_inj.1 e4
      obtain ⟨p, e1, h1⟩ := k1 _ _ _ g1
      obtain ⟨q, e2, h2⟩ := k2 _ _ _ g2
      refine ⟨⟨m, p, q, most, up⟩, ?_, h1, h2⟩
      show _ = Value.int .i64 m :: (oc p ++ (oc q ++ [.int .i64 most, .bool up]))
      rw [← e1, ← e2]
      rfl
theorem list_of {α : Type} {R : Nat → α → Prop} {n : Nat} (h : ∀ i, i < n → ∃ q, R i q) : ∃ l : List α, l.length = n ∧ ∀ i, i < n → ∀ hi : i < l.length, R i l[i] := by
  induction n with
  | zero => exact ⟨[], rfl, fun i hi => absurd hi (by omega)⟩
  | succ n ih =>
    obtain ⟨l, hl, hR⟩ := ih (fun i hi => h i (by omega))
    obtain ⟨q, hq⟩ := h n (by omega)
    refine ⟨l ++ [q], by simp [hl], fun i hi hi2 => ?_⟩
    rcases Nat.lt_or_ge i l.length with hlt | hge
    · rw [List.getElem_append_left hlt]; exact hR i (by omega) hlt
    · obtain rfl : i = n := by omega
      rw [List.getElem_append_right hge]
      simpa using hq
/-- a row of what has as many cells each -/
theorem open_row {α : Type} {N : Nat} {r : Reach} {b0 : Nat} {t e : TypeId} {v : Value} {d : DataW H} {p : List MemPlace} {cells : α → List Value} {R : α → Prop} (ht : P.underlying t = some (.slice e)) (hC : P.cellsOf e = N) (hN : 0 < N) (hcl : ∀ a, (cells a).length = N)
    (k : ∀ (fuel : Nat) (cs : List Value) (y : DataW H × List MemPlace), DataW.trod enc P w base (fun _ => true) held fuel e cs = some y → ∃ a, cs = cells a ∧ R a)
    (hv : Value.okWide P w r b0 t v) (h : DataW.Trod enc P w base (fun _ => true) held t v d p) :
    ∃ A c, ∃ l : List α, v = .slice A l.length c ∧ l.length ≤ maxLen ∧ (∀ i (hi : i < l.length), R l[i]) ∧ ∀ i (hi : i < l.length), ∃ ad, A = some ad ∧ ∀ j, j < N → w.cell? (ad.add (i * N + j)) = (cells l[i])[j]? := by
  obtain ⟨A, len, cap, rfl⟩ := okWide_slice ht hv
  obtain ⟨fuel, hf⟩ := h
  rcases open_slice ht hf with ⟨hcs, hx⟩ | ⟨a, len', cap', m, n, D, Pl, hcs, _, hl, hm, hmm, hx, hi⟩
  · simp [Value.cells] at hcs
    obtain ⟨rfl, rfl, rfl⟩ := hcs
    exact ⟨none, 0, [], rfl, Nat.zero_le _, fun i hi => absurd hi (by simp), fun i hi => absurd hi (by simp)⟩
  · simp [Value.cells] at hcs
    obtain ⟨rfl, rfl, rfl⟩ := hcs
    simp only [if_true] at hmm
    have hex : ∀ i, i < len → ∃ q : α, (∀ j, j < N → w.cell? (a.add (i * N + j)) = (cells q)[j]?) ∧ R q := fun i hlt => by
      obtain ⟨cs', hc, hr⟩ := hi i (by omega)
      obtain ⟨q, rfl, hR⟩ := k _ _ _ hr
      rw [hC] at hc
      obtain ⟨-, -, hat⟩ := World.cells?_some hc
      refine ⟨q, fun j hj => ?_, hR⟩
      rw [← Go.Deep.add_add, hat j hj]
    obtain ⟨l, hl2, hR⟩ := list_of hex
    refine ⟨some a, cap, l, by rw [hl2], by omega, fun i hi => (hR i (by omega) hi).2, fun i hi => ⟨a, rfl, (hR i (by omega) hi).1⟩⟩
theorem okWide_arr {n : Nat} {t e : TypeId} {r : Reach} {b0 : Nat} {v : Value} (ht : P.underlying t = some (.array n e)) (h : Value.okWide P w r b0 t v) : ∃ cs, v = .agg cs ∧ cs.size = P.cellsOf t := by
  simp only [Value.okWide, ht] at h
  obtain ⟨cs, h1, h2, _⟩ := h
  exact ⟨cs, h1, h2⟩
/-- three things one behind the other -/
theorem cells_three {fuel : Nat} {t e : TypeId} {cs : List Value} {y : DataW H × List MemPlace} (ht : P.underlying t = some (.array 3 e)) (hC : P.cellsOf t = 9) (hE : P.cellsOf e = 3)
    (k : ∀ (fuel : Nat) (cs : List Value) (y : DataW H × List MemPlace), DataW.trod enc P w base (fun _ => true) held fuel e cs = some y → ∃ p : At, cs = oc p ∧ Lies w p)
    (h : DataW.trod enc P w base (fun _ => true) held fuel t cs = some y) : ∃ p q r : At, cs = oc p ++ (oc q ++ oc r) ∧ Lies w p ∧ Lies w q ∧ Lies w r := by
  obtain ⟨xs, m, _, _, hl, hlen, hg⟩ := DataW.trod_array ht h
  match cs, hl.trans hC with
  | [c0, c1, c2, c3, c4, c5, c6, c7, c8], _ =>
    match xs, hlen with
    | [y0, y1, y2], _ =>
      have g0 : DataW.trod enc P w base (fun _ => true) held m e [c0, c1, c2] = some y0 := by simpa [hE] using hg 0 (by decide)
      have g1 : DataW.trod enc P w base (fun _ => true) held m e [c3, c4, c5] = some y1 := by simpa [hE] using hg 1 (by decide)
      have g2 : DataW.trod enc P w base (fun _ => true) held m e [c6, c7, c8] = some y2 := by simpa [hE] using hg 2 (by decide)
      obtain ⟨p, e0, h0⟩ := k _ _ _ g0
      obtain ⟨q, e1, h1⟩ := k _ _ _ g1
      obtain ⟨r, e2, h2⟩ := k _ _ _ g2
      refine ⟨p, q, r, ?_, h0, h1, h2⟩
      rw [← e0, ← e1, ← e2]
      rfl
end
end Go.Proofs.Ytdfakjpchgomdaa.metric
