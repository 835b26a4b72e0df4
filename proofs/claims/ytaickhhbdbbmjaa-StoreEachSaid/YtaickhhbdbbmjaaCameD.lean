/-
  Program-free: a row of structs that came in, with what is said of each one's data; what weighs on an element weighs on the row.
-/
import Derived.Test.YtaickhhbdbbmjaaCame
namespace Go.Proofs.Ytaickhhbdbbmjaa.came
open Go.RowKit law bytes
open Go.ChangeShapes Go.WideShapes Go.Deep Go.ChangeAt
section
variable {H : Type} {enc : TypeId × Value → H} {P : Program} {w : World} {base : Nat} {held : Bool}
theorem weighs {e : TypeId} {d : DataW H} : ∀ {l : List (DataW H)}, d ∈ l → ∀ n ∈ d.weights P e, n ∈ DataW.weightsAll P e l
  | [], hd, _, _ => by simp at hd
  | x :: l, hd, n, hn => by
    simp only [DataW.weightsAll, List.mem_append]
    rcases List.mem_cons.1 hd with rfl | hd
    · exact .inl hn
    · exact .inr (weighs hd n hn)
/-- what weighs on an element of a slice that reaches the law -/
theorem weighs_slice {ts : List TypeId} {ds : List (DataW H)} {j : Nat} {t e : TypeId} {el sp : List (DataW H)} {d : DataW H} (h : (DataW.weightsEach P ts ds).all (· ≤ reachBytes) = true) (hj : ts[j]? = some t) (hdj : ds[j]? = some (.slice el sp)) (ht : P.underlying t = some (.slice e)) (hd : d ∈ el) :
    ∀ n ∈ d.weights P e, n ≤ reachBytes := fun n hn => by
  have h1 := List.all_eq_true.1 h n (DataW.weights_mem_each hj hdj n (by
    simp only [DataW.weights, ht, List.mem_cons, List.mem_append]
    exact .inr (.inl (weighs hd n hn))))
  simpa using h1
theorem open_rowD {α : Type} {N : Nat} {r : Reach} {b0 : Nat} {t e : TypeId} {v : Value} {d : DataW H} {p : List MemPlace} {cells : α → List Value} {R : α → DataW H → Prop} (ht : P.underlying t = some (.slice e)) (hC : P.cellsOf e = N)
    (k : ∀ (fuel : Nat) (cs : List Value) (y : DataW H × List MemPlace), DataW.trod enc P w base (fun _ => true) held fuel e cs = some y → ∃ a, cs = cells a ∧ R a y.1)
    (hv : Value.okWide P w r b0 t v) (h : DataW.Trod enc P w base (fun _ => true) held t v d p) :
    ∃ A c, ∃ l : List α, v = .slice A l.length c ∧ Came N cells w A l ∧ (l = [] ∨ ∃ el sp, d = .slice el sp ∧ l.length ≤ el.length + sp.length ∧ ∀ i (hi : i < l.length), ∃ x ∈ el, R l[i] x) := by
  obtain ⟨A, len, cap, rfl⟩ := okWide_slice ht hv
  obtain ⟨fuel, hf⟩ := h
  rcases open_slice ht hf with ⟨hcs, hx⟩ | ⟨a, len', cap', m, n, D, Pl, hcs, _, hl, hm, hmm, hx, hi⟩
  · simp [Value.cells] at hcs
    obtain ⟨rfl, rfl, rfl⟩ := hcs
    exact ⟨none, 0, [], rfl, fun i hi => absurd hi (by simp), .inl rfl⟩
  · simp [Value.cells] at hcs
    obtain ⟨rfl, rfl, rfl⟩ := hcs
    simp only [if_true] at hmm
    have hex : ∀ i, i < len → ∃ q : α, (∀ j, j < N → w.cell? (a.add (i * N + j)) = (cells q)[j]?) ∧ R q (D i) := fun i hlt => by
      obtain ⟨cs', hc, hr⟩ := hi i (by omega)
      obtain ⟨q, rfl, hR⟩ := k _ _ _ hr
      rw [hC] at hc
      obtain ⟨-, -, hat⟩ := World.cells?_some hc
      refine ⟨q, fun j hj => ?_, hR⟩
      rw [← Go.Deep.add_add, hat j hj]
    obtain ⟨l, hl2, hR⟩ := list_of hex
    injection hx with hd hp
    refine ⟨some a, cap, l, by rw [hl2], fun i hi => ⟨a, rfl, (hR i (by omega) hi).1⟩, .inr ⟨_, _, hd, by simp; omega, fun i hi => ⟨D i, ?_, (hR i (by omega) hi).2⟩⟩⟩
    exact List.mem_map.2 ⟨i, List.mem_range.2 (by omega), rfl⟩
end
end Go.Proofs.Ytaickhhbdbbmjaa.came
