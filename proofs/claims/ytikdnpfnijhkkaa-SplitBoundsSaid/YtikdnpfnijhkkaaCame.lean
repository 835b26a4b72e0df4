/-
  Program-free: a row of structs that came in, as many cells each: a list of what they hold, where each cell stands, how many there may be.
-/
import Derived.Test.YtikdnpfnijhkkaaBytes
import Derived.Deep.Slices
import Derived.Deep.Fields
namespace Go.Proofs.Ytikdnpfnijhkkaa.came
open Go.RowKit law bytes
open Go.ChangeShapes Go.WideShapes Go.Deep Go.ChangeAt
section
variable {H : Type} {enc : TypeId × Value → H} {P : Program} {w : World} {base : Nat} {held : Bool}
theorem list_of {α : Type} {R : Nat → α → Prop} {n : Nat} (h : ∀ i, i < n → ∃ q, R i q) : ∃ l : List α, l.length = n ∧ ∀ i, i < n → ∀ hi : i < l.length, R i l[i] := by
  induction n with
  | zero => exact ⟨[], rfl, fun i hi => absurd hi (by omega)⟩
  | succ n ih =>
    obtain ⟨l, hl, hR⟩ := ih (fun i hi => h i (by omega))
    obtain ⟨q, hq⟩ := h n (by omega)
    refine ⟨l ++ [q], by simp [hl], fun i hi hi2 => ?_⟩
    rcases Nat.lt_or_ge i l.length with hlt | hge
    · rw [List.getElem_append_left hlt]; exact hR i (by omega) hlt
    · obtain rfl : i = n := by omega
      rw [List.getElem_append_right hge]
      simpa using hq
/-- a row of what has N cells each, in memory -/
def Came {α : Type} (N : Nat) (cells : α → List Value) (w : World) (B : Option Addr) (l : List α) : Prop := ∀ i (hi : i < l.length), ∃ ad, B = some ad ∧ ∀ j, j < N → w.cell? (ad.add (i * N + j)) = (cells l[i])[j]?
theorem open_row {α : Type} {N : Nat} {r : Reach} {b0 : Nat} {t e : TypeId} {v : Value} {d : DataW H} {p : List MemPlace} {cells : α → List Value} {R : α → Prop} (ht : P.underlying t = some (.slice e)) (hC : P.cellsOf e = N)
    (k : ∀ (fuel : Nat) (cs : List Value) (y : DataW H × List MemPlace), DataW.trod enc P w base (fun _ => true) held fuel e cs = some y → ∃ a, cs = cells a ∧ R a)
    (hv : Value.okWide P w r b0 t v) (h : DataW.Trod enc P w base (fun _ => true) held t v d p) :
    ∃ A c, ∃ l : List α, v = .slice A l.length c ∧ l.length ≤ maxLen ∧ (∀ i (hi : i < l.length), R l[i]) ∧ Came N cells w A l ∧ (l = [] ∨ ∃ el sp, d = .slice el sp ∧ l.length ≤ el.length + sp.length) := by
  obtain ⟨A, len, cap, rfl⟩ := okWide_slice ht hv
  obtain ⟨fuel, hf⟩ := h
  rcases open_slice ht hf with ⟨hcs, hx⟩ | ⟨a, len', cap', m, n, D, Pl, hcs, _, hl, hm, hmm, hx, hi⟩
  · simp [Value.cells] at hcs
    obtain ⟨rfl, rfl, rfl⟩ := hcs
    exact ⟨none, 0, [], rfl, Nat.zero_le _, fun i hi => absurd hi (by simp), fun i hi => absurd hi (by simp), .inl rfl⟩
  · simp [Value.cells] at hcs
    obtain ⟨rfl, rfl, rfl⟩ := hcs
    simp only [if_true] at hmm
    have hex : ∀ i, i < len → ∃ q : α, (∀ j, j < N → w.cell? (a.add (i * N + j)) = (cells q)[j]?) ∧ R q := fun i hlt => by
      obtain ⟨cs', hc, hr⟩ := hi i (by omega)
      obtain ⟨q, rfl, hR⟩ := k _ _ _ hr
      rw [hC] at hc
      obtain ⟨-, -, hat⟩ := World.cells?_some hc
      refine ⟨q, fun j hj => ?_, hR⟩
      rw [← Go.Deep.add_add, hat j hj]
    obtain ⟨l, hl2, hR⟩ := list_of hex
    injection hx with hd hp
    refine ⟨some a, cap, l, by rw [hl2], by omega, fun i hi => (hR i (by omega) hi).2, fun i hi => ⟨a, rfl, (hR i (by omega) hi).1⟩, .inr ⟨_, _, hd, by simp; omega⟩⟩
end
theorem spot_none {w : World} {ad : Addr} {v : Value} (h : w.cell? ad = some v) : ad = ⟨ad.block, ad.off, none⟩ := by
  obtain ⟨b, o, s⟩ := ad
  cases s with
  | none => rfl
  | some s =>
    simp only [World.cell?] at h
    split at h
    · simp at h
    · cases h
theorem Came.row {α : Type} {N : Nat} {cells : α → List Value} {w : World} {B : Option Addr} {l : List α} (h : Came N cells w B l) (hN : 0 < N) (hc : ∀ a, (cells a).length = N) (hl : 0 < l.length) : ∃ b o, B = some ⟨b, o, none⟩ ∧ b < w.heap.size := by
  obtain ⟨ad, rfl, hat⟩ := h 0 hl
  have h0 := hat 0 hN
  have e : ad.add (0 * N + 0) = ad := by unfold Addr.add; simp
  rw [e, List.getElem?_eq_getElem (by rw [hc]; exact hN)] at h0
  exact ⟨ad.block, ad.off, by rw [← spot_none h0], World.block_lt_of_cell? w _ h0⟩
theorem Came.at_ {α : Type} {N : Nat} {cells : α → List Value} {w : World} {l : List α} {b o : Nat} (h : Came N cells w (some ⟨b, o, none⟩) l) (k : Nat) (hk : k < l.length) (j : Nat) (hj : j < N) : w.cell? ⟨b, o + k * N + j, none⟩ = (cells l[k])[j]? := by
  obtain ⟨ad, e, hc⟩ := h k hk
  injection e with e
  subst e
  have := hc j hj
  unfold Addr.add at this
  split at this
  · rename_i h0
    rw [show o + k * N + j = o from by omega]
    exact this
  · simpa [Nat.add_assoc] using this
end Go.Proofs.Ytikdnpfnijhkkaa.came
