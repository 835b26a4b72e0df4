/-
  Program-free: a row that is read, away from what turns.
-/
import Derived.Test.YtaickhhbdbbmjaaRowK
namespace Go.Proofs.Ytaickhhbdbbmjaa.flat
open Go.RowKit bytes only
set_option linter.unusedVariables false

/-- a row that is read, in none of T's blocks -/
def Away (W : World) (T : Nat → Prop) (A : Option Addr) (xs : List Value) : Prop := ∀ j u, xs[j]? = some u → ∃ ad, A = some ad ∧ ad.block < W.heap.size ∧ ¬ T ad.block ∧ W.cell? (ad.add j) = some u
section
variable {W W2 : World} {T T2 : Nat → Prop} {A : Option Addr} {xs : List Value}
theorem Away.nil : Away W T A [] := fun j u h => by simp at h
theorem Away.sl (h : Away W T A xs) : Sl W W.heap.size A xs := fun j u hj => by
  obtain ⟨ad, e, hb, _, hc⟩ := h j u hj
  exact ⟨ad, e, hb, hc⟩
theorem Away.step (h : Away W T A xs) (o : Only T W W2) (hT : ∀ i, i < W.heap.size → ¬ T i → ¬ T2 i) : Away W2 T2 A xs := fun j u hj => by
  obtain ⟨ad, rfl, hb, hm, hc⟩ := h j u hj
  refine ⟨ad, rfl, Nat.lt_of_lt_of_le hb o.size, hT _ hb hm, ?_⟩
  rw [World.cell?_of_block (o.block _ (by rw [blk_add]; exact hb) (by rw [blk_add]; exact hm))]
  exact hc
theorem Away.below (h : Away W T A xs) (o : Below W.heap.size W W2) : Away W2 T A xs := h.step (Only.of_below o (Nat.le_refl _) _) fun _ _ e => e
/-- what was made behind all that turns -/
theorem Away.made {B : Nat} {e : TypeId} {k n c : Nat} (hk : 0 < k) (ho : W.ownsRow B e k (.slice A n c) n xs) (hT : ∀ i, T i → i < B) : Away W T A xs := fun j u hj => by
  have hn : 0 < n := by
    have := ho.1
    have hj2 := (List.getElem?_eq_some_iff.1 hj).1
    rcases Nat.eq_zero_or_pos n with h0 | h0
    · rw [h0] at this; omega
    · exact h0
  obtain ⟨ad, e4, hb, hc⟩ := Sl.of_ownK ho j u hj
  obtain ⟨g, k, e1, h1, h2, _⟩ := own_form ho hn
  injection e1 with e1 _ _
  rw [e1] at e4
  injection e4 with e4
  refine ⟨ad, by rw [e1, e4], hb, fun ht => ?_, hc⟩
  have := hT _ ht
  rw [← e4] at this
  exact absurd h1 (by simpa using this)
end
end Go.Proofs.Ytaickhhbdbbmjaa.flat
