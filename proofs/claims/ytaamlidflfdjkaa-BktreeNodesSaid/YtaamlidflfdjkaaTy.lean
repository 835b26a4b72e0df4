/-
  Which type a block's cells have; a thing's numbers in blocks that a call owns; things that distances are told of.
-/
import Derived.Test.YtaamlidflfdjkaaGMet
import Derived.Test.YtaamlidflfdjkaaGObj
import Derived.Test.YtaamlidflfdjkaaGLib
import Derived.Maps.OwnSet
namespace Go.Proofs.Ytaamlidflfdjkaa.tab
open Go.RowKit Go.WideShapes law bytes only flat nums ord obj metric
set_option linter.unusedVariables false

/-! ### which type a block's cells have -/
def Ty (w : World) (i : Nat) (t : TypeId) : Prop := ∃ cs z, w.heap[i]? = some (.cells cs t z)
section
variable {w w' : World} {i g : Nat} {t t' : TypeId}
theorem Ty.one (h : Ty w i t) (h' : Ty w i t') : t = t' := by
  obtain ⟨cs, z, e⟩ := h
  obtain ⟨cs', z', e'⟩ := h'
  rw [e] at e'
  injection e' with e'
  injection e'
theorem Ty.blk {cs : Array Value} (h : Blk w g t cs) : Ty w g t := ⟨cs, _, h⟩
theorem Ty.own {base k n : Nat} {v : Value} {xs : List Value} (h : w.ownsRow base t k v n xs) {g : Nat} (hg : v.ownBlock = some g) : Ty w g t := by
  rcases h.2 with ⟨rfl, _⟩ | ⟨g', cap, cur, rfl, _, hh, _⟩
  · cases hg
  · injection hg with hg
    subst hg
    exact ⟨_, _, hh⟩
theorem Ty.map {P : Program} {k : TypeId} {R : Value → Option (DataW Unit × List MemPlace)} {n : Nat} {D : DataW Unit} (h : w.ownsMap P k R g n D) (h' : Ty w g t) : False := by
  obtain ⟨es, clock, e, _⟩ := h
  obtain ⟨cs, z, e'⟩ := h'
  rw [e] at e'
  cases e'
theorem Ty.keep (h : Ty w i t) (e : w'.heap[i]? = w.heap[i]?) : Ty w' i t := by
  obtain ⟨cs, z, h⟩ := h
  exact ⟨cs, z, e.trans h⟩
theorem Ty.lt (h : Ty w i t) : i < w.heap.size := by
  obtain ⟨cs, z, h⟩ := h
  exact (Array.getElem?_eq_some_iff.1 h).1
end
/-- a thing's numbers, in T's blocks of numbers -/
def Vc (w : World) (T : Nat → Prop) (A : Option Addr) (xs : List Value) : Prop := ∀ j u, xs[j]? = some u → ∃ a, A = some a ∧ T a.block ∧ Ty w a.block 21 ∧ w.cell? (a.add j) = some u
section
variable {w w' : World} {T T' S : Nat → Prop} {A : Option Addr} {xs : List Value}
theorem Vc.sl (h : Vc w T A xs) : Sl w w.heap.size A xs := fun j u hj => by
  obtain ⟨a, e, ht, hy, hc⟩ := h j u hj
  exact ⟨a, e, hy.lt, hc⟩
theorem Vc.only (h : Vc w T A xs) (o : Only S w w') (hS : ∀ i, T i → Ty w i 21 → ¬ S i) : Vc w' T A xs := fun j u hj => by
  obtain ⟨a, e, ht, hy, hc⟩ := h j u hj
  have hk := o.block a.block hy.lt (hS _ ht hy)
  exact ⟨a, e, ht, hy.keep hk, (World.cell?_of_block (a := a.add j) (by rw [blk_add]; exact hk)).trans hc⟩
theorem Vc.mono (h : Vc w T A xs) (hT : ∀ i, T i → T' i) : Vc w T' A xs := fun j u hj => by
  obtain ⟨a, e, ht, hy, hc⟩ := h j u hj
  exact ⟨a, e, hT _ ht, hy, hc⟩
theorem Vc.own {B n c : Nat} (h : w.ownsRow B 21 1 (.slice A n c) n xs) (hT : ∀ i, (Value.slice A n c).ownBlock = some i → T i) : Vc w T A xs := fun j u hj => by
  rcases h.2 with ⟨h', rfl⟩ | ⟨g, cap, cur, hv, _, hh, _⟩
  · have : xs = [] := List.eq_nil_of_length_eq_zero (by simpa using h.1)
    subst this
    simp at hj
  · injection hv with hA
    subst hA
    exact ⟨_, rfl, hT g rfl, ⟨_, _, hh⟩, h.cells (g := g) rfl j u hj⟩
end
/-- a thing that distances are told of -/
def Bf (x : Thing) : Prop := dist.Bd x.vec ∧ x.vec.length ≤ 65536 ∧ x.str.size ≤ 65536
theorem Bf.small {x : Thing} (h : Bf x) : Small x := ⟨h.1, by have := h.2.1; omega, by have := h.2.2; omega⟩
end Go.Proofs.Ytaamlidflfdjkaa.tab
