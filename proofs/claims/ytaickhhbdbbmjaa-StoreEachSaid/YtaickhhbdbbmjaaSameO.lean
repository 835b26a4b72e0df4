/-
  The contract of object.Same, and what lives.
-/
import Derived.Test.YtaickhhbdbbmjaaRight
namespace Go.Proofs.Ytaickhhbdbbmjaa.obj
open Go.RowKit law bytes nums ord
set_option linter.unusedVariables false

def Alike (l m : List Int) (k : Nat) : Prop := l.take k = m.take k
theorem Alike.zero {l m : List Int} : Alike l m 0 := by simp [Alike]
theorem Alike.step {l m : List Int} {k : Nat} (h : Alike l m k) (h1 : k < l.length) (h2 : k < m.length) (he : l[k] = m[k]) : Alike l m (k + 1) := by
  unfold Alike at *
  rw [List.take_succ_eq_append_getElem h1, List.take_succ_eq_append_getElem h2, h, he]
theorem Alike.all {l m : List Int} {k : Nat} (h : Alike l m k) (hl : m.length = l.length) (hk : l.length ≤ k) : l = m := by
  unfold Alike at h
  rwa [List.take_of_length_le hk, List.take_of_length_le (by omega)] at h
/-- a bool, and nothing but draws -/
def Tells (b : Bool) (w : World) (e : Ending) (w' : World) : Prop := e = .returned (.bool b) ∧ ∃ k, w' = w.drewN k

theorem two_box (w : World) (t : Nat) (a b : Array Value) : Below w.heap.size w ((w.alloc (.cells a t)).alloc (.cells b t)) ∧ Blk ((w.alloc (.cells a t)).alloc (.cells b t)) w.heap.size t a ∧ Blk ((w.alloc (.cells a t)).alloc (.cells b t)) (w.heap.size + 1) t b := by
  refine ⟨((Below.refl _ w).alloc (Nat.le_refl _) _).alloc (by simp) _, (Blk.new w t a).alloc _, ?_⟩
  have h := Blk.new (w.alloc (.cells a t)) t b
  rwa [show (w.alloc (.cells a t)).heap.size = w.heap.size + 1 from by simp] at h
theorem sameO_iff (x y : Thing) : sameO x y = true ↔ x.tag = y.tag ∧ x.str = y.str ∧ x.vec = y.vec := by
  unfold sameO
  rw [decide_eq_true_iff, cmpO_tot.zero]
  obtain ⟨a, b, c⟩ := x
  obtain ⟨a', b', c'⟩ := y
  simp only [Thing.mk.injEq]
  exact ⟨fun ⟨h1, h2, h3⟩ => ⟨h1, h3, h2⟩, fun ⟨h1, h2, h3⟩ => ⟨h1, h3, h2⟩⟩
theorem list_eq_iff (a b : ByteArray) : (a.toList == b.toList) = decide (a = b) := by
  rw [Bool.eq_iff_iff]
  simp only [beq_iff_eq, decide_eq_true_eq, Lib.toList_data]
  exact ⟨fun h => tl_inj h, fun h => by rw [h]⟩
end Go.Proofs.Ytaickhhbdbbmjaa.obj
