/-
  What lives (layer 5); calls inside regions, over a world that stays below.
-/
import Derived.Test.YtaickhhbdbbmjaaSameO
import Derived.Deep.RegionHeld3
namespace Go.Proofs.Ytaickhhbdbbmjaa.obj
open Go.RowKit law bytes nums ord
set_option linter.unusedVariables false

theorem on {P : Program} {f : FuncId} {args : Array Value} {V W : World} {v : Value} (hb : Below V.heap.size V W) (h : Calls P f args W (Gives v W)) : Calls P f args W fun e w' => e = .returned v ∧ Below V.heap.size V w' :=
  h.mono fun e w' ⟨he, h2⟩ => ⟨he, hb.trans (h2.mono hb.size)⟩
theorem add_zero_at (b j : Nat) : (⟨b, 0, none⟩ : Addr).add j = ⟨b, j, none⟩ := by
  unfold Addr.add
  by_cases hz : j = 0 <;> simp [hz]
theorem Sl.of_blk {w : World} {b t : Nat} {cs : Array Value} (h : Blk w b t cs) : Sl w w.heap.size (some ⟨b, 0, none⟩) cs.toList := fun j u hj => by
  refine ⟨_, rfl, h.lt, ?_⟩
  rw [add_zero_at, h.cell j]
  simpa using hj
def live : Thing := ⟨1, [3, -4], ⟨#[]⟩⟩
end Go.Proofs.Ytaickhhbdbbmjaa.obj
