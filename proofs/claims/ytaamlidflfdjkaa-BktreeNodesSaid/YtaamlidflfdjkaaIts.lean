/-
  Items in memory that no turn of T reaches.
-/
import Derived.Test.YtaamlidflfdjkaaTy
import Derived.Test.YtaamlidflfdjkaaGItm
import Derived.Test.YtaamlidflfdjkaaGLib
namespace Go.Proofs.Ytaamlidflfdjkaa.tab
open Go.RowKit Go.WideShapes law bytes only flat nums ord obj metric
open aro (Kept)
open store (iE iE_len itemAt)
set_option linter.unusedVariables false

/-- items that no turn of T's blocks reaches -/
structure Its (w : World) (T : Nat → Prop) (A : Option Addr) (l : List (Int × Kept)) : Prop where
  row : Away w T A (l.flatMap iE)
  vec : ∀ p ∈ l, Away w T p.2.A (iv p.2.x.vec)
theorem Its.step {w w' : World} {T T2 : Nat → Prop} {A : Option Addr} {l : List (Int × Kept)} (h : Its w T A l) (o : Only T w w') (hT : ∀ i, i < w.heap.size → ¬ T i → ¬ T2 i) : Its w' T2 A l := ⟨h.row.step o hT, fun p hp => (h.vec p hp).step o hT⟩
theorem Its.below {w w' : World} {T : Nat → Prop} {A : Option Addr} {l : List (Int × Kept)} (h : Its w T A l) (o : Below w.heap.size w w') : Its w' T A l := h.step (Only.of_below o (Nat.le_refl _) _) fun _ _ e => e
end Go.Proofs.Ytaamlidflfdjkaa.tab
