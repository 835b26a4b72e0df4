/-
  BktreeNodes: where the law stands between two acts, and what each act makes of it.
-/
import Derived.Test.YtaamlidflfdjkaaBkP
import Derived.Test.YtaamlidflfdjkaaBkN
import Derived.Test.YtaamlidflfdjkaaBkD
import Derived.Test.YtaamlidflfdjkaaBkU
namespace Go.Proofs.Ytaamlidflfdjkaa.bk
open Go.RowKit Go.WideShapes law bytes only flat nums ord obj metric tab store
open aro (Kept)
open Go.Maps Go.ChangeAt
set_option linter.unusedVariables false
set_option maxRecDepth 100000
/-- the tree, the document's items, the document's nodes -/
structure Sn (W : World) (base tb g : Nat) (n k : Int) (T : Nat → Prop) (N : List Nd) (A : Option Addr) (q : List (Int × Kept)) (A2 : Option Addr) (l : List Nd) : Prop where
  bx : Bx W base tb g n k T N
  same : l.map bn = N.map bn
  it : It (N.map bn) q
  items : Away W (fun i => i = g ∨ T i) A (q.flatMap iE)
  row : Away W (fun i => i = g ∨ T i) A2 (l.flatMap bkE)
  vec : ∀ d ∈ l, Away W (fun i => i = g ∨ T i) d.t.a (iv d.t.x.vec)
  small : ∀ d ∈ l, Small d.t.x
section
variable {w w' W W' : World} {base tb g : Nat} {n k k' : Int} {T T' : Nat → Prop} {N N' : List Nd} {A A' A2 : Option Addr} {q q' : List (Int × Kept)} {l : List Nd} {c : Nat}
theorem Sn.len (h : Sn W base tb g n k T N A q A2 l) : l.length = N.length := by
  have := congrArg List.length h.same
  rwa [List.length_map, List.length_map] at this
theorem Sn.below (h : Sn W base tb g n k T N A q A2 l) (o : Below W.heap.size W W') : Sn W' base tb g n k T N A q A2 l :=
  ⟨h.bx.below o, h.same, h.it, h.items.below o, h.row.below o, fun d hd => (h.vec d hd).below o, h.small⟩
/-- behind a turn of the tree: rows still read -/
theorem Sn.rows (h : Sn W base tb g n k T N A q A2 l) (o : Only (fun i => i = g ∨ T i) W W') (hT : ∀ i, T' i → T i ∨ W.heap.size ≤ i) :
    Away W' (fun i => i = g ∨ T' i) A (q.flatMap iE) ∧ Away W' (fun i => i = g ∨ T' i) A2 (l.flatMap bkE) ∧ ∀ d ∈ l, Away W' (fun i => i = g ∨ T' i) d.t.a (iv d.t.x.vec) := by
  have hs : ∀ i, i < W.heap.size → ¬ (i = g ∨ T i) → ¬ (i = g ∨ T' i) := fun i hi hn he => by
    rcases he with he | he
    · exact hn (.inl he)
    · rcases hT i he with h1 | h1
      · exact hn (.inr h1)
      · omega
  exact ⟨h.items.step o hs, h.row.step o hs, fun d hd => (h.vec d hd).step o hs⟩
end
end Go.Proofs.Ytaamlidflfdjkaa.bk
