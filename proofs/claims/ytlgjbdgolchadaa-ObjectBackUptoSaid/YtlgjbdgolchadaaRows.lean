/-
  No cell of these rows narrows 'for every input' (looked for: loops, veiled, ifaces, maps, wideKeys, modest, calm, conditions, laid).
  DERIVED. THE GIVEN ROWS OF THIS SEAT. 4 by the template 'for every input the law returns true; each argument reads behind the call as it read before'; 0 by the template 'total and deterministic' (their statements: YtlgjbdgolchadaaTotals.lean).
  GIVEN WITH THE SEED: the statements are not yours to turn. If you find one false, say at which input.
  Laid BY PROGRAM, IN A SANDBOX (cutbox-rows.mjs): the forced cells as the released guide's own fill.sh prints them over the translation 756fd23a030956c9… (all of the seat's roots in one cut). By AI agents, Wed Nov 11 2026. No macro, syntax, notation, axiom, sorry.
-/
import Derived.Test.YtlgjbdgolchadaaChecked
import GoSem.Claim
import GoSem.ClaimJoined
import GoSem.ClaimMapViews
import Derived.JoinedTies
import Derived.KernelRfl
namespace Go.Proofs.Ytlgjbdgolchadaa
/- THE CELL 'sum', in the pinned program and in every row, IS THE sha256 OF THE DUMP (.gsa) THAT YtlgjbdgolchadaaProg.lean LOADS. Nothing in Lean hashes anything: it is a label: what it is worth is what the hold of that sum in a sandbox is worth. -/
noncomputable def Try.pinned : Pinned := { name := "ytlgjbdgolchadaa", sum := "756fd23a030956c9cd0eaa0f34bbd739d83a65d24738a77fd64e833cfa93d9fb", checked := Try.checked }
namespace Rows
def none {H : Type} : Left H := { results := [], args := [] }

/-- 'waywiserlaw05.ObjectRight': WHATEVER THE INPUT: true; the input reads as it did. -/
def objectRightSpec : ChangeSpec := { name := "objectRight", fn := fun _ => fun
  | [d1, d2, d3] => { results := [.lit (.bool true)], args := [d1, d2, d3] }
  | _ => none }
def objectRightRow : OpenClaim := { program := "ytlgjbdgolchadaa", sum := "756fd23a030956c9cd0eaa0f34bbd739d83a65d24738a77fd64e833cfa93d9fb", func := "waywiser/waywiserlaw05.ObjectRight", spec := "objectRight", apart := false }
def ObjectRightSaid : Prop := objectRightRow.holds Try.pinned (OpenSpec.ofChange objectRightSpec)

/-- ITS FALSE NEIGHBOUR: 'it returns false'. Refute it at one input. -/
def objectRightWrong : ChangeSpec := { name := "objectRight", fn := fun _ => fun
  | [d1, d2, d3] => { results := [.lit (.bool false)], args := [d1, d2, d3] }
  | _ => none }
def ObjectRightWrongFalsely : Prop := objectRightRow.holds Try.pinned (OpenSpec.ofChange objectRightWrong)

/-- 'waywiserlaw05.ObjectOrder': WHATEVER THE INPUT: true; the input reads as it did. -/
def objectOrderSpec : ChangeSpec := { name := "objectOrder", fn := fun _ => fun
  | [d1, d2, d3] => { results := [.lit (.bool true)], args := [d1, d2, d3] }
  | _ => none }
def objectOrderRow : OpenClaim := { program := "ytlgjbdgolchadaa", sum := "756fd23a030956c9cd0eaa0f34bbd739d83a65d24738a77fd64e833cfa93d9fb", func := "waywiser/waywiserlaw05.ObjectOrder", spec := "objectOrder", inPlace := ["internal/bytealg.abigen_runtime_cmpstring"], apart := false }
def ObjectOrderSaid : Prop := objectOrderRow.holds Try.pinned (OpenSpec.ofChange objectOrderSpec)

/-- ITS FALSE NEIGHBOUR: 'it returns false'. Refute it at one input. -/
def objectOrderWrong : ChangeSpec := { name := "objectOrder", fn := fun _ => fun
  | [d1, d2, d3] => { results := [.lit (.bool false)], args := [d1, d2, d3] }
  | _ => none }
def ObjectOrderWrongFalsely : Prop := objectOrderRow.holds Try.pinned (OpenSpec.ofChange objectOrderWrong)

/-- 'waywiserlaw05.ObjectCodes': WHATEVER THE INPUT: true; the input reads as it did. -/
def objectCodesSpec : ChangeSpec := { name := "objectCodes", fn := fun _ => fun
  | [d1, d2] => { results := [.lit (.bool true)], args := [d1, d2] }
  | _ => none }
def objectCodesRow : OpenClaim := { program := "ytlgjbdgolchadaa", sum := "756fd23a030956c9cd0eaa0f34bbd739d83a65d24738a77fd64e833cfa93d9fb", func := "waywiser/waywiserlaw05.ObjectCodes", spec := "objectCodes", unfollowed := true, recurses := true, apart := false }
def ObjectCodesSaid : Prop := objectCodesRow.holds Try.pinned (OpenSpec.ofChange objectCodesSpec)

/-- ITS FALSE NEIGHBOUR: 'it returns false'. Refute it at one input. -/
def objectCodesWrong : ChangeSpec := { name := "objectCodes", fn := fun _ => fun
  | [d1, d2] => { results := [.lit (.bool false)], args := [d1, d2] }
  | _ => none }
def ObjectCodesWrongFalsely : Prop := objectCodesRow.holds Try.pinned (OpenSpec.ofChange objectCodesWrong)

/-- 'waywiserlaw05.ObjectBack': WHATEVER THE INPUT: true; the input reads as it did. -/
def objectBackSpec : ChangeSpec := { name := "objectBack", fn := fun _ => fun
  | [d1, d2, d3] => { results := [.lit (.bool true)], args := [d1, d2, d3] }
  | _ => none }
def objectBackRow : OpenClaim := { program := "ytlgjbdgolchadaa", sum := "756fd23a030956c9cd0eaa0f34bbd739d83a65d24738a77fd64e833cfa93d9fb", func := "waywiser/waywiserlaw05.ObjectBack", spec := "objectBack", unfollowed := true, recurses := true, apart := false }
def ObjectBackSaid : Prop := objectBackRow.holds Try.pinned (OpenSpec.ofChange objectBackSpec)

/-- ITS FALSE NEIGHBOUR: 'it returns false'. Refute it at one input. -/
def objectBackWrong : ChangeSpec := { name := "objectBack", fn := fun _ => fun
  | [d1, d2, d3] => { results := [.lit (.bool false)], args := [d1, d2, d3] }
  | _ => none }
def ObjectBackWrongFalsely : Prop := objectBackRow.holds Try.pinned (OpenSpec.ofChange objectBackWrong)

/- THE SECOND FORM. 'bulk': how many values and letters a reading holds, each counted each time it is reached (what is shared counts as often as it is met; a slice's spare places count too). A statement '..UptoSaid' is the law's where the arguments, and the package variables that the reading takes, are together of bulk at most 1048576: NARROWER than '..Said'. Prove '..Said' where nothing that the law and all that it calls make is longer than what came in: it says more and counts as full. Else prove '..UptoSaid'. A law counts once. -/
mutual
def uptoBulk {H : Type} : DataW H → Nat
  | .lit (.string bytes) => bytes.length + 1
  | .lit _ => 1
  | .nil => 1
  | .ptr d => uptoBulk d + 1
  | .slice elems spare => uptoBulkAll elems + uptoBulkAll spare + 1
  | .agg parts => uptoBulkAll parts + 1
  | .iface _ d => uptoBulk d + 1
  | .map entries => uptoBulkEntries entries + 1
  | .held _ => 1
def uptoBulkAll {H : Type} : List (DataW H) → Nat
  | [] => 0
  | d :: r => uptoBulk d + uptoBulkAll r
def uptoBulkEntries {H : Type} : List (Lit × DataW H) → Nat
  | [] => 0
  | x :: r => uptoBulkEntry x + uptoBulkEntries r
def uptoBulkEntry {H : Type} : Lit × DataW H → Nat
  | (.string bytes, d) => bytes.length + uptoBulk d + 1
  | (_, d) => uptoBulk d + 1
 end
def uptoSmall : (H : Type) → List (DataW H) → Bool := fun _ ds => decide (uptoBulkAll ds ≤ 1048576)
def OpenSpec.upto (s : _root_.Go.ChangeSpec) : _root_.Go.OpenSpec := { _root_.Go.OpenSpec.ofChange s with cond := some uptoSmall }

/-- 'waywiserlaw05.ObjectRight', WHERE WHAT IT READS IS OF BULK AT MOST 1048576: true; the input reads as it did. -/
def objectRightUptoRow : OpenClaim := { program := "ytlgjbdgolchadaa", sum := "756fd23a030956c9cd0eaa0f34bbd739d83a65d24738a77fd64e833cfa93d9fb", func := "waywiser/waywiserlaw05.ObjectRight", spec := "objectRight", apart := false, narrowed := true }
def ObjectRightUptoSaid : Prop := objectRightUptoRow.holds Try.pinned (OpenSpec.upto objectRightSpec)

/-- 'waywiserlaw05.ObjectOrder', WHERE WHAT IT READS IS OF BULK AT MOST 1048576: true; the input reads as it did. -/
def objectOrderUptoRow : OpenClaim := { program := "ytlgjbdgolchadaa", sum := "756fd23a030956c9cd0eaa0f34bbd739d83a65d24738a77fd64e833cfa93d9fb", func := "waywiser/waywiserlaw05.ObjectOrder", spec := "objectOrder", inPlace := ["internal/bytealg.abigen_runtime_cmpstring"], apart := false, narrowed := true }
def ObjectOrderUptoSaid : Prop := objectOrderUptoRow.holds Try.pinned (OpenSpec.upto objectOrderSpec)

/-- 'waywiserlaw05.ObjectCodes', WHERE WHAT IT READS IS OF BULK AT MOST 1048576: true; the input reads as it did. -/
def objectCodesUptoRow : OpenClaim := { program := "ytlgjbdgolchadaa", sum := "756fd23a030956c9cd0eaa0f34bbd739d83a65d24738a77fd64e833cfa93d9fb", func := "waywiser/waywiserlaw05.ObjectCodes", spec := "objectCodes", unfollowed := true, recurses := true, apart := false, narrowed := true }
def ObjectCodesUptoSaid : Prop := objectCodesUptoRow.holds Try.pinned (OpenSpec.upto objectCodesSpec)

/-- 'waywiserlaw05.ObjectBack', WHERE WHAT IT READS IS OF BULK AT MOST 1048576: true; the input reads as it did. -/
def objectBackUptoRow : OpenClaim := { program := "ytlgjbdgolchadaa", sum := "756fd23a030956c9cd0eaa0f34bbd739d83a65d24738a77fd64e833cfa93d9fb", func := "waywiser/waywiserlaw05.ObjectBack", spec := "objectBack", unfollowed := true, recurses := true, apart := false, narrowed := true }
def ObjectBackUptoSaid : Prop := objectBackUptoRow.holds Try.pinned (OpenSpec.upto objectBackSpec)

end Rows
end Go.Proofs.Ytlgjbdgolchadaa
