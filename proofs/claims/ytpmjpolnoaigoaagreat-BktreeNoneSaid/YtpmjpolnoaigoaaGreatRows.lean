/-
  No cell of these rows narrows 'for every input' (looked for: loops, veiled, ifaces, maps, wideKeys, modest, calm, conditions, laid).
  DERIVED. THE GIVEN ROWS OF THIS SEAT. 5 by the template 'for every input the law returns true; each argument reads behind the call as it read before'; 0 by the template 'total and deterministic' (their statements: YtpmjpolnoaigoaaGreatTotals.lean).
  GIVEN WITH THE SEED: the statements are not yours to turn. If you find one false, say at which input.
  Laid BY PROGRAM, IN A SANDBOX (cutbox-rows.mjs): the forced cells as the released guide's own fill.sh prints them over the translation 6de392a5899643b4… (all of the seat's roots in one cut). By AI agents, Wed Nov 11 2026. No macro, syntax, notation, axiom, sorry.
-/
import Derived.Test.YtpmjpolnoaigoaaGreatChecked
import GoSem.Claim
import GoSem.ClaimJoined
import GoSem.ClaimMapViews
import Derived.JoinedTies
import Derived.KernelRfl
namespace Go.Proofs.YtpmjpolnoaigoaaGreat
/- THE CELL 'sum', in the pinned program and in every row, IS THE sha256 OF THE DUMP (.gsa) THAT YtpmjpolnoaigoaaGreatProg.lean LOADS. Nothing in Lean hashes anything: it is a label: what it is worth is what the hold of that sum in a sandbox is worth. -/
noncomputable def Tryz.pinned : Pinned := { name := "ytpmjpolnoaigoaagreat", sum := "6de392a5899643b4501b7befe84a0ee4b5c91ca2a7d4f1932f57b551e5af13f1", checked := Tryz.checked }
namespace Rows
def none {H : Type} : Left H := { results := [], args := [] }

/-- 'waywiserlaw22.LaesaAnswers': WHATEVER THE INPUT: true; the input reads as it did. -/
def laesaAnswersSpec : ChangeSpec := { name := "laesaAnswers", fn := fun _ => fun
  | [d] => { results := [.lit (.bool true)], args := [d] }
  | _ => none }
def laesaAnswersRow : OpenClaim := { program := "ytpmjpolnoaigoaagreat", sum := "6de392a5899643b4501b7befe84a0ee4b5c91ca2a7d4f1932f57b551e5af13f1", func := "waywiser/waywiserlaw22.LaesaAnswers", spec := "laesaAnswers", unfollowed := true, recurses := true, plainKeys := false, apart := false }
def LaesaAnswersSaid : Prop := laesaAnswersRow.holds Tryz.pinned (OpenSpec.ofChange laesaAnswersSpec)

/-- ITS FALSE NEIGHBOUR: 'it returns false'. Refute it at one input. -/
def laesaAnswersWrong : ChangeSpec := { name := "laesaAnswers", fn := fun _ => fun
  | [d] => { results := [.lit (.bool false)], args := [d] }
  | _ => none }
def LaesaAnswersWrongFalsely : Prop := laesaAnswersRow.holds Tryz.pinned (OpenSpec.ofChange laesaAnswersWrong)

/-- 'waywiserlaw22.LaesaLoads': WHATEVER THE INPUT: true; the input reads as it did. -/
def laesaLoadsSpec : ChangeSpec := { name := "laesaLoads", fn := fun _ => fun
  | [d1, d2, d3] => { results := [.lit (.bool true)], args := [d1, d2, d3] }
  | _ => none }
def laesaLoadsRow : OpenClaim := { program := "ytpmjpolnoaigoaagreat", sum := "6de392a5899643b4501b7befe84a0ee4b5c91ca2a7d4f1932f57b551e5af13f1", func := "waywiser/waywiserlaw22.LaesaLoads", spec := "laesaLoads", unfollowed := true, recurses := true, plainKeys := false, apart := false }
def LaesaLoadsSaid : Prop := laesaLoadsRow.holds Tryz.pinned (OpenSpec.ofChange laesaLoadsSpec)

/-- ITS FALSE NEIGHBOUR: 'it returns false'. Refute it at one input. -/
def laesaLoadsWrong : ChangeSpec := { name := "laesaLoads", fn := fun _ => fun
  | [d1, d2, d3] => { results := [.lit (.bool false)], args := [d1, d2, d3] }
  | _ => none }
def LaesaLoadsWrongFalsely : Prop := laesaLoadsRow.holds Tryz.pinned (OpenSpec.ofChange laesaLoadsWrong)

/-- 'waywiserlaw23.BktreeAnswers': WHATEVER THE INPUT: true; the input reads as it did. -/
def bktreeAnswersSpec : ChangeSpec := { name := "bktreeAnswers", fn := fun _ => fun
  | [d] => { results := [.lit (.bool true)], args := [d] }
  | _ => none }
def bktreeAnswersRow : OpenClaim := { program := "ytpmjpolnoaigoaagreat", sum := "6de392a5899643b4501b7befe84a0ee4b5c91ca2a7d4f1932f57b551e5af13f1", func := "waywiser/waywiserlaw23.BktreeAnswers", spec := "bktreeAnswers", unfollowed := true, recurses := true, plainKeys := false, apart := false }
def BktreeAnswersSaid : Prop := bktreeAnswersRow.holds Tryz.pinned (OpenSpec.ofChange bktreeAnswersSpec)

/-- ITS FALSE NEIGHBOUR: 'it returns false'. Refute it at one input. -/
def bktreeAnswersWrong : ChangeSpec := { name := "bktreeAnswers", fn := fun _ => fun
  | [d] => { results := [.lit (.bool false)], args := [d] }
  | _ => none }
def BktreeAnswersWrongFalsely : Prop := bktreeAnswersRow.holds Tryz.pinned (OpenSpec.ofChange bktreeAnswersWrong)

/-- 'waywiserlaw23.BktreeLoads': WHATEVER THE INPUT: true; the input reads as it did. -/
def bktreeLoadsSpec : ChangeSpec := { name := "bktreeLoads", fn := fun _ => fun
  | [d] => { results := [.lit (.bool true)], args := [d] }
  | _ => none }
def bktreeLoadsRow : OpenClaim := { program := "ytpmjpolnoaigoaagreat", sum := "6de392a5899643b4501b7befe84a0ee4b5c91ca2a7d4f1932f57b551e5af13f1", func := "waywiser/waywiserlaw23.BktreeLoads", spec := "bktreeLoads", unfollowed := true, recurses := true, plainKeys := false, apart := false }
def BktreeLoadsSaid : Prop := bktreeLoadsRow.holds Tryz.pinned (OpenSpec.ofChange bktreeLoadsSpec)

/-- ITS FALSE NEIGHBOUR: 'it returns false'. Refute it at one input. -/
def bktreeLoadsWrong : ChangeSpec := { name := "bktreeLoads", fn := fun _ => fun
  | [d] => { results := [.lit (.bool false)], args := [d] }
  | _ => none }
def BktreeLoadsWrongFalsely : Prop := bktreeLoadsRow.holds Tryz.pinned (OpenSpec.ofChange bktreeLoadsWrong)

/-- 'waywiserlaw23.BktreeNone': WHATEVER THE INPUT: true; the input reads as it did. -/
def bktreeNoneSpec : ChangeSpec := { name := "bktreeNone", fn := fun _ => fun
  | [d1, d2] => { results := [.lit (.bool true)], args := [d1, d2] }
  | _ => none }
def bktreeNoneRow : OpenClaim := { program := "ytpmjpolnoaigoaagreat", sum := "6de392a5899643b4501b7befe84a0ee4b5c91ca2a7d4f1932f57b551e5af13f1", func := "waywiser/waywiserlaw23.BktreeNone", spec := "bktreeNone", unfollowed := true, recurses := true, plainKeys := false, apart := false }
def BktreeNoneSaid : Prop := bktreeNoneRow.holds Tryz.pinned (OpenSpec.ofChange bktreeNoneSpec)

/-- ITS FALSE NEIGHBOUR: 'it returns false'. Refute it at one input. -/
def bktreeNoneWrong : ChangeSpec := { name := "bktreeNone", fn := fun _ => fun
  | [d1, d2] => { results := [.lit (.bool false)], args := [d1, d2] }
  | _ => none }
def BktreeNoneWrongFalsely : Prop := bktreeNoneRow.holds Tryz.pinned (OpenSpec.ofChange bktreeNoneWrong)

/- THE SECOND FORM. 'bulk': how many values and letters a reading holds, each counted each time it is reached (what is shared counts as often as it is met; a slice's spare places count too). A statement '..UptoSaid' is the law's where the arguments, and the package variables that the reading takes, are together of bulk at most 1048576: NARROWER than '..Said'. Prove '..Said' where nothing that the law and all that it calls make is longer than what came in: it says more and counts as full. Else prove '..UptoSaid'. A law counts once. -/
mutual
def uptoBulk {H : Type} : DataW H → Nat
  | .lit (.string bytes) => bytes.length + 1
  | .lit _ => 1
  | .nil => 1
  | .ptr d => uptoBulk d + 1
  | .slice elems spare => uptoBulkAll elems + uptoBulkAll spare + 1
  | .agg parts => uptoBulkAll parts + 1
  | .iface _ d => uptoBulk d + 1
  | .map entries => uptoBulkEntries entries + 1
  | .held _ => 1
def uptoBulkAll {H : Type} : List (DataW H) → Nat
  | [] => 0
  | d :: r => uptoBulk d + uptoBulkAll r
def uptoBulkEntries {H : Type} : List (Lit × DataW H) → Nat
  | [] => 0
  | x :: r => uptoBulkEntry x + uptoBulkEntries r
def uptoBulkEntry {H : Type} : Lit × DataW H → Nat
  | (.string bytes, d) => bytes.length + uptoBulk d + 1
  | (_, d) => uptoBulk d + 1
 end
def uptoSmall : (H : Type) → List (DataW H) → Bool := fun _ ds => decide (uptoBulkAll ds ≤ 1048576)
def OpenSpec.upto (s : _root_.Go.ChangeSpec) : _root_.Go.OpenSpec := { _root_.Go.OpenSpec.ofChange s with cond := some uptoSmall }

/-- 'waywiserlaw22.LaesaAnswers', WHERE WHAT IT READS IS OF BULK AT MOST 1048576: true; the input reads as it did. -/
def laesaAnswersUptoRow : OpenClaim := { program := "ytpmjpolnoaigoaagreat", sum := "6de392a5899643b4501b7befe84a0ee4b5c91ca2a7d4f1932f57b551e5af13f1", func := "waywiser/waywiserlaw22.LaesaAnswers", spec := "laesaAnswers", unfollowed := true, recurses := true, plainKeys := false, apart := false, narrowed := true }
def LaesaAnswersUptoSaid : Prop := laesaAnswersUptoRow.holds Tryz.pinned (OpenSpec.upto laesaAnswersSpec)

/-- 'waywiserlaw22.LaesaLoads', WHERE WHAT IT READS IS OF BULK AT MOST 1048576: true; the input reads as it did. -/
def laesaLoadsUptoRow : OpenClaim := { program := "ytpmjpolnoaigoaagreat", sum := "6de392a5899643b4501b7befe84a0ee4b5c91ca2a7d4f1932f57b551e5af13f1", func := "waywiser/waywiserlaw22.LaesaLoads", spec := "laesaLoads", unfollowed := true, recurses := true, plainKeys := false, apart := false, narrowed := true }
def LaesaLoadsUptoSaid : Prop := laesaLoadsUptoRow.holds Tryz.pinned (OpenSpec.upto laesaLoadsSpec)

/-- 'waywiserlaw23.BktreeAnswers', WHERE WHAT IT READS IS OF BULK AT MOST 1048576: true; the input reads as it did. -/
def bktreeAnswersUptoRow : OpenClaim := { program := "ytpmjpolnoaigoaagreat", sum := "6de392a5899643b4501b7befe84a0ee4b5c91ca2a7d4f1932f57b551e5af13f1", func := "waywiser/waywiserlaw23.BktreeAnswers", spec := "bktreeAnswers", unfollowed := true, recurses := true, plainKeys := false, apart := false, narrowed := true }
def BktreeAnswersUptoSaid : Prop := bktreeAnswersUptoRow.holds Tryz.pinned (OpenSpec.upto bktreeAnswersSpec)

/-- 'waywiserlaw23.BktreeLoads', WHERE WHAT IT READS IS OF BULK AT MOST 1048576: true; the input reads as it did. -/
def bktreeLoadsUptoRow : OpenClaim := { program := "ytpmjpolnoaigoaagreat", sum := "6de392a5899643b4501b7befe84a0ee4b5c91ca2a7d4f1932f57b551e5af13f1", func := "waywiser/waywiserlaw23.BktreeLoads", spec := "bktreeLoads", unfollowed := true, recurses := true, plainKeys := false, apart := false, narrowed := true }
def BktreeLoadsUptoSaid : Prop := bktreeLoadsUptoRow.holds Tryz.pinned (OpenSpec.upto bktreeLoadsSpec)

/-- 'waywiserlaw23.BktreeNone', WHERE WHAT IT READS IS OF BULK AT MOST 1048576: true; the input reads as it did. -/
def bktreeNoneUptoRow : OpenClaim := { program := "ytpmjpolnoaigoaagreat", sum := "6de392a5899643b4501b7befe84a0ee4b5c91ca2a7d4f1932f57b551e5af13f1", func := "waywiser/waywiserlaw23.BktreeNone", spec := "bktreeNone", unfollowed := true, recurses := true, plainKeys := false, apart := false, narrowed := true }
def BktreeNoneUptoSaid : Prop := bktreeNoneUptoRow.holds Tryz.pinned (OpenSpec.upto bktreeNoneSpec)

end Rows
end Go.Proofs.YtpmjpolnoaigoaaGreat
