/-
  The contracts of object.Cmp, object.Clone, and the document's own order.
-/
import Derived.Test.YtdfakjpchgomdaaLive5
import Derived.Test.YtdfakjpchgomdaaShelf
namespace Go.Proofs.Ytdfakjpchgomdaa.obj
open Go.RowKit law bytes nums ord
set_option linter.unusedVariables false

theorem int32E : Elem Try.prog 21 (.int .i32 0) 4 := elem_mk (by kernel_rfl) rfl
end Go.Proofs.Ytdfakjpchgomdaa.obj
