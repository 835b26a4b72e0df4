/-
  The contracts of Rank and At.
-/
import Derived.Test.YtaickhhbdbbmjaaDirD
namespace Go.Proofs.Ytaickhhbdbbmjaa.direct
open Go.RowKit law bytes only flat
set_option linter.unusedVariables false

end Go.Proofs.Ytaickhhbdbbmjaa.direct
