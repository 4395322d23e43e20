/-
  The walk of the program's MachAt.
-/
import Derived.Test.YtiphooodijbhiabAfterI
namespace Go.Proofs.Ytiphooodijbhiab
open Go.RowKit
set_option linter.unusedVariables false

end Go.Proofs.Ytiphooodijbhiab
