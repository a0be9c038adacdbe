/-
  Least and Base: what the program answers. No condition of its own.
-/
import Derived.Test.YtfjcmnnddhomjaaGreatAnsI
import Derived.Test.YtfjcmnnddhomjaaGreatSeq
namespace Go.Proofs.YtfjcmnnddhomjaaGreat
set_option linter.unusedVariables false
set_option linter.unusedSimpArgs false
open Go.RowKit
set_option maxRecDepth 100000


end Go.Proofs.YtfjcmnnddhomjaaGreat
