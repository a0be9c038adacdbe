/-
  Least and Base: what the program answers. No condition of its own.
-/
import Derived.Test.YthfbnalgnnjbbaaGreatAnsI
import Derived.Test.YthfbnalgnnjbbaaGreatSeq
namespace Go.Proofs.YthfbnalgnnjbbaaGreat
set_option linter.unusedVariables false
set_option linter.unusedSimpArgs false
open Go.RowKit
set_option maxRecDepth 100000


end Go.Proofs.YthfbnalgnnjbbaaGreat
