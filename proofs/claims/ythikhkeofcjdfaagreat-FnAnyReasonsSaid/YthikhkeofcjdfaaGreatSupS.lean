/-
 Support and unfounded sets: what spec answers. No condition of its own.
-/
import Derived.Test.YthikhkeofcjdfaaGreatAnsU
import Derived.Test.YthikhkeofcjdfaaGreatUnfN
import Derived.Test.YthikhkeofcjdfaaGreatAppend
namespace Go.Proofs.YthikhkeofcjdfaaGreat
set_option linter.unusedVariables false
set_option linter.unusedSimpArgs false
open Go.RowKit
set_option maxRecDepth 100000



end Go.Proofs.YthikhkeofcjdfaaGreat
