/-
  Support and unfounded sets: what spec answers. No condition of its own.
-/
import Derived.Test.YtleimijgpmoifaaGreatAnsS
import Derived.Test.YtleimijgpmoifaaGreatSupD
import Derived.Test.YtleimijgpmoifaaGreatAppend
namespace Go.Proofs.YtleimijgpmoifaaGreat
set_option linter.unusedVariables false
set_option linter.unusedSimpArgs false
open Go.RowKit
set_option maxRecDepth 100000



end Go.Proofs.YtleimijgpmoifaaGreat
