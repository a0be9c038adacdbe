/-
  Broken: what spec answers. No condition of its own.
-/
import Derived.Test.YtleimijgpmoifaaGreatAnsT
import Derived.Test.YtleimijgpmoifaaGreatSupD
namespace Go.Proofs.YtleimijgpmoifaaGreat
set_option linter.unusedVariables false
set_option linter.unusedSimpArgs false
open Go.RowKit
set_option maxRecDepth 100000

end Go.Proofs.YtleimijgpmoifaaGreat
