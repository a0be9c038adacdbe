/-
  The laws' own reading of a marked program. No condition of its own.
-/
import Derived.Test.YteahbeomlbdlcaaGreatHeld
namespace Go.Proofs.YteahbeomlbdlcaaGreat
set_option linter.unusedVariables false
set_option linter.unusedSimpArgs false
open Go.RowKit
set_option maxRecDepth 100000




end Go.Proofs.YteahbeomlbdlcaaGreat
