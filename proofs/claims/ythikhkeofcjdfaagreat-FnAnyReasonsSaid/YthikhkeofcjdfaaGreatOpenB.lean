/-
 An argument that can be read as data, in this seat's own words. No condition of its own.
-/
import Derived.Test.YthikhkeofcjdfaaGreatMem
import Derived.Deep.Slices
import Derived.Deep.Fields
namespace Go.Proofs.YthikhkeofcjdfaaGreat
set_option linter.unusedVariables false
set_option linter.unusedSimpArgs false
open Go.RowKit Go.ChangeShapes Go.WideShapes Go.Deep
set_option maxRecDepth 100000

/-- What is read at type t is data of kind α. -/
def Opens {H : Type} (enc : TypeId × Value → H) (w : World) (base : Nat) (spare : Nat → Bool) (held : Bool) (t : TypeId) (α : Type) [Rd α] : Prop :=
 ∀ (fuel : Nat) (cs : List Value) (y : DataW H × List MemPlace), DataW.trod enc Tryz.prog w base spare held fuel t cs = some y → ∃ x : α, Rd.R w cs x

section
variable {H : Type} {enc : TypeId × Value → H} {w : World} {base : Nat} {spare : Nat → Bool} {held : Bool}













end

end Go.Proofs.YthikhkeofcjdfaaGreat
