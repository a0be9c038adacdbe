/-
  The answers: what the program answers. No condition of its own.
-/
import Derived.Test.YthfbnalgnnjbbaaMak
import Derived.Test.YthfbnalgnnjbbaaAnsD
import Derived.Test.YthfbnalgnnjbbaaFoldI
import Derived.BigQuiet
import Derived.Deep.RegionHeld3
import Derived.Deep.RegionWith
namespace Go.Proofs.Ythfbnalgnnjbbaa
set_option linter.unusedVariables false
set_option linter.unusedSimpArgs false
open Go.RowKit
set_option maxRecDepth 100000


def ansQ (q : ProgD) (xs : List Int) : Bool := modelB q xs && decide (leastL q.rules xs false = xs)
theorem ansQ_no {q : ProgD} {xs : List Int} (h : modelB q xs = false) : ansQ q xs = false := by simp only [ansQ, h, Bool.false_and]
theorem ansQ_yes {q : ProgD} {xs : List Int} (h : modelB q xs = true) : ansQ q xs = decide (leastL q.rules xs false = xs) := by simp only [ansQ, h, Bool.true_and]
theorem ansB_Q {q : ProgD} {xs : List Int} (h : setOkB xs q.atoms = true) : ansB q xs = ansQ q xs := by simp only [ansB, ansQ, h, Bool.true_and]

end Go.Proofs.Ythfbnalgnnjbbaa
