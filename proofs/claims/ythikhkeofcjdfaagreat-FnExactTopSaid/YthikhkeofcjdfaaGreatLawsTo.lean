/-
 The laws' own copies of their arguments: each reads as what was copied, in new memory. No condition of its own.
-/
import Derived.Test.YthikhkeofcjdfaaGreatFill
import Derived.Test.YthikhkeofcjdfaaGreatLawsInts
namespace Go.Proofs.YthikhkeofcjdfaaGreat
set_option linter.unusedVariables false
set_option linter.unusedSimpArgs false
open Go.RowKit
set_option maxRecDepth 100000

/-- No list in it is longer than the laws' own bound. -/
class Sm (α : Type) where
 S : α → Prop
instance instSmInt : Sm Int := ⟨fun _ => True⟩
instance instSmPair : Sm (Int × Int) := ⟨fun _ => True⟩
instance instSmList {α : Type} [Sm α] : Sm (List α) := ⟨fun xs => xs.length ≤ 1048576 ∧ ∀ x ∈ xs, Sm.S x⟩
instance instSmRule : Sm RuleD := ⟨fun r => Sm.S r.heads ∧ Sm.S r.body⟩
instance instSmLevel : Sm LevelD := ⟨fun r => Sm.S r.lits⟩
instance instSmShow : Sm ShowD := ⟨fun r => r.text.size ≤ 1048576 ∧ Sm.S r.cond⟩
instance instSmProg : Sm ProgD := ⟨fun p => Sm.S p.rules ∧ Sm.S p.levels ∧ Sm.S p.project ∧ Sm.S p.shows ∧ Sm.S p.exts ∧ Sm.S p.assume⟩





















end Go.Proofs.YthikhkeofcjdfaaGreat
