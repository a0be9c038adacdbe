/-
  No cell of these rows narrows 'for every input' (looked for: loops, veiled, ifaces, maps, wideKeys, modest, calm, conditions, laid).
  DERIVED. THE GIVEN ROWS OF THIS SEAT. 8 by the template 'for every input the law returns true; each argument reads behind the call as it read before'; 0 by the template 'total and deterministic' (their statements: YthikhkeofcjdfaaGreatTotals.lean).
  GIVEN WITH THE SEED: the statements are not yours to turn. If you find one false, say at which input.
  Laid BY PROGRAM, IN A SANDBOX (cutbox-rows.mjs): the forced cells as the released guide's own fill.sh prints them over the translation 8fdef90342f4fe48… (all of the seat's roots in one cut). By AI agents, Wed Nov 11 2026. No macro, syntax, notation, axiom, sorry.
-/
import Derived.Test.YthikhkeofcjdfaaGreatChecked
import GoSem.Claim
import GoSem.ClaimJoined
import GoSem.ClaimMapViews
import Derived.JoinedTies
import Derived.KernelRfl
namespace Go.Proofs.YthikhkeofcjdfaaGreat
/- THE CELL 'sum', in the pinned program and in every row, IS THE sha256 OF THE DUMP (.gsa) THAT YthikhkeofcjdfaaGreatProg.lean LOADS. Nothing in Lean hashes anything: it is a label: what it is worth is what the hold of that sum in a sandbox is worth. -/
noncomputable def Tryz.pinned : Pinned := { name := "ythikhkeofcjdfaagreat", sum := "8fdef90342f4fe4839d5465d9ac6d06c7217c54c7364e79f396a12f9dcbb7c80", checked := Tryz.checked }
namespace Rows
def none {H : Type} : Left H := { results := [], args := [] }

/-- 'laws.FnBothSame': WHATEVER THE INPUT: true; the input reads as it did. -/
def fnBothSameSpec : ChangeSpec := { name := "fnBothSame", fn := fun _ => fun
  | [d1, d2] => { results := [.lit (.bool true)], args := [d1, d2] }
  | _ => none }
def fnBothSameRow : OpenClaim := { program := "ythikhkeofcjdfaagreat", sum := "8fdef90342f4fe4839d5465d9ac6d06c7217c54c7364e79f396a12f9dcbb7c80", func := "loop.example/g00554/laws.FnBothSame", spec := "fnBothSame", unfollowed := true, recurses := true, apart := false }
def FnBothSameSaid : Prop := fnBothSameRow.holds Tryz.pinned (OpenSpec.ofChange fnBothSameSpec)

/-- ITS FALSE NEIGHBOUR: 'it returns false'. Refute it at one input. -/
def fnBothSameWrong : ChangeSpec := { name := "fnBothSame", fn := fun _ => fun
  | [d1, d2] => { results := [.lit (.bool false)], args := [d1, d2] }
  | _ => none }
def FnBothSameWrongFalsely : Prop := fnBothSameRow.holds Tryz.pinned (OpenSpec.ofChange fnBothSameWrong)

/-- 'laws.FnAnyReasons': WHATEVER THE INPUT: true; the input reads as it did. -/
def fnAnyReasonsSpec : ChangeSpec := { name := "fnAnyReasons", fn := fun _ => fun
  | [d] => { results := [.lit (.bool true)], args := [d] }
  | _ => none }
def fnAnyReasonsRow : OpenClaim := { program := "ythikhkeofcjdfaagreat", sum := "8fdef90342f4fe4839d5465d9ac6d06c7217c54c7364e79f396a12f9dcbb7c80", func := "loop.example/g00554/laws.FnAnyReasons", spec := "fnAnyReasons", unfollowed := true, recurses := true, apart := false }
def FnAnyReasonsSaid : Prop := fnAnyReasonsRow.holds Tryz.pinned (OpenSpec.ofChange fnAnyReasonsSpec)

/-- ITS FALSE NEIGHBOUR: 'it returns false'. Refute it at one input. -/
def fnAnyReasonsWrong : ChangeSpec := { name := "fnAnyReasons", fn := fun _ => fun
  | [d] => { results := [.lit (.bool false)], args := [d] }
  | _ => none }
def FnAnyReasonsWrongFalsely : Prop := fnAnyReasonsRow.holds Tryz.pinned (OpenSpec.ofChange fnAnyReasonsWrong)

/-- 'laws.FnExactBottom': WHATEVER THE INPUT: true; the input reads as it did. -/
def fnExactBottomSpec : ChangeSpec := { name := "fnExactBottom", fn := fun _ => fun
  | [d1, d2] => { results := [.lit (.bool true)], args := [d1, d2] }
  | _ => none }
def fnExactBottomRow : OpenClaim := { program := "ythikhkeofcjdfaagreat", sum := "8fdef90342f4fe4839d5465d9ac6d06c7217c54c7364e79f396a12f9dcbb7c80", func := "loop.example/g00554/laws.FnExactBottom", spec := "fnExactBottom", unfollowed := true, recurses := true, apart := false }
def FnExactBottomSaid : Prop := fnExactBottomRow.holds Tryz.pinned (OpenSpec.ofChange fnExactBottomSpec)

/-- ITS FALSE NEIGHBOUR: 'it returns false'. Refute it at one input. -/
def fnExactBottomWrong : ChangeSpec := { name := "fnExactBottom", fn := fun _ => fun
  | [d1, d2] => { results := [.lit (.bool false)], args := [d1, d2] }
  | _ => none }
def FnExactBottomWrongFalsely : Prop := fnExactBottomRow.holds Tryz.pinned (OpenSpec.ofChange fnExactBottomWrong)

/-- 'laws.FnExactTop': WHATEVER THE INPUT: true; the input reads as it did. -/
def fnExactTopSpec : ChangeSpec := { name := "fnExactTop", fn := fun _ => fun
  | [d1, d2, d3] => { results := [.lit (.bool true)], args := [d1, d2, d3] }
  | _ => none }
def fnExactTopRow : OpenClaim := { program := "ythikhkeofcjdfaagreat", sum := "8fdef90342f4fe4839d5465d9ac6d06c7217c54c7364e79f396a12f9dcbb7c80", func := "loop.example/g00554/laws.FnExactTop", spec := "fnExactTop", unfollowed := true, recurses := true, apart := false }
def FnExactTopSaid : Prop := fnExactTopRow.holds Tryz.pinned (OpenSpec.ofChange fnExactTopSpec)

/-- ITS FALSE NEIGHBOUR: 'it returns false'. Refute it at one input. -/
def fnExactTopWrong : ChangeSpec := { name := "fnExactTop", fn := fun _ => fun
  | [d1, d2, d3] => { results := [.lit (.bool false)], args := [d1, d2, d3] }
  | _ => none }
def FnExactTopWrongFalsely : Prop := fnExactTopRow.holds Tryz.pinned (OpenSpec.ofChange fnExactTopWrong)

/-- 'laws.FnExactSplitAnswers': WHATEVER THE INPUT: true; the input reads as it did. -/
def fnExactSplitAnswersSpec : ChangeSpec := { name := "fnExactSplitAnswers", fn := fun _ => fun
  | [d1, d2] => { results := [.lit (.bool true)], args := [d1, d2] }
  | _ => none }
def fnExactSplitAnswersRow : OpenClaim := { program := "ythikhkeofcjdfaagreat", sum := "8fdef90342f4fe4839d5465d9ac6d06c7217c54c7364e79f396a12f9dcbb7c80", func := "loop.example/g00554/laws.FnExactSplitAnswers", spec := "fnExactSplitAnswers", unfollowed := true, recurses := true, apart := false }
def FnExactSplitAnswersSaid : Prop := fnExactSplitAnswersRow.holds Tryz.pinned (OpenSpec.ofChange fnExactSplitAnswersSpec)

/-- ITS FALSE NEIGHBOUR: 'it returns false'. Refute it at one input. -/
def fnExactSplitAnswersWrong : ChangeSpec := { name := "fnExactSplitAnswers", fn := fun _ => fun
  | [d1, d2] => { results := [.lit (.bool false)], args := [d1, d2] }
  | _ => none }
def FnExactSplitAnswersWrongFalsely : Prop := fnExactSplitAnswersRow.holds Tryz.pinned (OpenSpec.ofChange fnExactSplitAnswersWrong)

/-- 'laws.FnExactHtModels': WHATEVER THE INPUT: true; the input reads as it did. -/
def fnExactHtModelsSpec : ChangeSpec := { name := "fnExactHtModels", fn := fun _ => fun
  | [d] => { results := [.lit (.bool true)], args := [d] }
  | _ => none }
def fnExactHtModelsRow : OpenClaim := { program := "ythikhkeofcjdfaagreat", sum := "8fdef90342f4fe4839d5465d9ac6d06c7217c54c7364e79f396a12f9dcbb7c80", func := "loop.example/g00554/laws.FnExactHtModels", spec := "fnExactHtModels", unfollowed := true, recurses := true, apart := false }
def FnExactHtModelsSaid : Prop := fnExactHtModelsRow.holds Tryz.pinned (OpenSpec.ofChange fnExactHtModelsSpec)

/-- ITS FALSE NEIGHBOUR: 'it returns false'. Refute it at one input. -/
def fnExactHtModelsWrong : ChangeSpec := { name := "fnExactHtModels", fn := fun _ => fun
  | [d] => { results := [.lit (.bool false)], args := [d] }
  | _ => none }
def FnExactHtModelsWrongFalsely : Prop := fnExactHtModelsRow.holds Tryz.pinned (OpenSpec.ofChange fnExactHtModelsWrong)

/-- 'laws.FnExactOptimal': WHATEVER THE INPUT: true; the input reads as it did. -/
def fnExactOptimalSpec : ChangeSpec := { name := "fnExactOptimal", fn := fun _ => fun
  | [d] => { results := [.lit (.bool true)], args := [d] }
  | _ => none }
def fnExactOptimalRow : OpenClaim := { program := "ythikhkeofcjdfaagreat", sum := "8fdef90342f4fe4839d5465d9ac6d06c7217c54c7364e79f396a12f9dcbb7c80", func := "loop.example/g00554/laws.FnExactOptimal", spec := "fnExactOptimal", unfollowed := true, recurses := true, apart := false }
def FnExactOptimalSaid : Prop := fnExactOptimalRow.holds Tryz.pinned (OpenSpec.ofChange fnExactOptimalSpec)

/-- ITS FALSE NEIGHBOUR: 'it returns false'. Refute it at one input. -/
def fnExactOptimalWrong : ChangeSpec := { name := "fnExactOptimal", fn := fun _ => fun
  | [d] => { results := [.lit (.bool false)], args := [d] }
  | _ => none }
def FnExactOptimalWrongFalsely : Prop := fnExactOptimalRow.holds Tryz.pinned (OpenSpec.ofChange fnExactOptimalWrong)

/-- 'laws.FnExactEdges': WHATEVER THE INPUT: true; the input reads as it did. -/
def fnExactEdgesSpec : ChangeSpec := { name := "fnExactEdges", fn := fun _ => fun
  | [d] => { results := [.lit (.bool true)], args := [d] }
  | _ => none }
def fnExactEdgesRow : OpenClaim := { program := "ythikhkeofcjdfaagreat", sum := "8fdef90342f4fe4839d5465d9ac6d06c7217c54c7364e79f396a12f9dcbb7c80", func := "loop.example/g00554/laws.FnExactEdges", spec := "fnExactEdges", unfollowed := true, recurses := true, apart := false }
def FnExactEdgesSaid : Prop := fnExactEdgesRow.holds Tryz.pinned (OpenSpec.ofChange fnExactEdgesSpec)

/-- ITS FALSE NEIGHBOUR: 'it returns false'. Refute it at one input. -/
def fnExactEdgesWrong : ChangeSpec := { name := "fnExactEdges", fn := fun _ => fun
  | [d] => { results := [.lit (.bool false)], args := [d] }
  | _ => none }
def FnExactEdgesWrongFalsely : Prop := fnExactEdgesRow.holds Tryz.pinned (OpenSpec.ofChange fnExactEdgesWrong)

/- THE SECOND FORM. 'bulk': how many values and letters a reading holds, each counted each time it is reached (what is shared counts as often as it is met; a slice's spare places count too). A statement '..UptoSaid' is the law's where the arguments, and the package variables that the reading takes, are together of bulk at most 1048576: NARROWER than '..Said'. Prove '..Said' where nothing that the law and all that it calls make is longer than what came in: it says more and counts as full. Else prove '..UptoSaid'. A law counts once. -/
mutual
def uptoBulk {H : Type} : DataW H → Nat
  | .lit (.string bytes) => bytes.length + 1
  | .lit _ => 1
  | .nil => 1
  | .ptr d => uptoBulk d + 1
  | .slice elems spare => uptoBulkAll elems + uptoBulkAll spare + 1
  | .agg parts => uptoBulkAll parts + 1
  | .iface _ d => uptoBulk d + 1
  | .map entries => uptoBulkEntries entries + 1
  | .held _ => 1
def uptoBulkAll {H : Type} : List (DataW H) → Nat
  | [] => 0
  | d :: r => uptoBulk d + uptoBulkAll r
def uptoBulkEntries {H : Type} : List (Lit × DataW H) → Nat
  | [] => 0
  | x :: r => uptoBulkEntry x + uptoBulkEntries r
def uptoBulkEntry {H : Type} : Lit × DataW H → Nat
  | (.string bytes, d) => bytes.length + uptoBulk d + 1
  | (_, d) => uptoBulk d + 1
 end
def uptoSmall : (H : Type) → List (DataW H) → Bool := fun _ ds => decide (uptoBulkAll ds ≤ 1048576)
def OpenSpec.upto (s : _root_.Go.ChangeSpec) : _root_.Go.OpenSpec := { _root_.Go.OpenSpec.ofChange s with cond := some uptoSmall }

/-- 'laws.FnBothSame', WHERE WHAT IT READS IS OF BULK AT MOST 1048576: true; the input reads as it did. -/
def fnBothSameUptoRow : OpenClaim := { program := "ythikhkeofcjdfaagreat", sum := "8fdef90342f4fe4839d5465d9ac6d06c7217c54c7364e79f396a12f9dcbb7c80", func := "loop.example/g00554/laws.FnBothSame", spec := "fnBothSame", unfollowed := true, recurses := true, apart := false, narrowed := true }
def FnBothSameUptoSaid : Prop := fnBothSameUptoRow.holds Tryz.pinned (OpenSpec.upto fnBothSameSpec)

/-- 'laws.FnAnyReasons', WHERE WHAT IT READS IS OF BULK AT MOST 1048576: true; the input reads as it did. -/
def fnAnyReasonsUptoRow : OpenClaim := { program := "ythikhkeofcjdfaagreat", sum := "8fdef90342f4fe4839d5465d9ac6d06c7217c54c7364e79f396a12f9dcbb7c80", func := "loop.example/g00554/laws.FnAnyReasons", spec := "fnAnyReasons", unfollowed := true, recurses := true, apart := false, narrowed := true }
def FnAnyReasonsUptoSaid : Prop := fnAnyReasonsUptoRow.holds Tryz.pinned (OpenSpec.upto fnAnyReasonsSpec)

/-- 'laws.FnExactBottom', WHERE WHAT IT READS IS OF BULK AT MOST 1048576: true; the input reads as it did. -/
def fnExactBottomUptoRow : OpenClaim := { program := "ythikhkeofcjdfaagreat", sum := "8fdef90342f4fe4839d5465d9ac6d06c7217c54c7364e79f396a12f9dcbb7c80", func := "loop.example/g00554/laws.FnExactBottom", spec := "fnExactBottom", unfollowed := true, recurses := true, apart := false, narrowed := true }
def FnExactBottomUptoSaid : Prop := fnExactBottomUptoRow.holds Tryz.pinned (OpenSpec.upto fnExactBottomSpec)

/-- 'laws.FnExactTop', WHERE WHAT IT READS IS OF BULK AT MOST 1048576: true; the input reads as it did. -/
def fnExactTopUptoRow : OpenClaim := { program := "ythikhkeofcjdfaagreat", sum := "8fdef90342f4fe4839d5465d9ac6d06c7217c54c7364e79f396a12f9dcbb7c80", func := "loop.example/g00554/laws.FnExactTop", spec := "fnExactTop", unfollowed := true, recurses := true, apart := false, narrowed := true }
def FnExactTopUptoSaid : Prop := fnExactTopUptoRow.holds Tryz.pinned (OpenSpec.upto fnExactTopSpec)

/-- 'laws.FnExactSplitAnswers', WHERE WHAT IT READS IS OF BULK AT MOST 1048576: true; the input reads as it did. -/
def fnExactSplitAnswersUptoRow : OpenClaim := { program := "ythikhkeofcjdfaagreat", sum := "8fdef90342f4fe4839d5465d9ac6d06c7217c54c7364e79f396a12f9dcbb7c80", func := "loop.example/g00554/laws.FnExactSplitAnswers", spec := "fnExactSplitAnswers", unfollowed := true, recurses := true, apart := false, narrowed := true }
def FnExactSplitAnswersUptoSaid : Prop := fnExactSplitAnswersUptoRow.holds Tryz.pinned (OpenSpec.upto fnExactSplitAnswersSpec)

/-- 'laws.FnExactHtModels', WHERE WHAT IT READS IS OF BULK AT MOST 1048576: true; the input reads as it did. -/
def fnExactHtModelsUptoRow : OpenClaim := { program := "ythikhkeofcjdfaagreat", sum := "8fdef90342f4fe4839d5465d9ac6d06c7217c54c7364e79f396a12f9dcbb7c80", func := "loop.example/g00554/laws.FnExactHtModels", spec := "fnExactHtModels", unfollowed := true, recurses := true, apart := false, narrowed := true }
def FnExactHtModelsUptoSaid : Prop := fnExactHtModelsUptoRow.holds Tryz.pinned (OpenSpec.upto fnExactHtModelsSpec)

/-- 'laws.FnExactOptimal', WHERE WHAT IT READS IS OF BULK AT MOST 1048576: true; the input reads as it did. -/
def fnExactOptimalUptoRow : OpenClaim := { program := "ythikhkeofcjdfaagreat", sum := "8fdef90342f4fe4839d5465d9ac6d06c7217c54c7364e79f396a12f9dcbb7c80", func := "loop.example/g00554/laws.FnExactOptimal", spec := "fnExactOptimal", unfollowed := true, recurses := true, apart := false, narrowed := true }
def FnExactOptimalUptoSaid : Prop := fnExactOptimalUptoRow.holds Tryz.pinned (OpenSpec.upto fnExactOptimalSpec)

/-- 'laws.FnExactEdges', WHERE WHAT IT READS IS OF BULK AT MOST 1048576: true; the input reads as it did. -/
def fnExactEdgesUptoRow : OpenClaim := { program := "ythikhkeofcjdfaagreat", sum := "8fdef90342f4fe4839d5465d9ac6d06c7217c54c7364e79f396a12f9dcbb7c80", func := "loop.example/g00554/laws.FnExactEdges", spec := "fnExactEdges", unfollowed := true, recurses := true, apart := false, narrowed := true }
def FnExactEdgesUptoSaid : Prop := fnExactEdgesUptoRow.holds Tryz.pinned (OpenSpec.upto fnExactEdgesSpec)

end Rows
end Go.Proofs.YthikhkeofcjdfaaGreat
