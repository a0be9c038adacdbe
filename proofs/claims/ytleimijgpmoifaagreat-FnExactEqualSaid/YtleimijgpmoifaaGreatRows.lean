/-
  No cell of these rows narrows 'for every input' (looked for: loops, veiled, ifaces, maps, wideKeys, modest, calm, conditions, laid).
  DERIVED. THE GIVEN ROWS OF THIS SEAT. 6 by the template 'for every input the law returns true; each argument reads behind the call as it read before'; 0 by the template 'total and deterministic' (their statements: YtleimijgpmoifaaGreatTotals.lean).
  GIVEN WITH THE SEED: the statements are not yours to turn. If you find one false, say at which input.
  Laid BY PROGRAM, IN A SANDBOX (cutbox-rows.mjs): the forced cells as the released guide's own fill.sh prints them over the translation 5ecf418223c1eabf… (all of the seat's roots in one cut). By AI agents, Wed Nov 11 2026. No macro, syntax, notation, axiom, sorry.
-/
import Derived.Test.YtleimijgpmoifaaGreatChecked
import GoSem.Claim
import GoSem.ClaimJoined
import GoSem.ClaimMapViews
import Derived.JoinedTies
import Derived.KernelRfl
namespace Go.Proofs.YtleimijgpmoifaaGreat
/- THE CELL 'sum', in the pinned program and in every row, IS THE sha256 OF THE DUMP (.gsa) THAT YtleimijgpmoifaaGreatProg.lean LOADS. Nothing in Lean hashes anything: it is a label: what it is worth is what the hold of that sum in a sandbox is worth. -/
noncomputable def Tryz.pinned : Pinned := { name := "ytleimijgpmoifaagreat", sum := "5ecf418223c1eabf02f17ab60476eeaecab8131164533b5d2b5034a0145fefdc", checked := Tryz.checked }
namespace Rows
def none {H : Type} : Left H := { results := [], args := [] }

/-- 'laws.FnExactHtModel': WHATEVER THE INPUT: true; the input reads as it did. -/
def fnExactHtModelSpec : ChangeSpec := { name := "fnExactHtModel", fn := fun _ => fun
  | [d1, d2, d3] => { results := [.lit (.bool true)], args := [d1, d2, d3] }
  | _ => none }
def fnExactHtModelRow : OpenClaim := { program := "ytleimijgpmoifaagreat", sum := "5ecf418223c1eabf02f17ab60476eeaecab8131164533b5d2b5034a0145fefdc", func := "loop.example/g00554/laws.FnExactHtModel", spec := "fnExactHtModel", unfollowed := true, recurses := true, apart := false }
def FnExactHtModelSaid : Prop := fnExactHtModelRow.holds Tryz.pinned (OpenSpec.ofChange fnExactHtModelSpec)

/-- ITS FALSE NEIGHBOUR: 'it returns false'. Refute it at one input. -/
def fnExactHtModelWrong : ChangeSpec := { name := "fnExactHtModel", fn := fun _ => fun
  | [d1, d2, d3] => { results := [.lit (.bool false)], args := [d1, d2, d3] }
  | _ => none }
def FnExactHtModelWrongFalsely : Prop := fnExactHtModelRow.holds Tryz.pinned (OpenSpec.ofChange fnExactHtModelWrong)

/-- 'laws.FnExactHtModels': WHATEVER THE INPUT: true; the input reads as it did. -/
def fnExactHtModelsSpec : ChangeSpec := { name := "fnExactHtModels", fn := fun _ => fun
  | [d] => { results := [.lit (.bool true)], args := [d] }
  | _ => none }
def fnExactHtModelsRow : OpenClaim := { program := "ytleimijgpmoifaagreat", sum := "5ecf418223c1eabf02f17ab60476eeaecab8131164533b5d2b5034a0145fefdc", func := "loop.example/g00554/laws.FnExactHtModels", spec := "fnExactHtModels", unfollowed := true, recurses := true, apart := false }
def FnExactHtModelsSaid : Prop := fnExactHtModelsRow.holds Tryz.pinned (OpenSpec.ofChange fnExactHtModelsSpec)

/-- ITS FALSE NEIGHBOUR: 'it returns false'. Refute it at one input. -/
def fnExactHtModelsWrong : ChangeSpec := { name := "fnExactHtModels", fn := fun _ => fun
  | [d] => { results := [.lit (.bool false)], args := [d] }
  | _ => none }
def FnExactHtModelsWrongFalsely : Prop := fnExactHtModelsRow.holds Tryz.pinned (OpenSpec.ofChange fnExactHtModelsWrong)

/-- 'laws.FnExactStrong': WHATEVER THE INPUT: true; the input reads as it did. -/
def fnExactStrongSpec : ChangeSpec := { name := "fnExactStrong", fn := fun _ => fun
  | [d1, d2] => { results := [.lit (.bool true)], args := [d1, d2] }
  | _ => none }
def fnExactStrongRow : OpenClaim := { program := "ytleimijgpmoifaagreat", sum := "5ecf418223c1eabf02f17ab60476eeaecab8131164533b5d2b5034a0145fefdc", func := "loop.example/g00554/laws.FnExactStrong", spec := "fnExactStrong", unfollowed := true, recurses := true, apart := false }
def FnExactStrongSaid : Prop := fnExactStrongRow.holds Tryz.pinned (OpenSpec.ofChange fnExactStrongSpec)

/-- ITS FALSE NEIGHBOUR: 'it returns false'. Refute it at one input. -/
def fnExactStrongWrong : ChangeSpec := { name := "fnExactStrong", fn := fun _ => fun
  | [d1, d2] => { results := [.lit (.bool false)], args := [d1, d2] }
  | _ => none }
def FnExactStrongWrongFalsely : Prop := fnExactStrongRow.holds Tryz.pinned (OpenSpec.ofChange fnExactStrongWrong)

/-- 'laws.FnExactEqual': WHATEVER THE INPUT: true; the input reads as it did. -/
def fnExactEqualSpec : ChangeSpec := { name := "fnExactEqual", fn := fun _ => fun
  | [d1, d2] => { results := [.lit (.bool true)], args := [d1, d2] }
  | _ => none }
def fnExactEqualRow : OpenClaim := { program := "ytleimijgpmoifaagreat", sum := "5ecf418223c1eabf02f17ab60476eeaecab8131164533b5d2b5034a0145fefdc", func := "loop.example/g00554/laws.FnExactEqual", spec := "fnExactEqual", unfollowed := true, recurses := true, apart := false }
def FnExactEqualSaid : Prop := fnExactEqualRow.holds Tryz.pinned (OpenSpec.ofChange fnExactEqualSpec)

/-- ITS FALSE NEIGHBOUR: 'it returns false'. Refute it at one input. -/
def fnExactEqualWrong : ChangeSpec := { name := "fnExactEqual", fn := fun _ => fun
  | [d1, d2] => { results := [.lit (.bool false)], args := [d1, d2] }
  | _ => none }
def FnExactEqualWrongFalsely : Prop := fnExactEqualRow.holds Tryz.pinned (OpenSpec.ofChange fnExactEqualWrong)

/-- 'laws.FnExactWhy': WHATEVER THE INPUT: true; the input reads as it did. -/
def fnExactWhySpec : ChangeSpec := { name := "fnExactWhy", fn := fun _ => fun
  | [d1, d2] => { results := [.lit (.bool true)], args := [d1, d2] }
  | _ => none }
def fnExactWhyRow : OpenClaim := { program := "ytleimijgpmoifaagreat", sum := "5ecf418223c1eabf02f17ab60476eeaecab8131164533b5d2b5034a0145fefdc", func := "loop.example/g00554/laws.FnExactWhy", spec := "fnExactWhy", unfollowed := true, recurses := true, apart := false }
def FnExactWhySaid : Prop := fnExactWhyRow.holds Tryz.pinned (OpenSpec.ofChange fnExactWhySpec)

/-- ITS FALSE NEIGHBOUR: 'it returns false'. Refute it at one input. -/
def fnExactWhyWrong : ChangeSpec := { name := "fnExactWhy", fn := fun _ => fun
  | [d1, d2] => { results := [.lit (.bool false)], args := [d1, d2] }
  | _ => none }
def FnExactWhyWrongFalsely : Prop := fnExactWhyRow.holds Tryz.pinned (OpenSpec.ofChange fnExactWhyWrong)

/-- 'laws.FnExactReasons': WHATEVER THE INPUT: true; the input reads as it did. -/
def fnExactReasonsSpec : ChangeSpec := { name := "fnExactReasons", fn := fun _ => fun
  | [d1, d2, d3] => { results := [.lit (.bool true)], args := [d1, d2, d3] }
  | _ => none }
def fnExactReasonsRow : OpenClaim := { program := "ytleimijgpmoifaagreat", sum := "5ecf418223c1eabf02f17ab60476eeaecab8131164533b5d2b5034a0145fefdc", func := "loop.example/g00554/laws.FnExactReasons", spec := "fnExactReasons", unfollowed := true, recurses := true, apart := false }
def FnExactReasonsSaid : Prop := fnExactReasonsRow.holds Tryz.pinned (OpenSpec.ofChange fnExactReasonsSpec)

/-- ITS FALSE NEIGHBOUR: 'it returns false'. Refute it at one input. -/
def fnExactReasonsWrong : ChangeSpec := { name := "fnExactReasons", fn := fun _ => fun
  | [d1, d2, d3] => { results := [.lit (.bool false)], args := [d1, d2, d3] }
  | _ => none }
def FnExactReasonsWrongFalsely : Prop := fnExactReasonsRow.holds Tryz.pinned (OpenSpec.ofChange fnExactReasonsWrong)

/- THE SECOND FORM. 'bulk': how many values and letters a reading holds, each counted each time it is reached (what is shared counts as often as it is met; a slice's spare places count too). A statement '..UptoSaid' is the law's where the arguments, and the package variables that the reading takes, are together of bulk at most 1048576: NARROWER than '..Said'. Prove '..Said' where nothing that the law and all that it calls make is longer than what came in: it says more and counts as full. Else prove '..UptoSaid'. A law counts once. -/
mutual
def uptoBulk {H : Type} : DataW H → Nat
  | .lit (.string bytes) => bytes.length + 1
  | .lit _ => 1
  | .nil => 1
  | .ptr d => uptoBulk d + 1
  | .slice elems spare => uptoBulkAll elems + uptoBulkAll spare + 1
  | .agg parts => uptoBulkAll parts + 1
  | .iface _ d => uptoBulk d + 1
  | .map entries => uptoBulkEntries entries + 1
  | .held _ => 1
def uptoBulkAll {H : Type} : List (DataW H) → Nat
  | [] => 0
  | d :: r => uptoBulk d + uptoBulkAll r
def uptoBulkEntries {H : Type} : List (Lit × DataW H) → Nat
  | [] => 0
  | x :: r => uptoBulkEntry x + uptoBulkEntries r
def uptoBulkEntry {H : Type} : Lit × DataW H → Nat
  | (.string bytes, d) => bytes.length + uptoBulk d + 1
  | (_, d) => uptoBulk d + 1
 end
def uptoSmall : (H : Type) → List (DataW H) → Bool := fun _ ds => decide (uptoBulkAll ds ≤ 1048576)
def OpenSpec.upto (s : _root_.Go.ChangeSpec) : _root_.Go.OpenSpec := { _root_.Go.OpenSpec.ofChange s with cond := some uptoSmall }

/-- 'laws.FnExactHtModel', WHERE WHAT IT READS IS OF BULK AT MOST 1048576: true; the input reads as it did. -/
def fnExactHtModelUptoRow : OpenClaim := { program := "ytleimijgpmoifaagreat", sum := "5ecf418223c1eabf02f17ab60476eeaecab8131164533b5d2b5034a0145fefdc", func := "loop.example/g00554/laws.FnExactHtModel", spec := "fnExactHtModel", unfollowed := true, recurses := true, apart := false, narrowed := true }
def FnExactHtModelUptoSaid : Prop := fnExactHtModelUptoRow.holds Tryz.pinned (OpenSpec.upto fnExactHtModelSpec)

/-- 'laws.FnExactHtModels', WHERE WHAT IT READS IS OF BULK AT MOST 1048576: true; the input reads as it did. -/
def fnExactHtModelsUptoRow : OpenClaim := { program := "ytleimijgpmoifaagreat", sum := "5ecf418223c1eabf02f17ab60476eeaecab8131164533b5d2b5034a0145fefdc", func := "loop.example/g00554/laws.FnExactHtModels", spec := "fnExactHtModels", unfollowed := true, recurses := true, apart := false, narrowed := true }
def FnExactHtModelsUptoSaid : Prop := fnExactHtModelsUptoRow.holds Tryz.pinned (OpenSpec.upto fnExactHtModelsSpec)

/-- 'laws.FnExactStrong', WHERE WHAT IT READS IS OF BULK AT MOST 1048576: true; the input reads as it did. -/
def fnExactStrongUptoRow : OpenClaim := { program := "ytleimijgpmoifaagreat", sum := "5ecf418223c1eabf02f17ab60476eeaecab8131164533b5d2b5034a0145fefdc", func := "loop.example/g00554/laws.FnExactStrong", spec := "fnExactStrong", unfollowed := true, recurses := true, apart := false, narrowed := true }
def FnExactStrongUptoSaid : Prop := fnExactStrongUptoRow.holds Tryz.pinned (OpenSpec.upto fnExactStrongSpec)

/-- 'laws.FnExactEqual', WHERE WHAT IT READS IS OF BULK AT MOST 1048576: true; the input reads as it did. -/
def fnExactEqualUptoRow : OpenClaim := { program := "ytleimijgpmoifaagreat", sum := "5ecf418223c1eabf02f17ab60476eeaecab8131164533b5d2b5034a0145fefdc", func := "loop.example/g00554/laws.FnExactEqual", spec := "fnExactEqual", unfollowed := true, recurses := true, apart := false, narrowed := true }
def FnExactEqualUptoSaid : Prop := fnExactEqualUptoRow.holds Tryz.pinned (OpenSpec.upto fnExactEqualSpec)

/-- 'laws.FnExactWhy', WHERE WHAT IT READS IS OF BULK AT MOST 1048576: true; the input reads as it did. -/
def fnExactWhyUptoRow : OpenClaim := { program := "ytleimijgpmoifaagreat", sum := "5ecf418223c1eabf02f17ab60476eeaecab8131164533b5d2b5034a0145fefdc", func := "loop.example/g00554/laws.FnExactWhy", spec := "fnExactWhy", unfollowed := true, recurses := true, apart := false, narrowed := true }
def FnExactWhyUptoSaid : Prop := fnExactWhyUptoRow.holds Tryz.pinned (OpenSpec.upto fnExactWhySpec)

/-- 'laws.FnExactReasons', WHERE WHAT IT READS IS OF BULK AT MOST 1048576: true; the input reads as it did. -/
def fnExactReasonsUptoRow : OpenClaim := { program := "ytleimijgpmoifaagreat", sum := "5ecf418223c1eabf02f17ab60476eeaecab8131164533b5d2b5034a0145fefdc", func := "loop.example/g00554/laws.FnExactReasons", spec := "fnExactReasons", unfollowed := true, recurses := true, apart := false, narrowed := true }
def FnExactReasonsUptoSaid : Prop := fnExactReasonsUptoRow.holds Tryz.pinned (OpenSpec.upto fnExactReasonsSpec)

end Rows
end Go.Proofs.YtleimijgpmoifaaGreat
