/-
  No cell of these rows narrows 'for every input' (looked for: loops, veiled, ifaces, maps, wideKeys, modest, calm, conditions, laid).
  DERIVED. THE GIVEN ROWS OF THIS SEAT. 6 by the template 'for every input the law returns true; each argument reads behind the call as it read before'; 0 by the template 'total and deterministic' (their statements: YteeoiplakfajkaaTotals.lean).
  GIVEN WITH THE SEED: the statements are not yours to turn. If you find one false, say at which input.
  Laid BY PROGRAM, IN A SANDBOX (cutbox-rows.mjs): the forced cells as the released guide's own fill.sh prints them over the translation dde8ed0a9f06cf11… (all of the seat's roots in one cut). By AI agents, Wed Nov 11 2026. No macro, syntax, notation, axiom, sorry.
-/
import Derived.Test.YteeoiplakfajkaaChecked
import GoSem.Claim
import GoSem.ClaimJoined
import GoSem.ClaimMapViews
import Derived.JoinedTies
import Derived.KernelRfl
namespace Go.Proofs.Yteeoiplakfajkaa
/- THE CELL 'sum', in the pinned program and in every row, IS THE sha256 OF THE DUMP (.gsa) THAT YteeoiplakfajkaaProg.lean LOADS. Nothing in Lean hashes anything: it is a label: what it is worth is what the hold of that sum in a sandbox is worth. -/
noncomputable def Try.pinned : Pinned := { name := "yteeoiplakfajkaa", sum := "dde8ed0a9f06cf11d3ab17956f769ef67e822a9148b95feb85e0dc12c9a9abb5", checked := Try.checked }
namespace Rows
def none {H : Type} : Left H := { results := [], args := [] }

/-- 'laws.FnExactValsOk': WHATEVER THE INPUT: true; the input reads as it did. -/
def fnExactValsOkSpec : ChangeSpec := { name := "fnExactValsOk", fn := fun _ => fun
  | [d1, d2] => { results := [.lit (.bool true)], args := [d1, d2] }
  | _ => none }
def fnExactValsOkRow : OpenClaim := { program := "yteeoiplakfajkaa", sum := "dde8ed0a9f06cf11d3ab17956f769ef67e822a9148b95feb85e0dc12c9a9abb5", func := "loop.example/g00554/laws.FnExactValsOk", spec := "fnExactValsOk", unfollowed := true, recurses := true, apart := false }
def FnExactValsOkSaid : Prop := fnExactValsOkRow.holds Try.pinned (OpenSpec.ofChange fnExactValsOkSpec)

/-- ITS FALSE NEIGHBOUR: 'it returns false'. Refute it at one input. -/
def fnExactValsOkWrong : ChangeSpec := { name := "fnExactValsOk", fn := fun _ => fun
  | [d1, d2] => { results := [.lit (.bool false)], args := [d1, d2] }
  | _ => none }
def FnExactValsOkWrongFalsely : Prop := fnExactValsOkRow.holds Try.pinned (OpenSpec.ofChange fnExactValsOkWrong)

/-- 'laws.FnExactWhole': WHATEVER THE INPUT: true; the input reads as it did. -/
def fnExactWholeSpec : ChangeSpec := { name := "fnExactWhole", fn := fun _ => fun
  | [d] => { results := [.lit (.bool true)], args := [d] }
  | _ => none }
def fnExactWholeRow : OpenClaim := { program := "yteeoiplakfajkaa", sum := "dde8ed0a9f06cf11d3ab17956f769ef67e822a9148b95feb85e0dc12c9a9abb5", func := "loop.example/g00554/laws.FnExactWhole", spec := "fnExactWhole", apart := false }
def FnExactWholeSaid : Prop := fnExactWholeRow.holds Try.pinned (OpenSpec.ofChange fnExactWholeSpec)

/-- ITS FALSE NEIGHBOUR: 'it returns false'. Refute it at one input. -/
def fnExactWholeWrong : ChangeSpec := { name := "fnExactWhole", fn := fun _ => fun
  | [d] => { results := [.lit (.bool false)], args := [d] }
  | _ => none }
def FnExactWholeWrongFalsely : Prop := fnExactWholeRow.holds Try.pinned (OpenSpec.ofChange fnExactWholeWrong)

/-- 'laws.FnExactTrueOf': WHATEVER THE INPUT: true; the input reads as it did. -/
def fnExactTrueOfSpec : ChangeSpec := { name := "fnExactTrueOf", fn := fun _ => fun
  | [d] => { results := [.lit (.bool true)], args := [d] }
  | _ => none }
def fnExactTrueOfRow : OpenClaim := { program := "yteeoiplakfajkaa", sum := "dde8ed0a9f06cf11d3ab17956f769ef67e822a9148b95feb85e0dc12c9a9abb5", func := "loop.example/g00554/laws.FnExactTrueOf", spec := "fnExactTrueOf", unfollowed := true, recurses := true, apart := false }
def FnExactTrueOfSaid : Prop := fnExactTrueOfRow.holds Try.pinned (OpenSpec.ofChange fnExactTrueOfSpec)

/-- ITS FALSE NEIGHBOUR: 'it returns false'. Refute it at one input. -/
def fnExactTrueOfWrong : ChangeSpec := { name := "fnExactTrueOf", fn := fun _ => fun
  | [d] => { results := [.lit (.bool false)], args := [d] }
  | _ => none }
def FnExactTrueOfWrongFalsely : Prop := fnExactTrueOfRow.holds Try.pinned (OpenSpec.ofChange fnExactTrueOfWrong)

/-- 'laws.FnExactAgrees': WHATEVER THE INPUT: true; the input reads as it did. -/
def fnExactAgreesSpec : ChangeSpec := { name := "fnExactAgrees", fn := fun _ => fun
  | [d1, d2] => { results := [.lit (.bool true)], args := [d1, d2] }
  | _ => none }
def fnExactAgreesRow : OpenClaim := { program := "yteeoiplakfajkaa", sum := "dde8ed0a9f06cf11d3ab17956f769ef67e822a9148b95feb85e0dc12c9a9abb5", func := "loop.example/g00554/laws.FnExactAgrees", spec := "fnExactAgrees", apart := false }
def FnExactAgreesSaid : Prop := fnExactAgreesRow.holds Try.pinned (OpenSpec.ofChange fnExactAgreesSpec)

/-- ITS FALSE NEIGHBOUR: 'it returns false'. Refute it at one input. -/
def fnExactAgreesWrong : ChangeSpec := { name := "fnExactAgrees", fn := fun _ => fun
  | [d1, d2] => { results := [.lit (.bool false)], args := [d1, d2] }
  | _ => none }
def FnExactAgreesWrongFalsely : Prop := fnExactAgreesRow.holds Try.pinned (OpenSpec.ofChange fnExactAgreesWrong)

/-- 'laws.FnExactTight': WHATEVER THE INPUT: true; the input reads as it did. -/
def fnExactTightSpec : ChangeSpec := { name := "fnExactTight", fn := fun _ => fun
  | [d] => { results := [.lit (.bool true)], args := [d] }
  | _ => none }
def fnExactTightRow : OpenClaim := { program := "yteeoiplakfajkaa", sum := "dde8ed0a9f06cf11d3ab17956f769ef67e822a9148b95feb85e0dc12c9a9abb5", func := "loop.example/g00554/laws.FnExactTight", spec := "fnExactTight", unfollowed := true, recurses := true, apart := false }
def FnExactTightSaid : Prop := fnExactTightRow.holds Try.pinned (OpenSpec.ofChange fnExactTightSpec)

/-- ITS FALSE NEIGHBOUR: 'it returns false'. Refute it at one input. -/
def fnExactTightWrong : ChangeSpec := { name := "fnExactTight", fn := fun _ => fun
  | [d] => { results := [.lit (.bool false)], args := [d] }
  | _ => none }
def FnExactTightWrongFalsely : Prop := fnExactTightRow.holds Try.pinned (OpenSpec.ofChange fnExactTightWrong)

/-- 'laws.FnLeastTurns': WHATEVER THE INPUT: true; the input reads as it did. -/
def fnLeastTurnsSpec : ChangeSpec := { name := "fnLeastTurns", fn := fun _ => fun
  | [d1, d2] => { results := [.lit (.bool true)], args := [d1, d2] }
  | _ => none }
def fnLeastTurnsRow : OpenClaim := { program := "yteeoiplakfajkaa", sum := "dde8ed0a9f06cf11d3ab17956f769ef67e822a9148b95feb85e0dc12c9a9abb5", func := "loop.example/g00554/laws.FnLeastTurns", spec := "fnLeastTurns", unfollowed := true, recurses := true, apart := false }
def FnLeastTurnsSaid : Prop := fnLeastTurnsRow.holds Try.pinned (OpenSpec.ofChange fnLeastTurnsSpec)

/-- ITS FALSE NEIGHBOUR: 'it returns false'. Refute it at one input. -/
def fnLeastTurnsWrong : ChangeSpec := { name := "fnLeastTurns", fn := fun _ => fun
  | [d1, d2] => { results := [.lit (.bool false)], args := [d1, d2] }
  | _ => none }
def FnLeastTurnsWrongFalsely : Prop := fnLeastTurnsRow.holds Try.pinned (OpenSpec.ofChange fnLeastTurnsWrong)

/- THE SECOND FORM. 'bulk': how many values and letters a reading holds, each counted each time it is reached (what is shared counts as often as it is met; a slice's spare places count too). A statement '..UptoSaid' is the law's where the arguments, and the package variables that the reading takes, are together of bulk at most 1048576: NARROWER than '..Said'. Prove '..Said' where nothing that the law and all that it calls make is longer than what came in: it says more and counts as full. Else prove '..UptoSaid'. A law counts once. -/
mutual
def uptoBulk {H : Type} : DataW H → Nat
  | .lit (.string bytes) => bytes.length + 1
  | .lit _ => 1
  | .nil => 1
  | .ptr d => uptoBulk d + 1
  | .slice elems spare => uptoBulkAll elems + uptoBulkAll spare + 1
  | .agg parts => uptoBulkAll parts + 1
  | .iface _ d => uptoBulk d + 1
  | .map entries => uptoBulkEntries entries + 1
  | .held _ => 1
def uptoBulkAll {H : Type} : List (DataW H) → Nat
  | [] => 0
  | d :: r => uptoBulk d + uptoBulkAll r
def uptoBulkEntries {H : Type} : List (Lit × DataW H) → Nat
  | [] => 0
  | x :: r => uptoBulkEntry x + uptoBulkEntries r
def uptoBulkEntry {H : Type} : Lit × DataW H → Nat
  | (.string bytes, d) => bytes.length + uptoBulk d + 1
  | (_, d) => uptoBulk d + 1
 end
def uptoSmall : (H : Type) → List (DataW H) → Bool := fun _ ds => decide (uptoBulkAll ds ≤ 1048576)
def OpenSpec.upto (s : _root_.Go.ChangeSpec) : _root_.Go.OpenSpec := { _root_.Go.OpenSpec.ofChange s with cond := some uptoSmall }

/-- 'laws.FnExactValsOk', WHERE WHAT IT READS IS OF BULK AT MOST 1048576: true; the input reads as it did. -/
def fnExactValsOkUptoRow : OpenClaim := { program := "yteeoiplakfajkaa", sum := "dde8ed0a9f06cf11d3ab17956f769ef67e822a9148b95feb85e0dc12c9a9abb5", func := "loop.example/g00554/laws.FnExactValsOk", spec := "fnExactValsOk", unfollowed := true, recurses := true, apart := false, narrowed := true }
def FnExactValsOkUptoSaid : Prop := fnExactValsOkUptoRow.holds Try.pinned (OpenSpec.upto fnExactValsOkSpec)

/-- 'laws.FnExactWhole', WHERE WHAT IT READS IS OF BULK AT MOST 1048576: true; the input reads as it did. -/
def fnExactWholeUptoRow : OpenClaim := { program := "yteeoiplakfajkaa", sum := "dde8ed0a9f06cf11d3ab17956f769ef67e822a9148b95feb85e0dc12c9a9abb5", func := "loop.example/g00554/laws.FnExactWhole", spec := "fnExactWhole", apart := false, narrowed := true }
def FnExactWholeUptoSaid : Prop := fnExactWholeUptoRow.holds Try.pinned (OpenSpec.upto fnExactWholeSpec)

/-- 'laws.FnExactTrueOf', WHERE WHAT IT READS IS OF BULK AT MOST 1048576: true; the input reads as it did. -/
def fnExactTrueOfUptoRow : OpenClaim := { program := "yteeoiplakfajkaa", sum := "dde8ed0a9f06cf11d3ab17956f769ef67e822a9148b95feb85e0dc12c9a9abb5", func := "loop.example/g00554/laws.FnExactTrueOf", spec := "fnExactTrueOf", unfollowed := true, recurses := true, apart := false, narrowed := true }
def FnExactTrueOfUptoSaid : Prop := fnExactTrueOfUptoRow.holds Try.pinned (OpenSpec.upto fnExactTrueOfSpec)

/-- 'laws.FnExactAgrees', WHERE WHAT IT READS IS OF BULK AT MOST 1048576: true; the input reads as it did. -/
def fnExactAgreesUptoRow : OpenClaim := { program := "yteeoiplakfajkaa", sum := "dde8ed0a9f06cf11d3ab17956f769ef67e822a9148b95feb85e0dc12c9a9abb5", func := "loop.example/g00554/laws.FnExactAgrees", spec := "fnExactAgrees", apart := false, narrowed := true }
def FnExactAgreesUptoSaid : Prop := fnExactAgreesUptoRow.holds Try.pinned (OpenSpec.upto fnExactAgreesSpec)

/-- 'laws.FnExactTight', WHERE WHAT IT READS IS OF BULK AT MOST 1048576: true; the input reads as it did. -/
def fnExactTightUptoRow : OpenClaim := { program := "yteeoiplakfajkaa", sum := "dde8ed0a9f06cf11d3ab17956f769ef67e822a9148b95feb85e0dc12c9a9abb5", func := "loop.example/g00554/laws.FnExactTight", spec := "fnExactTight", unfollowed := true, recurses := true, apart := false, narrowed := true }
def FnExactTightUptoSaid : Prop := fnExactTightUptoRow.holds Try.pinned (OpenSpec.upto fnExactTightSpec)

/-- 'laws.FnLeastTurns', WHERE WHAT IT READS IS OF BULK AT MOST 1048576: true; the input reads as it did. -/
def fnLeastTurnsUptoRow : OpenClaim := { program := "yteeoiplakfajkaa", sum := "dde8ed0a9f06cf11d3ab17956f769ef67e822a9148b95feb85e0dc12c9a9abb5", func := "loop.example/g00554/laws.FnLeastTurns", spec := "fnLeastTurns", unfollowed := true, recurses := true, apart := false, narrowed := true }
def FnLeastTurnsUptoSaid : Prop := fnLeastTurnsUptoRow.holds Try.pinned (OpenSpec.upto fnLeastTurnsSpec)

end Rows
end Go.Proofs.Yteeoiplakfajkaa
