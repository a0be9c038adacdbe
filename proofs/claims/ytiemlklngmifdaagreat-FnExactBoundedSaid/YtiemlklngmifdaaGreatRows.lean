/-
  No cell of these rows narrows 'for every input' (looked for: loops, veiled, ifaces, maps, wideKeys, modest, calm, conditions, laid).
  DERIVED. THE GIVEN ROWS OF THIS SEAT. 5 by the template 'for every input the law returns true; each argument reads behind the call as it read before'; 0 by the template 'total and deterministic' (their statements: YtiemlklngmifdaaGreatTotals.lean).
  GIVEN WITH THE SEED: the statements are not yours to turn. If you find one false, say at which input.
  Laid BY PROGRAM, IN A SANDBOX (cutbox-rows.mjs): the forced cells as the released guide's own fill.sh prints them over the translation 25ea80c2580e074c… (all of the seat's roots in one cut). By AI agents, Wed Nov 11 2026. No macro, syntax, notation, axiom, sorry.
-/
import Derived.Test.YtiemlklngmifdaaGreatChecked
import GoSem.Claim
import GoSem.ClaimJoined
import GoSem.ClaimMapViews
import Derived.JoinedTies
import Derived.KernelRfl
namespace Go.Proofs.YtiemlklngmifdaaGreat
/- THE CELL 'sum', in the pinned program and in every row, IS THE sha256 OF THE DUMP (.gsa) THAT YtiemlklngmifdaaGreatProg.lean LOADS. Nothing in Lean hashes anything: it is a label: what it is worth is what the hold of that sum in a sandbox is worth. -/
noncomputable def Tryz.pinned : Pinned := { name := "ytiemlklngmifdaagreat", sum := "25ea80c2580e074cce9342a13e72f64e5302449d03227f18d4d84025f066ecc6", checked := Tryz.checked }
namespace Rows
def none {H : Type} : Left H := { results := [], args := [] }

/-- 'laws.FnExactOptimal': WHATEVER THE INPUT: true; the input reads as it did. -/
def fnExactOptimalSpec : ChangeSpec := { name := "fnExactOptimal", fn := fun _ => fun
  | [d] => { results := [.lit (.bool true)], args := [d] }
  | _ => none }
def fnExactOptimalRow : OpenClaim := { program := "ytiemlklngmifdaagreat", sum := "25ea80c2580e074cce9342a13e72f64e5302449d03227f18d4d84025f066ecc6", func := "loop.example/g00554/laws.FnExactOptimal", spec := "fnExactOptimal", unfollowed := true, recurses := true, apart := false }
def FnExactOptimalSaid : Prop := fnExactOptimalRow.holds Tryz.pinned (OpenSpec.ofChange fnExactOptimalSpec)

/-- ITS FALSE NEIGHBOUR: 'it returns false'. Refute it at one input. -/
def fnExactOptimalWrong : ChangeSpec := { name := "fnExactOptimal", fn := fun _ => fun
  | [d] => { results := [.lit (.bool false)], args := [d] }
  | _ => none }
def FnExactOptimalWrongFalsely : Prop := fnExactOptimalRow.holds Tryz.pinned (OpenSpec.ofChange fnExactOptimalWrong)

/-- 'laws.FnExactBounded': WHATEVER THE INPUT: true; the input reads as it did. -/
def fnExactBoundedSpec : ChangeSpec := { name := "fnExactBounded", fn := fun _ => fun
  | [d1, d2] => { results := [.lit (.bool true)], args := [d1, d2] }
  | _ => none }
def fnExactBoundedRow : OpenClaim := { program := "ytiemlklngmifdaagreat", sum := "25ea80c2580e074cce9342a13e72f64e5302449d03227f18d4d84025f066ecc6", func := "loop.example/g00554/laws.FnExactBounded", spec := "fnExactBounded", unfollowed := true, recurses := true, apart := false }
def FnExactBoundedSaid : Prop := fnExactBoundedRow.holds Tryz.pinned (OpenSpec.ofChange fnExactBoundedSpec)

/-- ITS FALSE NEIGHBOUR: 'it returns false'. Refute it at one input. -/
def fnExactBoundedWrong : ChangeSpec := { name := "fnExactBounded", fn := fun _ => fun
  | [d1, d2] => { results := [.lit (.bool false)], args := [d1, d2] }
  | _ => none }
def FnExactBoundedWrongFalsely : Prop := fnExactBoundedRow.holds Tryz.pinned (OpenSpec.ofChange fnExactBoundedWrong)

/-- 'laws.FnExactWhy': WHATEVER THE INPUT: true; the input reads as it did. -/
def fnExactWhySpec : ChangeSpec := { name := "fnExactWhy", fn := fun _ => fun
  | [d1, d2] => { results := [.lit (.bool true)], args := [d1, d2] }
  | _ => none }
def fnExactWhyRow : OpenClaim := { program := "ytiemlklngmifdaagreat", sum := "25ea80c2580e074cce9342a13e72f64e5302449d03227f18d4d84025f066ecc6", func := "loop.example/g00554/laws.FnExactWhy", spec := "fnExactWhy", unfollowed := true, recurses := true, apart := false }
def FnExactWhySaid : Prop := fnExactWhyRow.holds Tryz.pinned (OpenSpec.ofChange fnExactWhySpec)

/-- ITS FALSE NEIGHBOUR: 'it returns false'. Refute it at one input. -/
def fnExactWhyWrong : ChangeSpec := { name := "fnExactWhy", fn := fun _ => fun
  | [d1, d2] => { results := [.lit (.bool false)], args := [d1, d2] }
  | _ => none }
def FnExactWhyWrongFalsely : Prop := fnExactWhyRow.holds Tryz.pinned (OpenSpec.ofChange fnExactWhyWrong)

/-- 'laws.FnExactReasons': WHATEVER THE INPUT: true; the input reads as it did. -/
def fnExactReasonsSpec : ChangeSpec := { name := "fnExactReasons", fn := fun _ => fun
  | [d1, d2, d3] => { results := [.lit (.bool true)], args := [d1, d2, d3] }
  | _ => none }
def fnExactReasonsRow : OpenClaim := { program := "ytiemlklngmifdaagreat", sum := "25ea80c2580e074cce9342a13e72f64e5302449d03227f18d4d84025f066ecc6", func := "loop.example/g00554/laws.FnExactReasons", spec := "fnExactReasons", unfollowed := true, recurses := true, apart := false }
def FnExactReasonsSaid : Prop := fnExactReasonsRow.holds Tryz.pinned (OpenSpec.ofChange fnExactReasonsSpec)

/-- ITS FALSE NEIGHBOUR: 'it returns false'. Refute it at one input. -/
def fnExactReasonsWrong : ChangeSpec := { name := "fnExactReasons", fn := fun _ => fun
  | [d1, d2, d3] => { results := [.lit (.bool false)], args := [d1, d2, d3] }
  | _ => none }
def FnExactReasonsWrongFalsely : Prop := fnExactReasonsRow.holds Tryz.pinned (OpenSpec.ofChange fnExactReasonsWrong)

/-- 'laws.FnExactAgainst': WHATEVER THE INPUT: true; the input reads as it did. -/
def fnExactAgainstSpec : ChangeSpec := { name := "fnExactAgainst", fn := fun _ => fun
  | [d1, d2] => { results := [.lit (.bool true)], args := [d1, d2] }
  | _ => none }
def fnExactAgainstRow : OpenClaim := { program := "ytiemlklngmifdaagreat", sum := "25ea80c2580e074cce9342a13e72f64e5302449d03227f18d4d84025f066ecc6", func := "loop.example/g00554/laws.FnExactAgainst", spec := "fnExactAgainst", unfollowed := true, recurses := true, apart := false }
def FnExactAgainstSaid : Prop := fnExactAgainstRow.holds Tryz.pinned (OpenSpec.ofChange fnExactAgainstSpec)

/-- ITS FALSE NEIGHBOUR: 'it returns false'. Refute it at one input. -/
def fnExactAgainstWrong : ChangeSpec := { name := "fnExactAgainst", fn := fun _ => fun
  | [d1, d2] => { results := [.lit (.bool false)], args := [d1, d2] }
  | _ => none }
def FnExactAgainstWrongFalsely : Prop := fnExactAgainstRow.holds Tryz.pinned (OpenSpec.ofChange fnExactAgainstWrong)

/- THE SECOND FORM. 'bulk': how many values and letters a reading holds, each counted each time it is reached (what is shared counts as often as it is met; a slice's spare places count too). A statement '..UptoSaid' is the law's where the arguments, and the package variables that the reading takes, are together of bulk at most 1048576: NARROWER than '..Said'. Prove '..Said' where nothing that the law and all that it calls make is longer than what came in: it says more and counts as full. Else prove '..UptoSaid'. A law counts once. -/
mutual
def uptoBulk {H : Type} : DataW H → Nat
  | .lit (.string bytes) => bytes.length + 1
  | .lit _ => 1
  | .nil => 1
  | .ptr d => uptoBulk d + 1
  | .slice elems spare => uptoBulkAll elems + uptoBulkAll spare + 1
  | .agg parts => uptoBulkAll parts + 1
  | .iface _ d => uptoBulk d + 1
  | .map entries => uptoBulkEntries entries + 1
  | .held _ => 1
def uptoBulkAll {H : Type} : List (DataW H) → Nat
  | [] => 0
  | d :: r => uptoBulk d + uptoBulkAll r
def uptoBulkEntries {H : Type} : List (Lit × DataW H) → Nat
  | [] => 0
  | x :: r => uptoBulkEntry x + uptoBulkEntries r
def uptoBulkEntry {H : Type} : Lit × DataW H → Nat
  | (.string bytes, d) => bytes.length + uptoBulk d + 1
  | (_, d) => uptoBulk d + 1
 end
def uptoSmall : (H : Type) → List (DataW H) → Bool := fun _ ds => decide (uptoBulkAll ds ≤ 1048576)
def OpenSpec.upto (s : _root_.Go.ChangeSpec) : _root_.Go.OpenSpec := { _root_.Go.OpenSpec.ofChange s with cond := some uptoSmall }

/-- 'laws.FnExactOptimal', WHERE WHAT IT READS IS OF BULK AT MOST 1048576: true; the input reads as it did. -/
def fnExactOptimalUptoRow : OpenClaim := { program := "ytiemlklngmifdaagreat", sum := "25ea80c2580e074cce9342a13e72f64e5302449d03227f18d4d84025f066ecc6", func := "loop.example/g00554/laws.FnExactOptimal", spec := "fnExactOptimal", unfollowed := true, recurses := true, apart := false, narrowed := true }
def FnExactOptimalUptoSaid : Prop := fnExactOptimalUptoRow.holds Tryz.pinned (OpenSpec.upto fnExactOptimalSpec)

/-- 'laws.FnExactBounded', WHERE WHAT IT READS IS OF BULK AT MOST 1048576: true; the input reads as it did. -/
def fnExactBoundedUptoRow : OpenClaim := { program := "ytiemlklngmifdaagreat", sum := "25ea80c2580e074cce9342a13e72f64e5302449d03227f18d4d84025f066ecc6", func := "loop.example/g00554/laws.FnExactBounded", spec := "fnExactBounded", unfollowed := true, recurses := true, apart := false, narrowed := true }
def FnExactBoundedUptoSaid : Prop := fnExactBoundedUptoRow.holds Tryz.pinned (OpenSpec.upto fnExactBoundedSpec)

/-- 'laws.FnExactWhy', WHERE WHAT IT READS IS OF BULK AT MOST 1048576: true; the input reads as it did. -/
def fnExactWhyUptoRow : OpenClaim := { program := "ytiemlklngmifdaagreat", sum := "25ea80c2580e074cce9342a13e72f64e5302449d03227f18d4d84025f066ecc6", func := "loop.example/g00554/laws.FnExactWhy", spec := "fnExactWhy", unfollowed := true, recurses := true, apart := false, narrowed := true }
def FnExactWhyUptoSaid : Prop := fnExactWhyUptoRow.holds Tryz.pinned (OpenSpec.upto fnExactWhySpec)

/-- 'laws.FnExactReasons', WHERE WHAT IT READS IS OF BULK AT MOST 1048576: true; the input reads as it did. -/
def fnExactReasonsUptoRow : OpenClaim := { program := "ytiemlklngmifdaagreat", sum := "25ea80c2580e074cce9342a13e72f64e5302449d03227f18d4d84025f066ecc6", func := "loop.example/g00554/laws.FnExactReasons", spec := "fnExactReasons", unfollowed := true, recurses := true, apart := false, narrowed := true }
def FnExactReasonsUptoSaid : Prop := fnExactReasonsUptoRow.holds Tryz.pinned (OpenSpec.upto fnExactReasonsSpec)

/-- 'laws.FnExactAgainst', WHERE WHAT IT READS IS OF BULK AT MOST 1048576: true; the input reads as it did. -/
def fnExactAgainstUptoRow : OpenClaim := { program := "ytiemlklngmifdaagreat", sum := "25ea80c2580e074cce9342a13e72f64e5302449d03227f18d4d84025f066ecc6", func := "loop.example/g00554/laws.FnExactAgainst", spec := "fnExactAgainst", unfollowed := true, recurses := true, apart := false, narrowed := true }
def FnExactAgainstUptoSaid : Prop := fnExactAgainstUptoRow.holds Tryz.pinned (OpenSpec.upto fnExactAgainstSpec)

end Rows
end Go.Proofs.YtiemlklngmifdaaGreat
