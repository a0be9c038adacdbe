/-
  No cell of these rows narrows 'for every input' (looked for: loops, veiled, ifaces, maps, wideKeys, modest, calm, conditions, laid).
  DERIVED. THE GIVEN ROWS OF THIS SEAT. 5 by the template 'for every input the law returns true; each argument reads behind the call as it read before'; 0 by the template 'total and deterministic' (their statements: YtnjiephgiemkjaaGreatTotals.lean).
  GIVEN WITH THE SEED: the statements are not yours to turn. If you find one false, say at which input.
  Laid BY PROGRAM, IN A SANDBOX (cutbox-rows.mjs): the forced cells as the released guide's own fill.sh prints them over the translation afe083ec5bcea5f4… (all of the seat's roots in one cut). By AI agents, Wed Nov 11 2026. No macro, syntax, notation, axiom, sorry.
-/
import Derived.Test.YtnjiephgiemkjaaGreatChecked
import GoSem.Claim
import GoSem.ClaimJoined
import GoSem.ClaimMapViews
import Derived.JoinedTies
import Derived.KernelRfl
namespace Go.Proofs.YtnjiephgiemkjaaGreat
/- THE CELL 'sum', in the pinned program and in every row, IS THE sha256 OF THE DUMP (.gsa) THAT YtnjiephgiemkjaaGreatProg.lean LOADS. Nothing in Lean hashes anything: it is a label: what it is worth is what the hold of that sum in a sandbox is worth. -/
noncomputable def Tryz.pinned : Pinned := { name := "ytnjiephgiemkjaagreat", sum := "afe083ec5bcea5f41d97fb58c3daab6ca0eca72b4da112cf2b80566c7bf0bd13", checked := Tryz.checked }
namespace Rows
def none {H : Type} : Left H := { results := [], args := [] }

/-- 'laws.FnExactBrave': WHATEVER THE INPUT: true; the input reads as it did. -/
def fnExactBraveSpec : ChangeSpec := { name := "fnExactBrave", fn := fun _ => fun
  | [d] => { results := [.lit (.bool true)], args := [d] }
  | _ => none }
def fnExactBraveRow : OpenClaim := { program := "ytnjiephgiemkjaagreat", sum := "afe083ec5bcea5f41d97fb58c3daab6ca0eca72b4da112cf2b80566c7bf0bd13", func := "loop.example/g00554/laws.FnExactBrave", spec := "fnExactBrave", unfollowed := true, recurses := true, plainKeys := false, apart := false }
def FnExactBraveSaid : Prop := fnExactBraveRow.holds Tryz.pinned (OpenSpec.ofChange fnExactBraveSpec)

/-- ITS FALSE NEIGHBOUR: 'it returns false'. Refute it at one input. -/
def fnExactBraveWrong : ChangeSpec := { name := "fnExactBrave", fn := fun _ => fun
  | [d] => { results := [.lit (.bool false)], args := [d] }
  | _ => none }
def FnExactBraveWrongFalsely : Prop := fnExactBraveRow.holds Tryz.pinned (OpenSpec.ofChange fnExactBraveWrong)

/-- 'laws.FnExactCautious': WHATEVER THE INPUT: true; the input reads as it did. -/
def fnExactCautiousSpec : ChangeSpec := { name := "fnExactCautious", fn := fun _ => fun
  | [d] => { results := [.lit (.bool true)], args := [d] }
  | _ => none }
def fnExactCautiousRow : OpenClaim := { program := "ytnjiephgiemkjaagreat", sum := "afe083ec5bcea5f41d97fb58c3daab6ca0eca72b4da112cf2b80566c7bf0bd13", func := "loop.example/g00554/laws.FnExactCautious", spec := "fnExactCautious", unfollowed := true, recurses := true, plainKeys := false, apart := false }
def FnExactCautiousSaid : Prop := fnExactCautiousRow.holds Tryz.pinned (OpenSpec.ofChange fnExactCautiousSpec)

/-- ITS FALSE NEIGHBOUR: 'it returns false'. Refute it at one input. -/
def fnExactCautiousWrong : ChangeSpec := { name := "fnExactCautious", fn := fun _ => fun
  | [d] => { results := [.lit (.bool false)], args := [d] }
  | _ => none }
def FnExactCautiousWrongFalsely : Prop := fnExactCautiousRow.holds Tryz.pinned (OpenSpec.ofChange fnExactCautiousWrong)

/-- 'laws.FnExactNarrow': WHATEVER THE INPUT: true; the input reads as it did. -/
def fnExactNarrowSpec : ChangeSpec := { name := "fnExactNarrow", fn := fun _ => fun
  | [d1, d2] => { results := [.lit (.bool true)], args := [d1, d2] }
  | _ => none }
def fnExactNarrowRow : OpenClaim := { program := "ytnjiephgiemkjaagreat", sum := "afe083ec5bcea5f41d97fb58c3daab6ca0eca72b4da112cf2b80566c7bf0bd13", func := "loop.example/g00554/laws.FnExactNarrow", spec := "fnExactNarrow", unfollowed := true, recurses := true, plainKeys := false, apart := false }
def FnExactNarrowSaid : Prop := fnExactNarrowRow.holds Tryz.pinned (OpenSpec.ofChange fnExactNarrowSpec)

/-- ITS FALSE NEIGHBOUR: 'it returns false'. Refute it at one input. -/
def fnExactNarrowWrong : ChangeSpec := { name := "fnExactNarrow", fn := fun _ => fun
  | [d1, d2] => { results := [.lit (.bool false)], args := [d1, d2] }
  | _ => none }
def FnExactNarrowWrongFalsely : Prop := fnExactNarrowRow.holds Tryz.pinned (OpenSpec.ofChange fnExactNarrowWrong)

/-- 'laws.FnExactProjected': WHATEVER THE INPUT: true; the input reads as it did. -/
def fnExactProjectedSpec : ChangeSpec := { name := "fnExactProjected", fn := fun _ => fun
  | [d] => { results := [.lit (.bool true)], args := [d] }
  | _ => none }
def fnExactProjectedRow : OpenClaim := { program := "ytnjiephgiemkjaagreat", sum := "afe083ec5bcea5f41d97fb58c3daab6ca0eca72b4da112cf2b80566c7bf0bd13", func := "loop.example/g00554/laws.FnExactProjected", spec := "fnExactProjected", unfollowed := true, recurses := true, plainKeys := false, apart := false }
def FnExactProjectedSaid : Prop := fnExactProjectedRow.holds Tryz.pinned (OpenSpec.ofChange fnExactProjectedSpec)

/-- ITS FALSE NEIGHBOUR: 'it returns false'. Refute it at one input. -/
def fnExactProjectedWrong : ChangeSpec := { name := "fnExactProjected", fn := fun _ => fun
  | [d] => { results := [.lit (.bool false)], args := [d] }
  | _ => none }
def FnExactProjectedWrongFalsely : Prop := fnExactProjectedRow.holds Tryz.pinned (OpenSpec.ofChange fnExactProjectedWrong)

/-- 'laws.FnSeen': WHATEVER THE INPUT: true; the input reads as it did. -/
def fnSeenSpec : ChangeSpec := { name := "fnSeen", fn := fun _ => fun
  | [d] => { results := [.lit (.bool true)], args := [d] }
  | _ => none }
def fnSeenRow : OpenClaim := { program := "ytnjiephgiemkjaagreat", sum := "afe083ec5bcea5f41d97fb58c3daab6ca0eca72b4da112cf2b80566c7bf0bd13", func := "loop.example/g00554/laws.FnSeen", spec := "fnSeen", unfollowed := true, recurses := true, plainKeys := false, apart := false }
def FnSeenSaid : Prop := fnSeenRow.holds Tryz.pinned (OpenSpec.ofChange fnSeenSpec)

/-- ITS FALSE NEIGHBOUR: 'it returns false'. Refute it at one input. -/
def fnSeenWrong : ChangeSpec := { name := "fnSeen", fn := fun _ => fun
  | [d] => { results := [.lit (.bool false)], args := [d] }
  | _ => none }
def FnSeenWrongFalsely : Prop := fnSeenRow.holds Tryz.pinned (OpenSpec.ofChange fnSeenWrong)

/- THE SECOND FORM. 'bulk': how many values and letters a reading holds, each counted each time it is reached (what is shared counts as often as it is met; a slice's spare places count too). A statement '..UptoSaid' is the law's where the arguments, and the package variables that the reading takes, are together of bulk at most 1048576: NARROWER than '..Said'. Prove '..Said' where nothing that the law and all that it calls make is longer than what came in: it says more and counts as full. Else prove '..UptoSaid'. A law counts once. -/
mutual
def uptoBulk {H : Type} : DataW H → Nat
  | .lit (.string bytes) => bytes.length + 1
  | .lit _ => 1
  | .nil => 1
  | .ptr d => uptoBulk d + 1
  | .slice elems spare => uptoBulkAll elems + uptoBulkAll spare + 1
  | .agg parts => uptoBulkAll parts + 1
  | .iface _ d => uptoBulk d + 1
  | .map entries => uptoBulkEntries entries + 1
  | .held _ => 1
def uptoBulkAll {H : Type} : List (DataW H) → Nat
  | [] => 0
  | d :: r => uptoBulk d + uptoBulkAll r
def uptoBulkEntries {H : Type} : List (Lit × DataW H) → Nat
  | [] => 0
  | x :: r => uptoBulkEntry x + uptoBulkEntries r
def uptoBulkEntry {H : Type} : Lit × DataW H → Nat
  | (.string bytes, d) => bytes.length + uptoBulk d + 1
  | (_, d) => uptoBulk d + 1
 end
def uptoSmall : (H : Type) → List (DataW H) → Bool := fun _ ds => decide (uptoBulkAll ds ≤ 1048576)
def OpenSpec.upto (s : _root_.Go.ChangeSpec) : _root_.Go.OpenSpec := { _root_.Go.OpenSpec.ofChange s with cond := some uptoSmall }

/-- 'laws.FnExactBrave', WHERE WHAT IT READS IS OF BULK AT MOST 1048576: true; the input reads as it did. -/
def fnExactBraveUptoRow : OpenClaim := { program := "ytnjiephgiemkjaagreat", sum := "afe083ec5bcea5f41d97fb58c3daab6ca0eca72b4da112cf2b80566c7bf0bd13", func := "loop.example/g00554/laws.FnExactBrave", spec := "fnExactBrave", unfollowed := true, recurses := true, plainKeys := false, apart := false, narrowed := true }
def FnExactBraveUptoSaid : Prop := fnExactBraveUptoRow.holds Tryz.pinned (OpenSpec.upto fnExactBraveSpec)

/-- 'laws.FnExactCautious', WHERE WHAT IT READS IS OF BULK AT MOST 1048576: true; the input reads as it did. -/
def fnExactCautiousUptoRow : OpenClaim := { program := "ytnjiephgiemkjaagreat", sum := "afe083ec5bcea5f41d97fb58c3daab6ca0eca72b4da112cf2b80566c7bf0bd13", func := "loop.example/g00554/laws.FnExactCautious", spec := "fnExactCautious", unfollowed := true, recurses := true, plainKeys := false, apart := false, narrowed := true }
def FnExactCautiousUptoSaid : Prop := fnExactCautiousUptoRow.holds Tryz.pinned (OpenSpec.upto fnExactCautiousSpec)

/-- 'laws.FnExactNarrow', WHERE WHAT IT READS IS OF BULK AT MOST 1048576: true; the input reads as it did. -/
def fnExactNarrowUptoRow : OpenClaim := { program := "ytnjiephgiemkjaagreat", sum := "afe083ec5bcea5f41d97fb58c3daab6ca0eca72b4da112cf2b80566c7bf0bd13", func := "loop.example/g00554/laws.FnExactNarrow", spec := "fnExactNarrow", unfollowed := true, recurses := true, plainKeys := false, apart := false, narrowed := true }
def FnExactNarrowUptoSaid : Prop := fnExactNarrowUptoRow.holds Tryz.pinned (OpenSpec.upto fnExactNarrowSpec)

/-- 'laws.FnExactProjected', WHERE WHAT IT READS IS OF BULK AT MOST 1048576: true; the input reads as it did. -/
def fnExactProjectedUptoRow : OpenClaim := { program := "ytnjiephgiemkjaagreat", sum := "afe083ec5bcea5f41d97fb58c3daab6ca0eca72b4da112cf2b80566c7bf0bd13", func := "loop.example/g00554/laws.FnExactProjected", spec := "fnExactProjected", unfollowed := true, recurses := true, plainKeys := false, apart := false, narrowed := true }
def FnExactProjectedUptoSaid : Prop := fnExactProjectedUptoRow.holds Tryz.pinned (OpenSpec.upto fnExactProjectedSpec)

/-- 'laws.FnSeen', WHERE WHAT IT READS IS OF BULK AT MOST 1048576: true; the input reads as it did. -/
def fnSeenUptoRow : OpenClaim := { program := "ytnjiephgiemkjaagreat", sum := "afe083ec5bcea5f41d97fb58c3daab6ca0eca72b4da112cf2b80566c7bf0bd13", func := "loop.example/g00554/laws.FnSeen", spec := "fnSeen", unfollowed := true, recurses := true, plainKeys := false, apart := false, narrowed := true }
def FnSeenUptoSaid : Prop := fnSeenUptoRow.holds Tryz.pinned (OpenSpec.upto fnSeenSpec)

end Rows
end Go.Proofs.YtnjiephgiemkjaaGreat
