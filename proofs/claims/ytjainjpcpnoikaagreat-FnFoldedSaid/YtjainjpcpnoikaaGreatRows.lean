/-
  No cell of these rows narrows 'for every input' (looked for: loops, veiled, ifaces, maps, wideKeys, modest, calm, conditions, laid).
  DERIVED. THE GIVEN ROWS OF THIS SEAT. 5 by the template 'for every input the law returns true; each argument reads behind the call as it read before'; 0 by the template 'total and deterministic' (their statements: YtjainjpcpnoikaaGreatTotals.lean).
  GIVEN WITH THE SEED: the statements are not yours to turn. If you find one false, say at which input.
  Laid BY PROGRAM, IN A SANDBOX (cutbox-rows.mjs): the forced cells as the released guide's own fill.sh prints them over the translation 3cf601f298c087ce… (all of the seat's roots in one cut). By AI agents, Wed Nov 11 2026. No macro, syntax, notation, axiom, sorry.
-/
import Derived.Test.YtjainjpcpnoikaaGreatChecked
import GoSem.Claim
import GoSem.ClaimJoined
import GoSem.ClaimMapViews
import Derived.JoinedTies
import Derived.KernelRfl
namespace Go.Proofs.YtjainjpcpnoikaaGreat
/- THE CELL 'sum', in the pinned program and in every row, IS THE sha256 OF THE DUMP (.gsa) THAT YtjainjpcpnoikaaGreatProg.lean LOADS. Nothing in Lean hashes anything: it is a label: what it is worth is what the hold of that sum in a sandbox is worth. -/
noncomputable def Tryz.pinned : Pinned := { name := "ytjainjpcpnoikaagreat", sum := "3cf601f298c087cef0aa2df14de679114a1dd0abdf96a9ba3df50905af365e68", checked := Tryz.checked }
namespace Rows
def none {H : Type} : Left H := { results := [], args := [] }

/-- 'laws.FnExactBottom': WHATEVER THE INPUT: true; the input reads as it did. -/
def fnExactBottomSpec : ChangeSpec := { name := "fnExactBottom", fn := fun _ => fun
  | [d1, d2] => { results := [.lit (.bool true)], args := [d1, d2] }
  | _ => none }
def fnExactBottomRow : OpenClaim := { program := "ytjainjpcpnoikaagreat", sum := "3cf601f298c087cef0aa2df14de679114a1dd0abdf96a9ba3df50905af365e68", func := "loop.example/g00554/laws.FnExactBottom", spec := "fnExactBottom", unfollowed := true, recurses := true, apart := false }
def FnExactBottomSaid : Prop := fnExactBottomRow.holds Tryz.pinned (OpenSpec.ofChange fnExactBottomSpec)

/-- ITS FALSE NEIGHBOUR: 'it returns false'. Refute it at one input. -/
def fnExactBottomWrong : ChangeSpec := { name := "fnExactBottom", fn := fun _ => fun
  | [d1, d2] => { results := [.lit (.bool false)], args := [d1, d2] }
  | _ => none }
def FnExactBottomWrongFalsely : Prop := fnExactBottomRow.holds Tryz.pinned (OpenSpec.ofChange fnExactBottomWrong)

/-- 'laws.FnExactTop': WHATEVER THE INPUT: true; the input reads as it did. -/
def fnExactTopSpec : ChangeSpec := { name := "fnExactTop", fn := fun _ => fun
  | [d1, d2, d3] => { results := [.lit (.bool true)], args := [d1, d2, d3] }
  | _ => none }
def fnExactTopRow : OpenClaim := { program := "ytjainjpcpnoikaagreat", sum := "3cf601f298c087cef0aa2df14de679114a1dd0abdf96a9ba3df50905af365e68", func := "loop.example/g00554/laws.FnExactTop", spec := "fnExactTop", unfollowed := true, recurses := true, apart := false }
def FnExactTopSaid : Prop := fnExactTopRow.holds Tryz.pinned (OpenSpec.ofChange fnExactTopSpec)

/-- ITS FALSE NEIGHBOUR: 'it returns false'. Refute it at one input. -/
def fnExactTopWrong : ChangeSpec := { name := "fnExactTop", fn := fun _ => fun
  | [d1, d2, d3] => { results := [.lit (.bool false)], args := [d1, d2, d3] }
  | _ => none }
def FnExactTopWrongFalsely : Prop := fnExactTopRow.holds Tryz.pinned (OpenSpec.ofChange fnExactTopWrong)

/-- 'laws.FnExactSplitAnswers': WHATEVER THE INPUT: true; the input reads as it did. -/
def fnExactSplitAnswersSpec : ChangeSpec := { name := "fnExactSplitAnswers", fn := fun _ => fun
  | [d1, d2] => { results := [.lit (.bool true)], args := [d1, d2] }
  | _ => none }
def fnExactSplitAnswersRow : OpenClaim := { program := "ytjainjpcpnoikaagreat", sum := "3cf601f298c087cef0aa2df14de679114a1dd0abdf96a9ba3df50905af365e68", func := "loop.example/g00554/laws.FnExactSplitAnswers", spec := "fnExactSplitAnswers", unfollowed := true, recurses := true, apart := false }
def FnExactSplitAnswersSaid : Prop := fnExactSplitAnswersRow.holds Tryz.pinned (OpenSpec.ofChange fnExactSplitAnswersSpec)

/-- ITS FALSE NEIGHBOUR: 'it returns false'. Refute it at one input. -/
def fnExactSplitAnswersWrong : ChangeSpec := { name := "fnExactSplitAnswers", fn := fun _ => fun
  | [d1, d2] => { results := [.lit (.bool false)], args := [d1, d2] }
  | _ => none }
def FnExactSplitAnswersWrongFalsely : Prop := fnExactSplitAnswersRow.holds Tryz.pinned (OpenSpec.ofChange fnExactSplitAnswersWrong)

/-- 'laws.FnExactClosure': WHATEVER THE INPUT: true; the input reads as it did. -/
def fnExactClosureSpec : ChangeSpec := { name := "fnExactClosure", fn := fun _ => fun
  | [d1, d2] => { results := [.lit (.bool true)], args := [d1, d2] }
  | _ => none }
def fnExactClosureRow : OpenClaim := { program := "ytjainjpcpnoikaagreat", sum := "3cf601f298c087cef0aa2df14de679114a1dd0abdf96a9ba3df50905af365e68", func := "loop.example/g00554/laws.FnExactClosure", spec := "fnExactClosure", unfollowed := true, recurses := true, apart := false }
def FnExactClosureSaid : Prop := fnExactClosureRow.holds Tryz.pinned (OpenSpec.ofChange fnExactClosureSpec)

/-- ITS FALSE NEIGHBOUR: 'it returns false'. Refute it at one input. -/
def fnExactClosureWrong : ChangeSpec := { name := "fnExactClosure", fn := fun _ => fun
  | [d1, d2] => { results := [.lit (.bool false)], args := [d1, d2] }
  | _ => none }
def FnExactClosureWrongFalsely : Prop := fnExactClosureRow.holds Tryz.pinned (OpenSpec.ofChange fnExactClosureWrong)

/-- 'laws.FnFolded': WHATEVER THE INPUT: true; the input reads as it did. -/
def fnFoldedSpec : ChangeSpec := { name := "fnFolded", fn := fun _ => fun
  | [d] => { results := [.lit (.bool true)], args := [d] }
  | _ => none }
def fnFoldedRow : OpenClaim := { program := "ytjainjpcpnoikaagreat", sum := "3cf601f298c087cef0aa2df14de679114a1dd0abdf96a9ba3df50905af365e68", func := "loop.example/g00554/laws.FnFolded", spec := "fnFolded", unfollowed := true, recurses := true, apart := false }
def FnFoldedSaid : Prop := fnFoldedRow.holds Tryz.pinned (OpenSpec.ofChange fnFoldedSpec)

/-- ITS FALSE NEIGHBOUR: 'it returns false'. Refute it at one input. -/
def fnFoldedWrong : ChangeSpec := { name := "fnFolded", fn := fun _ => fun
  | [d] => { results := [.lit (.bool false)], args := [d] }
  | _ => none }
def FnFoldedWrongFalsely : Prop := fnFoldedRow.holds Tryz.pinned (OpenSpec.ofChange fnFoldedWrong)

/- THE SECOND FORM. 'bulk': how many values and letters a reading holds, each counted each time it is reached (what is shared counts as often as it is met; a slice's spare places count too). A statement '..UptoSaid' is the law's where the arguments, and the package variables that the reading takes, are together of bulk at most 1048576: NARROWER than '..Said'. Prove '..Said' where nothing that the law and all that it calls make is longer than what came in: it says more and counts as full. Else prove '..UptoSaid'. A law counts once. -/
mutual
def uptoBulk {H : Type} : DataW H → Nat
  | .lit (.string bytes) => bytes.length + 1
  | .lit _ => 1
  | .nil => 1
  | .ptr d => uptoBulk d + 1
  | .slice elems spare => uptoBulkAll elems + uptoBulkAll spare + 1
  | .agg parts => uptoBulkAll parts + 1
  | .iface _ d => uptoBulk d + 1
  | .map entries => uptoBulkEntries entries + 1
  | .held _ => 1
def uptoBulkAll {H : Type} : List (DataW H) → Nat
  | [] => 0
  | d :: r => uptoBulk d + uptoBulkAll r
def uptoBulkEntries {H : Type} : List (Lit × DataW H) → Nat
  | [] => 0
  | x :: r => uptoBulkEntry x + uptoBulkEntries r
def uptoBulkEntry {H : Type} : Lit × DataW H → Nat
  | (.string bytes, d) => bytes.length + uptoBulk d + 1
  | (_, d) => uptoBulk d + 1
 end
def uptoSmall : (H : Type) → List (DataW H) → Bool := fun _ ds => decide (uptoBulkAll ds ≤ 1048576)
def OpenSpec.upto (s : _root_.Go.ChangeSpec) : _root_.Go.OpenSpec := { _root_.Go.OpenSpec.ofChange s with cond := some uptoSmall }

/-- 'laws.FnExactBottom', WHERE WHAT IT READS IS OF BULK AT MOST 1048576: true; the input reads as it did. -/
def fnExactBottomUptoRow : OpenClaim := { program := "ytjainjpcpnoikaagreat", sum := "3cf601f298c087cef0aa2df14de679114a1dd0abdf96a9ba3df50905af365e68", func := "loop.example/g00554/laws.FnExactBottom", spec := "fnExactBottom", unfollowed := true, recurses := true, apart := false, narrowed := true }
def FnExactBottomUptoSaid : Prop := fnExactBottomUptoRow.holds Tryz.pinned (OpenSpec.upto fnExactBottomSpec)

/-- 'laws.FnExactTop', WHERE WHAT IT READS IS OF BULK AT MOST 1048576: true; the input reads as it did. -/
def fnExactTopUptoRow : OpenClaim := { program := "ytjainjpcpnoikaagreat", sum := "3cf601f298c087cef0aa2df14de679114a1dd0abdf96a9ba3df50905af365e68", func := "loop.example/g00554/laws.FnExactTop", spec := "fnExactTop", unfollowed := true, recurses := true, apart := false, narrowed := true }
def FnExactTopUptoSaid : Prop := fnExactTopUptoRow.holds Tryz.pinned (OpenSpec.upto fnExactTopSpec)

/-- 'laws.FnExactSplitAnswers', WHERE WHAT IT READS IS OF BULK AT MOST 1048576: true; the input reads as it did. -/
def fnExactSplitAnswersUptoRow : OpenClaim := { program := "ytjainjpcpnoikaagreat", sum := "3cf601f298c087cef0aa2df14de679114a1dd0abdf96a9ba3df50905af365e68", func := "loop.example/g00554/laws.FnExactSplitAnswers", spec := "fnExactSplitAnswers", unfollowed := true, recurses := true, apart := false, narrowed := true }
def FnExactSplitAnswersUptoSaid : Prop := fnExactSplitAnswersUptoRow.holds Tryz.pinned (OpenSpec.upto fnExactSplitAnswersSpec)

/-- 'laws.FnExactClosure', WHERE WHAT IT READS IS OF BULK AT MOST 1048576: true; the input reads as it did. -/
def fnExactClosureUptoRow : OpenClaim := { program := "ytjainjpcpnoikaagreat", sum := "3cf601f298c087cef0aa2df14de679114a1dd0abdf96a9ba3df50905af365e68", func := "loop.example/g00554/laws.FnExactClosure", spec := "fnExactClosure", unfollowed := true, recurses := true, apart := false, narrowed := true }
def FnExactClosureUptoSaid : Prop := fnExactClosureUptoRow.holds Tryz.pinned (OpenSpec.upto fnExactClosureSpec)

/-- 'laws.FnFolded', WHERE WHAT IT READS IS OF BULK AT MOST 1048576: true; the input reads as it did. -/
def fnFoldedUptoRow : OpenClaim := { program := "ytjainjpcpnoikaagreat", sum := "3cf601f298c087cef0aa2df14de679114a1dd0abdf96a9ba3df50905af365e68", func := "loop.example/g00554/laws.FnFolded", spec := "fnFolded", unfollowed := true, recurses := true, apart := false, narrowed := true }
def FnFoldedUptoSaid : Prop := fnFoldedUptoRow.holds Tryz.pinned (OpenSpec.upto fnFoldedSpec)

end Rows
end Go.Proofs.YtjainjpcpnoikaaGreat
