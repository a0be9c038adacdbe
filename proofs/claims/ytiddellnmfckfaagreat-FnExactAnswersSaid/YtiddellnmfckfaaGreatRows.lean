/-
  No cell of these rows narrows 'for every input' (looked for: loops, veiled, ifaces, maps, wideKeys, modest, calm, conditions, laid).
  DERIVED. THE GIVEN ROWS OF THIS SEAT. 5 by the template 'for every input the law returns true; each argument reads behind the call as it read before'; 0 by the template 'total and deterministic' (their statements: YtiddellnmfckfaaGreatTotals.lean).
  GIVEN WITH THE SEED: the statements are not yours to turn. If you find one false, say at which input.
  Laid BY PROGRAM, IN A SANDBOX (cutbox-rows.mjs): the forced cells as the released guide's own fill.sh prints them over the translation 8a345ace3d924281… (all of the seat's roots in one cut). By AI agents, Wed Nov 11 2026. No macro, syntax, notation, axiom, sorry.
-/
import Derived.Test.YtiddellnmfckfaaGreatChecked
import GoSem.Claim
import GoSem.ClaimJoined
import GoSem.ClaimMapViews
import Derived.JoinedTies
import Derived.KernelRfl
namespace Go.Proofs.YtiddellnmfckfaaGreat
/- THE CELL 'sum', in the pinned program and in every row, IS THE sha256 OF THE DUMP (.gsa) THAT YtiddellnmfckfaaGreatProg.lean LOADS. Nothing in Lean hashes anything: it is a label: what it is worth is what the hold of that sum in a sandbox is worth. -/
noncomputable def Tryz.pinned : Pinned := { name := "ytiddellnmfckfaagreat", sum := "8a345ace3d924281b49dc5a7a1be9b7b1a254ee9a1f5e58ae9149781d99ce10b", checked := Tryz.checked }
namespace Rows
def none {H : Type} : Left H := { results := [], args := [] }

/-- 'laws.FnExactAnswer': WHATEVER THE INPUT: true; the input reads as it did. -/
def fnExactAnswerSpec : ChangeSpec := { name := "fnExactAnswer", fn := fun _ => fun
  | [d1, d2] => { results := [.lit (.bool true)], args := [d1, d2] }
  | _ => none }
def fnExactAnswerRow : OpenClaim := { program := "ytiddellnmfckfaagreat", sum := "8a345ace3d924281b49dc5a7a1be9b7b1a254ee9a1f5e58ae9149781d99ce10b", func := "loop.example/g00554/laws.FnExactAnswer", spec := "fnExactAnswer", unfollowed := true, recurses := true, apart := false }
def FnExactAnswerSaid : Prop := fnExactAnswerRow.holds Tryz.pinned (OpenSpec.ofChange fnExactAnswerSpec)

/-- ITS FALSE NEIGHBOUR: 'it returns false'. Refute it at one input. -/
def fnExactAnswerWrong : ChangeSpec := { name := "fnExactAnswer", fn := fun _ => fun
  | [d1, d2] => { results := [.lit (.bool false)], args := [d1, d2] }
  | _ => none }
def FnExactAnswerWrongFalsely : Prop := fnExactAnswerRow.holds Tryz.pinned (OpenSpec.ofChange fnExactAnswerWrong)

/-- 'laws.FnExactLeast': WHATEVER THE INPUT: true; the input reads as it did. -/
def fnExactLeastSpec : ChangeSpec := { name := "fnExactLeast", fn := fun _ => fun
  | [d1, d2] => { results := [.lit (.bool true)], args := [d1, d2] }
  | _ => none }
def fnExactLeastRow : OpenClaim := { program := "ytiddellnmfckfaagreat", sum := "8a345ace3d924281b49dc5a7a1be9b7b1a254ee9a1f5e58ae9149781d99ce10b", func := "loop.example/g00554/laws.FnExactLeast", spec := "fnExactLeast", unfollowed := true, recurses := true, apart := false }
def FnExactLeastSaid : Prop := fnExactLeastRow.holds Tryz.pinned (OpenSpec.ofChange fnExactLeastSpec)

/-- ITS FALSE NEIGHBOUR: 'it returns false'. Refute it at one input. -/
def fnExactLeastWrong : ChangeSpec := { name := "fnExactLeast", fn := fun _ => fun
  | [d1, d2] => { results := [.lit (.bool false)], args := [d1, d2] }
  | _ => none }
def FnExactLeastWrongFalsely : Prop := fnExactLeastRow.holds Tryz.pinned (OpenSpec.ofChange fnExactLeastWrong)

/-- 'laws.FnExactBase': WHATEVER THE INPUT: true; the input reads as it did. -/
def fnExactBaseSpec : ChangeSpec := { name := "fnExactBase", fn := fun _ => fun
  | [d1, d2] => { results := [.lit (.bool true)], args := [d1, d2] }
  | _ => none }
def fnExactBaseRow : OpenClaim := { program := "ytiddellnmfckfaagreat", sum := "8a345ace3d924281b49dc5a7a1be9b7b1a254ee9a1f5e58ae9149781d99ce10b", func := "loop.example/g00554/laws.FnExactBase", spec := "fnExactBase", unfollowed := true, recurses := true, apart := false }
def FnExactBaseSaid : Prop := fnExactBaseRow.holds Tryz.pinned (OpenSpec.ofChange fnExactBaseSpec)

/-- ITS FALSE NEIGHBOUR: 'it returns false'. Refute it at one input. -/
def fnExactBaseWrong : ChangeSpec := { name := "fnExactBase", fn := fun _ => fun
  | [d1, d2] => { results := [.lit (.bool false)], args := [d1, d2] }
  | _ => none }
def FnExactBaseWrongFalsely : Prop := fnExactBaseRow.holds Tryz.pinned (OpenSpec.ofChange fnExactBaseWrong)

/-- 'laws.FnExactCount': WHATEVER THE INPUT: true; the input reads as it did. -/
def fnExactCountSpec : ChangeSpec := { name := "fnExactCount", fn := fun _ => fun
  | [d] => { results := [.lit (.bool true)], args := [d] }
  | _ => none }
def fnExactCountRow : OpenClaim := { program := "ytiddellnmfckfaagreat", sum := "8a345ace3d924281b49dc5a7a1be9b7b1a254ee9a1f5e58ae9149781d99ce10b", func := "loop.example/g00554/laws.FnExactCount", spec := "fnExactCount", unfollowed := true, recurses := true, apart := false }
def FnExactCountSaid : Prop := fnExactCountRow.holds Tryz.pinned (OpenSpec.ofChange fnExactCountSpec)

/-- ITS FALSE NEIGHBOUR: 'it returns false'. Refute it at one input. -/
def fnExactCountWrong : ChangeSpec := { name := "fnExactCount", fn := fun _ => fun
  | [d] => { results := [.lit (.bool false)], args := [d] }
  | _ => none }
def FnExactCountWrongFalsely : Prop := fnExactCountRow.holds Tryz.pinned (OpenSpec.ofChange fnExactCountWrong)

/-- 'laws.FnExactAnswers': WHATEVER THE INPUT: true; the input reads as it did. -/
def fnExactAnswersSpec : ChangeSpec := { name := "fnExactAnswers", fn := fun _ => fun
  | [d] => { results := [.lit (.bool true)], args := [d] }
  | _ => none }
def fnExactAnswersRow : OpenClaim := { program := "ytiddellnmfckfaagreat", sum := "8a345ace3d924281b49dc5a7a1be9b7b1a254ee9a1f5e58ae9149781d99ce10b", func := "loop.example/g00554/laws.FnExactAnswers", spec := "fnExactAnswers", unfollowed := true, recurses := true, apart := false }
def FnExactAnswersSaid : Prop := fnExactAnswersRow.holds Tryz.pinned (OpenSpec.ofChange fnExactAnswersSpec)

/-- ITS FALSE NEIGHBOUR: 'it returns false'. Refute it at one input. -/
def fnExactAnswersWrong : ChangeSpec := { name := "fnExactAnswers", fn := fun _ => fun
  | [d] => { results := [.lit (.bool false)], args := [d] }
  | _ => none }
def FnExactAnswersWrongFalsely : Prop := fnExactAnswersRow.holds Tryz.pinned (OpenSpec.ofChange fnExactAnswersWrong)

/- THE SECOND FORM. 'bulk': how many values and letters a reading holds, each counted each time it is reached (what is shared counts as often as it is met; a slice's spare places count too). A statement '..UptoSaid' is the law's where the arguments, and the package variables that the reading takes, are together of bulk at most 1048576: NARROWER than '..Said'. Prove '..Said' where nothing that the law and all that it calls make is longer than what came in: it says more and counts as full. Else prove '..UptoSaid'. A law counts once. -/
mutual
def uptoBulk {H : Type} : DataW H → Nat
  | .lit (.string bytes) => bytes.length + 1
  | .lit _ => 1
  | .nil => 1
  | .ptr d => uptoBulk d + 1
  | .slice elems spare => uptoBulkAll elems + uptoBulkAll spare + 1
  | .agg parts => uptoBulkAll parts + 1
  | .iface _ d => uptoBulk d + 1
  | .map entries => uptoBulkEntries entries + 1
  | .held _ => 1
def uptoBulkAll {H : Type} : List (DataW H) → Nat
  | [] => 0
  | d :: r => uptoBulk d + uptoBulkAll r
def uptoBulkEntries {H : Type} : List (Lit × DataW H) → Nat
  | [] => 0
  | x :: r => uptoBulkEntry x + uptoBulkEntries r
def uptoBulkEntry {H : Type} : Lit × DataW H → Nat
  | (.string bytes, d) => bytes.length + uptoBulk d + 1
  | (_, d) => uptoBulk d + 1
 end
def uptoSmall : (H : Type) → List (DataW H) → Bool := fun _ ds => decide (uptoBulkAll ds ≤ 1048576)
def OpenSpec.upto (s : _root_.Go.ChangeSpec) : _root_.Go.OpenSpec := { _root_.Go.OpenSpec.ofChange s with cond := some uptoSmall }

/-- 'laws.FnExactAnswer', WHERE WHAT IT READS IS OF BULK AT MOST 1048576: true; the input reads as it did. -/
def fnExactAnswerUptoRow : OpenClaim := { program := "ytiddellnmfckfaagreat", sum := "8a345ace3d924281b49dc5a7a1be9b7b1a254ee9a1f5e58ae9149781d99ce10b", func := "loop.example/g00554/laws.FnExactAnswer", spec := "fnExactAnswer", unfollowed := true, recurses := true, apart := false, narrowed := true }
def FnExactAnswerUptoSaid : Prop := fnExactAnswerUptoRow.holds Tryz.pinned (OpenSpec.upto fnExactAnswerSpec)

/-- 'laws.FnExactLeast', WHERE WHAT IT READS IS OF BULK AT MOST 1048576: true; the input reads as it did. -/
def fnExactLeastUptoRow : OpenClaim := { program := "ytiddellnmfckfaagreat", sum := "8a345ace3d924281b49dc5a7a1be9b7b1a254ee9a1f5e58ae9149781d99ce10b", func := "loop.example/g00554/laws.FnExactLeast", spec := "fnExactLeast", unfollowed := true, recurses := true, apart := false, narrowed := true }
def FnExactLeastUptoSaid : Prop := fnExactLeastUptoRow.holds Tryz.pinned (OpenSpec.upto fnExactLeastSpec)

/-- 'laws.FnExactBase', WHERE WHAT IT READS IS OF BULK AT MOST 1048576: true; the input reads as it did. -/
def fnExactBaseUptoRow : OpenClaim := { program := "ytiddellnmfckfaagreat", sum := "8a345ace3d924281b49dc5a7a1be9b7b1a254ee9a1f5e58ae9149781d99ce10b", func := "loop.example/g00554/laws.FnExactBase", spec := "fnExactBase", unfollowed := true, recurses := true, apart := false, narrowed := true }
def FnExactBaseUptoSaid : Prop := fnExactBaseUptoRow.holds Tryz.pinned (OpenSpec.upto fnExactBaseSpec)

/-- 'laws.FnExactCount', WHERE WHAT IT READS IS OF BULK AT MOST 1048576: true; the input reads as it did. -/
def fnExactCountUptoRow : OpenClaim := { program := "ytiddellnmfckfaagreat", sum := "8a345ace3d924281b49dc5a7a1be9b7b1a254ee9a1f5e58ae9149781d99ce10b", func := "loop.example/g00554/laws.FnExactCount", spec := "fnExactCount", unfollowed := true, recurses := true, apart := false, narrowed := true }
def FnExactCountUptoSaid : Prop := fnExactCountUptoRow.holds Tryz.pinned (OpenSpec.upto fnExactCountSpec)

/-- 'laws.FnExactAnswers', WHERE WHAT IT READS IS OF BULK AT MOST 1048576: true; the input reads as it did. -/
def fnExactAnswersUptoRow : OpenClaim := { program := "ytiddellnmfckfaagreat", sum := "8a345ace3d924281b49dc5a7a1be9b7b1a254ee9a1f5e58ae9149781d99ce10b", func := "loop.example/g00554/laws.FnExactAnswers", spec := "fnExactAnswers", unfollowed := true, recurses := true, apart := false, narrowed := true }
def FnExactAnswersUptoSaid : Prop := fnExactAnswersUptoRow.holds Tryz.pinned (OpenSpec.upto fnExactAnswersSpec)

end Rows
end Go.Proofs.YtiddellnmfckfaaGreat
