/-
  No cell of these rows narrows 'for every input' (looked for: loops, veiled, ifaces, maps, wideKeys, modest, calm, conditions, laid).
  DERIVED. THE GIVEN ROWS OF THIS SEAT. 10 by the template 'for every input the law returns true; each argument reads behind the call as it read before'; 0 by the template 'total and deterministic' (their statements: YtfjcmnnddhomjaaGreatTotals.lean).
  GIVEN WITH THE SEED: the statements are not yours to turn. If you find one false, say at which input.
  Laid BY PROGRAM, IN A SANDBOX (cutbox-rows.mjs): the forced cells as the released guide's own fill.sh prints them over the translation 14d87da4b444d10e… (all of the seat's roots in one cut). By AI agents, Wed Nov 11 2026. No macro, syntax, notation, axiom, sorry.
-/
import Derived.Test.YtfjcmnnddhomjaaGreatChecked
import GoSem.Claim
import GoSem.ClaimJoined
import GoSem.ClaimMapViews
import Derived.JoinedTies
import Derived.KernelRfl
namespace Go.Proofs.YtfjcmnnddhomjaaGreat
/- THE CELL 'sum', in the pinned program and in every row, IS THE sha256 OF THE DUMP (.gsa) THAT YtfjcmnnddhomjaaGreatProg.lean LOADS. Nothing in Lean hashes anything: it is a label: what it is worth is what the hold of that sum in a sandbox is worth. -/
noncomputable def Tryz.pinned : Pinned := { name := "ytfjcmnnddhomjaagreat", sum := "14d87da4b444d10ea9efdd64712a51722bd592a25bf5b7423d0fc77637b5a62b", checked := Tryz.checked }
namespace Rows
def none {H : Type} : Left H := { results := [], args := [] }

/-- 'laws.FnExactWellFounded': WHATEVER THE INPUT: true; the input reads as it did. -/
def fnExactWellFoundedSpec : ChangeSpec := { name := "fnExactWellFounded", fn := fun _ => fun
  | [d] => { results := [.lit (.bool true)], args := [d] }
  | _ => none }
def fnExactWellFoundedRow : OpenClaim := { program := "ytfjcmnnddhomjaagreat", sum := "14d87da4b444d10ea9efdd64712a51722bd592a25bf5b7423d0fc77637b5a62b", func := "loop.example/g00554/laws.FnExactWellFounded", spec := "fnExactWellFounded", unfollowed := true, recurses := true, apart := false }
def FnExactWellFoundedSaid : Prop := fnExactWellFoundedRow.holds Tryz.pinned (OpenSpec.ofChange fnExactWellFoundedSpec)

/-- ITS FALSE NEIGHBOUR: 'it returns false'. Refute it at one input. -/
def fnExactWellFoundedWrong : ChangeSpec := { name := "fnExactWellFounded", fn := fun _ => fun
  | [d] => { results := [.lit (.bool false)], args := [d] }
  | _ => none }
def FnExactWellFoundedWrongFalsely : Prop := fnExactWellFoundedRow.holds Tryz.pinned (OpenSpec.ofChange fnExactWellFoundedWrong)

/-- 'laws.FnExactSettled': WHATEVER THE INPUT: true; the input reads as it did. -/
def fnExactSettledSpec : ChangeSpec := { name := "fnExactSettled", fn := fun _ => fun
  | [d] => { results := [.lit (.bool true)], args := [d] }
  | _ => none }
def fnExactSettledRow : OpenClaim := { program := "ytfjcmnnddhomjaagreat", sum := "14d87da4b444d10ea9efdd64712a51722bd592a25bf5b7423d0fc77637b5a62b", func := "loop.example/g00554/laws.FnExactSettled", spec := "fnExactSettled", unfollowed := true, recurses := true, apart := false }
def FnExactSettledSaid : Prop := fnExactSettledRow.holds Tryz.pinned (OpenSpec.ofChange fnExactSettledSpec)

/-- ITS FALSE NEIGHBOUR: 'it returns false'. Refute it at one input. -/
def fnExactSettledWrong : ChangeSpec := { name := "fnExactSettled", fn := fun _ => fun
  | [d] => { results := [.lit (.bool false)], args := [d] }
  | _ => none }
def FnExactSettledWrongFalsely : Prop := fnExactSettledRow.holds Tryz.pinned (OpenSpec.ofChange fnExactSettledWrong)

/-- 'laws.FnExactCut': WHATEVER THE INPUT: true; the input reads as it did. -/
def fnExactCutSpec : ChangeSpec := { name := "fnExactCut", fn := fun _ => fun
  | [d] => { results := [.lit (.bool true)], args := [d] }
  | _ => none }
def fnExactCutRow : OpenClaim := { program := "ytfjcmnnddhomjaagreat", sum := "14d87da4b444d10ea9efdd64712a51722bd592a25bf5b7423d0fc77637b5a62b", func := "loop.example/g00554/laws.FnExactCut", spec := "fnExactCut", unfollowed := true, recurses := true, apart := false }
def FnExactCutSaid : Prop := fnExactCutRow.holds Tryz.pinned (OpenSpec.ofChange fnExactCutSpec)

/-- ITS FALSE NEIGHBOUR: 'it returns false'. Refute it at one input. -/
def fnExactCutWrong : ChangeSpec := { name := "fnExactCut", fn := fun _ => fun
  | [d] => { results := [.lit (.bool false)], args := [d] }
  | _ => none }
def FnExactCutWrongFalsely : Prop := fnExactCutRow.holds Tryz.pinned (OpenSpec.ofChange fnExactCutWrong)

/-- 'laws.FnWellFounded': WHATEVER THE INPUT: true; the input reads as it did. -/
def fnWellFoundedSpec : ChangeSpec := { name := "fnWellFounded", fn := fun _ => fun
  | [d] => { results := [.lit (.bool true)], args := [d] }
  | _ => none }
def fnWellFoundedRow : OpenClaim := { program := "ytfjcmnnddhomjaagreat", sum := "14d87da4b444d10ea9efdd64712a51722bd592a25bf5b7423d0fc77637b5a62b", func := "loop.example/g00554/laws.FnWellFounded", spec := "fnWellFounded", unfollowed := true, recurses := true, apart := false }
def FnWellFoundedSaid : Prop := fnWellFoundedRow.holds Tryz.pinned (OpenSpec.ofChange fnWellFoundedSpec)

/-- ITS FALSE NEIGHBOUR: 'it returns false'. Refute it at one input. -/
def fnWellFoundedWrong : ChangeSpec := { name := "fnWellFounded", fn := fun _ => fun
  | [d] => { results := [.lit (.bool false)], args := [d] }
  | _ => none }
def FnWellFoundedWrongFalsely : Prop := fnWellFoundedRow.holds Tryz.pinned (OpenSpec.ofChange fnWellFoundedWrong)

/-- 'laws.FnCutSame': WHATEVER THE INPUT: true; the input reads as it did. -/
def fnCutSameSpec : ChangeSpec := { name := "fnCutSame", fn := fun _ => fun
  | [d] => { results := [.lit (.bool true)], args := [d] }
  | _ => none }
def fnCutSameRow : OpenClaim := { program := "ytfjcmnnddhomjaagreat", sum := "14d87da4b444d10ea9efdd64712a51722bd592a25bf5b7423d0fc77637b5a62b", func := "loop.example/g00554/laws.FnCutSame", spec := "fnCutSame", unfollowed := true, recurses := true, apart := false }
def FnCutSameSaid : Prop := fnCutSameRow.holds Tryz.pinned (OpenSpec.ofChange fnCutSameSpec)

/-- ITS FALSE NEIGHBOUR: 'it returns false'. Refute it at one input. -/
def fnCutSameWrong : ChangeSpec := { name := "fnCutSame", fn := fun _ => fun
  | [d] => { results := [.lit (.bool false)], args := [d] }
  | _ => none }
def FnCutSameWrongFalsely : Prop := fnCutSameRow.holds Tryz.pinned (OpenSpec.ofChange fnCutSameWrong)

/-- 'laws.FnFolded': WHATEVER THE INPUT: true; the input reads as it did. -/
def fnFoldedSpec : ChangeSpec := { name := "fnFolded", fn := fun _ => fun
  | [d] => { results := [.lit (.bool true)], args := [d] }
  | _ => none }
def fnFoldedRow : OpenClaim := { program := "ytfjcmnnddhomjaagreat", sum := "14d87da4b444d10ea9efdd64712a51722bd592a25bf5b7423d0fc77637b5a62b", func := "loop.example/g00554/laws.FnFolded", spec := "fnFolded", unfollowed := true, recurses := true, apart := false }
def FnFoldedSaid : Prop := fnFoldedRow.holds Tryz.pinned (OpenSpec.ofChange fnFoldedSpec)

/-- ITS FALSE NEIGHBOUR: 'it returns false'. Refute it at one input. -/
def fnFoldedWrong : ChangeSpec := { name := "fnFolded", fn := fun _ => fun
  | [d] => { results := [.lit (.bool false)], args := [d] }
  | _ => none }
def FnFoldedWrongFalsely : Prop := fnFoldedRow.holds Tryz.pinned (OpenSpec.ofChange fnFoldedWrong)

/-- 'laws.FnOutsideAtoms': WHATEVER THE INPUT: true; the input reads as it did. -/
def fnOutsideAtomsSpec : ChangeSpec := { name := "fnOutsideAtoms", fn := fun _ => fun
  | [d] => { results := [.lit (.bool true)], args := [d] }
  | _ => none }
def fnOutsideAtomsRow : OpenClaim := { program := "ytfjcmnnddhomjaagreat", sum := "14d87da4b444d10ea9efdd64712a51722bd592a25bf5b7423d0fc77637b5a62b", func := "loop.example/g00554/laws.FnOutsideAtoms", spec := "fnOutsideAtoms", unfollowed := true, recurses := true, apart := false }
def FnOutsideAtomsSaid : Prop := fnOutsideAtomsRow.holds Tryz.pinned (OpenSpec.ofChange fnOutsideAtomsSpec)

/-- ITS FALSE NEIGHBOUR: 'it returns false'. Refute it at one input. -/
def fnOutsideAtomsWrong : ChangeSpec := { name := "fnOutsideAtoms", fn := fun _ => fun
  | [d] => { results := [.lit (.bool false)], args := [d] }
  | _ => none }
def FnOutsideAtomsWrongFalsely : Prop := fnOutsideAtomsRow.holds Tryz.pinned (OpenSpec.ofChange fnOutsideAtomsWrong)

/-- 'laws.FnBothSame': WHATEVER THE INPUT: true; the input reads as it did. -/
def fnBothSameSpec : ChangeSpec := { name := "fnBothSame", fn := fun _ => fun
  | [d1, d2] => { results := [.lit (.bool true)], args := [d1, d2] }
  | _ => none }
def fnBothSameRow : OpenClaim := { program := "ytfjcmnnddhomjaagreat", sum := "14d87da4b444d10ea9efdd64712a51722bd592a25bf5b7423d0fc77637b5a62b", func := "loop.example/g00554/laws.FnBothSame", spec := "fnBothSame", unfollowed := true, recurses := true, apart := false }
def FnBothSameSaid : Prop := fnBothSameRow.holds Tryz.pinned (OpenSpec.ofChange fnBothSameSpec)

/-- ITS FALSE NEIGHBOUR: 'it returns false'. Refute it at one input. -/
def fnBothSameWrong : ChangeSpec := { name := "fnBothSame", fn := fun _ => fun
  | [d1, d2] => { results := [.lit (.bool false)], args := [d1, d2] }
  | _ => none }
def FnBothSameWrongFalsely : Prop := fnBothSameRow.holds Tryz.pinned (OpenSpec.ofChange fnBothSameWrong)

/-- 'laws.FnNothingUnfounded': WHATEVER THE INPUT: true; the input reads as it did. -/
def fnNothingUnfoundedSpec : ChangeSpec := { name := "fnNothingUnfounded", fn := fun _ => fun
  | [d1, d2] => { results := [.lit (.bool true)], args := [d1, d2] }
  | _ => none }
def fnNothingUnfoundedRow : OpenClaim := { program := "ytfjcmnnddhomjaagreat", sum := "14d87da4b444d10ea9efdd64712a51722bd592a25bf5b7423d0fc77637b5a62b", func := "loop.example/g00554/laws.FnNothingUnfounded", spec := "fnNothingUnfounded", unfollowed := true, recurses := true, apart := false }
def FnNothingUnfoundedSaid : Prop := fnNothingUnfoundedRow.holds Tryz.pinned (OpenSpec.ofChange fnNothingUnfoundedSpec)

/-- ITS FALSE NEIGHBOUR: 'it returns false'. Refute it at one input. -/
def fnNothingUnfoundedWrong : ChangeSpec := { name := "fnNothingUnfounded", fn := fun _ => fun
  | [d1, d2] => { results := [.lit (.bool false)], args := [d1, d2] }
  | _ => none }
def FnNothingUnfoundedWrongFalsely : Prop := fnNothingUnfoundedRow.holds Tryz.pinned (OpenSpec.ofChange fnNothingUnfoundedWrong)

/-- 'laws.FnExactEdges': WHATEVER THE INPUT: true; the input reads as it did. -/
def fnExactEdgesSpec : ChangeSpec := { name := "fnExactEdges", fn := fun _ => fun
  | [d] => { results := [.lit (.bool true)], args := [d] }
  | _ => none }
def fnExactEdgesRow : OpenClaim := { program := "ytfjcmnnddhomjaagreat", sum := "14d87da4b444d10ea9efdd64712a51722bd592a25bf5b7423d0fc77637b5a62b", func := "loop.example/g00554/laws.FnExactEdges", spec := "fnExactEdges", unfollowed := true, recurses := true, apart := false }
def FnExactEdgesSaid : Prop := fnExactEdgesRow.holds Tryz.pinned (OpenSpec.ofChange fnExactEdgesSpec)

/-- ITS FALSE NEIGHBOUR: 'it returns false'. Refute it at one input. -/
def fnExactEdgesWrong : ChangeSpec := { name := "fnExactEdges", fn := fun _ => fun
  | [d] => { results := [.lit (.bool false)], args := [d] }
  | _ => none }
def FnExactEdgesWrongFalsely : Prop := fnExactEdgesRow.holds Tryz.pinned (OpenSpec.ofChange fnExactEdgesWrong)

/- THE SECOND FORM. 'bulk': how many values and letters a reading holds, each counted each time it is reached (what is shared counts as often as it is met; a slice's spare places count too). A statement '..UptoSaid' is the law's where the arguments, and the package variables that the reading takes, are together of bulk at most 1048576: NARROWER than '..Said'. Prove '..Said' where nothing that the law and all that it calls make is longer than what came in: it says more and counts as full. Else prove '..UptoSaid'. A law counts once. -/
mutual
def uptoBulk {H : Type} : DataW H → Nat
  | .lit (.string bytes) => bytes.length + 1
  | .lit _ => 1
  | .nil => 1
  | .ptr d => uptoBulk d + 1
  | .slice elems spare => uptoBulkAll elems + uptoBulkAll spare + 1
  | .agg parts => uptoBulkAll parts + 1
  | .iface _ d => uptoBulk d + 1
  | .map entries => uptoBulkEntries entries + 1
  | .held _ => 1
def uptoBulkAll {H : Type} : List (DataW H) → Nat
  | [] => 0
  | d :: r => uptoBulk d + uptoBulkAll r
def uptoBulkEntries {H : Type} : List (Lit × DataW H) → Nat
  | [] => 0
  | x :: r => uptoBulkEntry x + uptoBulkEntries r
def uptoBulkEntry {H : Type} : Lit × DataW H → Nat
  | (.string bytes, d) => bytes.length + uptoBulk d + 1
  | (_, d) => uptoBulk d + 1
 end
def uptoSmall : (H : Type) → List (DataW H) → Bool := fun _ ds => decide (uptoBulkAll ds ≤ 1048576)
def OpenSpec.upto (s : _root_.Go.ChangeSpec) : _root_.Go.OpenSpec := { _root_.Go.OpenSpec.ofChange s with cond := some uptoSmall }

/-- 'laws.FnExactWellFounded', WHERE WHAT IT READS IS OF BULK AT MOST 1048576: true; the input reads as it did. -/
def fnExactWellFoundedUptoRow : OpenClaim := { program := "ytfjcmnnddhomjaagreat", sum := "14d87da4b444d10ea9efdd64712a51722bd592a25bf5b7423d0fc77637b5a62b", func := "loop.example/g00554/laws.FnExactWellFounded", spec := "fnExactWellFounded", unfollowed := true, recurses := true, apart := false, narrowed := true }
def FnExactWellFoundedUptoSaid : Prop := fnExactWellFoundedUptoRow.holds Tryz.pinned (OpenSpec.upto fnExactWellFoundedSpec)

/-- 'laws.FnExactSettled', WHERE WHAT IT READS IS OF BULK AT MOST 1048576: true; the input reads as it did. -/
def fnExactSettledUptoRow : OpenClaim := { program := "ytfjcmnnddhomjaagreat", sum := "14d87da4b444d10ea9efdd64712a51722bd592a25bf5b7423d0fc77637b5a62b", func := "loop.example/g00554/laws.FnExactSettled", spec := "fnExactSettled", unfollowed := true, recurses := true, apart := false, narrowed := true }
def FnExactSettledUptoSaid : Prop := fnExactSettledUptoRow.holds Tryz.pinned (OpenSpec.upto fnExactSettledSpec)

/-- 'laws.FnExactCut', WHERE WHAT IT READS IS OF BULK AT MOST 1048576: true; the input reads as it did. -/
def fnExactCutUptoRow : OpenClaim := { program := "ytfjcmnnddhomjaagreat", sum := "14d87da4b444d10ea9efdd64712a51722bd592a25bf5b7423d0fc77637b5a62b", func := "loop.example/g00554/laws.FnExactCut", spec := "fnExactCut", unfollowed := true, recurses := true, apart := false, narrowed := true }
def FnExactCutUptoSaid : Prop := fnExactCutUptoRow.holds Tryz.pinned (OpenSpec.upto fnExactCutSpec)

/-- 'laws.FnWellFounded', WHERE WHAT IT READS IS OF BULK AT MOST 1048576: true; the input reads as it did. -/
def fnWellFoundedUptoRow : OpenClaim := { program := "ytfjcmnnddhomjaagreat", sum := "14d87da4b444d10ea9efdd64712a51722bd592a25bf5b7423d0fc77637b5a62b", func := "loop.example/g00554/laws.FnWellFounded", spec := "fnWellFounded", unfollowed := true, recurses := true, apart := false, narrowed := true }
def FnWellFoundedUptoSaid : Prop := fnWellFoundedUptoRow.holds Tryz.pinned (OpenSpec.upto fnWellFoundedSpec)

/-- 'laws.FnCutSame', WHERE WHAT IT READS IS OF BULK AT MOST 1048576: true; the input reads as it did. -/
def fnCutSameUptoRow : OpenClaim := { program := "ytfjcmnnddhomjaagreat", sum := "14d87da4b444d10ea9efdd64712a51722bd592a25bf5b7423d0fc77637b5a62b", func := "loop.example/g00554/laws.FnCutSame", spec := "fnCutSame", unfollowed := true, recurses := true, apart := false, narrowed := true }
def FnCutSameUptoSaid : Prop := fnCutSameUptoRow.holds Tryz.pinned (OpenSpec.upto fnCutSameSpec)

/-- 'laws.FnFolded', WHERE WHAT IT READS IS OF BULK AT MOST 1048576: true; the input reads as it did. -/
def fnFoldedUptoRow : OpenClaim := { program := "ytfjcmnnddhomjaagreat", sum := "14d87da4b444d10ea9efdd64712a51722bd592a25bf5b7423d0fc77637b5a62b", func := "loop.example/g00554/laws.FnFolded", spec := "fnFolded", unfollowed := true, recurses := true, apart := false, narrowed := true }
def FnFoldedUptoSaid : Prop := fnFoldedUptoRow.holds Tryz.pinned (OpenSpec.upto fnFoldedSpec)

/-- 'laws.FnOutsideAtoms', WHERE WHAT IT READS IS OF BULK AT MOST 1048576: true; the input reads as it did. -/
def fnOutsideAtomsUptoRow : OpenClaim := { program := "ytfjcmnnddhomjaagreat", sum := "14d87da4b444d10ea9efdd64712a51722bd592a25bf5b7423d0fc77637b5a62b", func := "loop.example/g00554/laws.FnOutsideAtoms", spec := "fnOutsideAtoms", unfollowed := true, recurses := true, apart := false, narrowed := true }
def FnOutsideAtomsUptoSaid : Prop := fnOutsideAtomsUptoRow.holds Tryz.pinned (OpenSpec.upto fnOutsideAtomsSpec)

/-- 'laws.FnBothSame', WHERE WHAT IT READS IS OF BULK AT MOST 1048576: true; the input reads as it did. -/
def fnBothSameUptoRow : OpenClaim := { program := "ytfjcmnnddhomjaagreat", sum := "14d87da4b444d10ea9efdd64712a51722bd592a25bf5b7423d0fc77637b5a62b", func := "loop.example/g00554/laws.FnBothSame", spec := "fnBothSame", unfollowed := true, recurses := true, apart := false, narrowed := true }
def FnBothSameUptoSaid : Prop := fnBothSameUptoRow.holds Tryz.pinned (OpenSpec.upto fnBothSameSpec)

/-- 'laws.FnNothingUnfounded', WHERE WHAT IT READS IS OF BULK AT MOST 1048576: true; the input reads as it did. -/
def fnNothingUnfoundedUptoRow : OpenClaim := { program := "ytfjcmnnddhomjaagreat", sum := "14d87da4b444d10ea9efdd64712a51722bd592a25bf5b7423d0fc77637b5a62b", func := "loop.example/g00554/laws.FnNothingUnfounded", spec := "fnNothingUnfounded", unfollowed := true, recurses := true, apart := false, narrowed := true }
def FnNothingUnfoundedUptoSaid : Prop := fnNothingUnfoundedUptoRow.holds Tryz.pinned (OpenSpec.upto fnNothingUnfoundedSpec)

/-- 'laws.FnExactEdges', WHERE WHAT IT READS IS OF BULK AT MOST 1048576: true; the input reads as it did. -/
def fnExactEdgesUptoRow : OpenClaim := { program := "ytfjcmnnddhomjaagreat", sum := "14d87da4b444d10ea9efdd64712a51722bd592a25bf5b7423d0fc77637b5a62b", func := "loop.example/g00554/laws.FnExactEdges", spec := "fnExactEdges", unfollowed := true, recurses := true, apart := false, narrowed := true }
def FnExactEdgesUptoSaid : Prop := fnExactEdgesUptoRow.holds Tryz.pinned (OpenSpec.upto fnExactEdgesSpec)

end Rows
end Go.Proofs.YtfjcmnnddhomjaaGreat
