/-
  No cell of these rows narrows 'for every input' (looked for: loops, veiled, ifaces, maps, wideKeys, modest, calm, conditions, laid).
  DERIVED. THE GIVEN ROWS OF THIS SEAT. 10 by the template 'for every input the law returns true; each argument reads behind the call as it read before'; 0 by the template 'total and deterministic' (their statements: YthfbnalgnnjbbaaGreatTotals.lean).
  GIVEN WITH THE SEED: the statements are not yours to turn. If you find one false, say at which input.
  Laid BY PROGRAM, IN A SANDBOX (cutbox-rows.mjs): the forced cells as the released guide's own fill.sh prints them over the translation 1043b2f81b9dbde4… (all of the seat's roots in one cut). By AI agents, Wed Nov 11 2026. No macro, syntax, notation, axiom, sorry.
-/
import Derived.Test.YthfbnalgnnjbbaaGreatChecked
import GoSem.Claim
import GoSem.ClaimJoined
import GoSem.ClaimMapViews
import Derived.JoinedTies
import Derived.KernelRfl
namespace Go.Proofs.YthfbnalgnnjbbaaGreat
/- THE CELL 'sum', in the pinned program and in every row, IS THE sha256 OF THE DUMP (.gsa) THAT YthfbnalgnnjbbaaGreatProg.lean LOADS. Nothing in Lean hashes anything: it is a label: what it is worth is what the hold of that sum in a sandbox is worth. -/
noncomputable def Tryz.pinned : Pinned := { name := "ythfbnalgnnjbbaagreat", sum := "1043b2f81b9dbde47ad015f6f65426a1c4c3c6c5b4f5f734e198fa37e88bad64", checked := Tryz.checked }
namespace Rows
def none {H : Type} : Left H := { results := [], args := [] }

/-- 'laws.FnNothingUnfounded': WHATEVER THE INPUT: true; the input reads as it did. -/
def fnNothingUnfoundedSpec : ChangeSpec := { name := "fnNothingUnfounded", fn := fun _ => fun
  | [d1, d2] => { results := [.lit (.bool true)], args := [d1, d2] }
  | _ => none }
def fnNothingUnfoundedRow : OpenClaim := { program := "ythfbnalgnnjbbaagreat", sum := "1043b2f81b9dbde47ad015f6f65426a1c4c3c6c5b4f5f734e198fa37e88bad64", func := "loop.example/g00554/laws.FnNothingUnfounded", spec := "fnNothingUnfounded", unfollowed := true, recurses := true, apart := false }
def FnNothingUnfoundedSaid : Prop := fnNothingUnfoundedRow.holds Tryz.pinned (OpenSpec.ofChange fnNothingUnfoundedSpec)

/-- ITS FALSE NEIGHBOUR: 'it returns false'. Refute it at one input. -/
def fnNothingUnfoundedWrong : ChangeSpec := { name := "fnNothingUnfounded", fn := fun _ => fun
  | [d1, d2] => { results := [.lit (.bool false)], args := [d1, d2] }
  | _ => none }
def FnNothingUnfoundedWrongFalsely : Prop := fnNothingUnfoundedRow.holds Tryz.pinned (OpenSpec.ofChange fnNothingUnfoundedWrong)

/-- 'laws.FnAnyReasons': WHATEVER THE INPUT: true; the input reads as it did. -/
def fnAnyReasonsSpec : ChangeSpec := { name := "fnAnyReasons", fn := fun _ => fun
  | [d] => { results := [.lit (.bool true)], args := [d] }
  | _ => none }
def fnAnyReasonsRow : OpenClaim := { program := "ythfbnalgnnjbbaagreat", sum := "1043b2f81b9dbde47ad015f6f65426a1c4c3c6c5b4f5f734e198fa37e88bad64", func := "loop.example/g00554/laws.FnAnyReasons", spec := "fnAnyReasons", unfollowed := true, recurses := true, apart := false }
def FnAnyReasonsSaid : Prop := fnAnyReasonsRow.holds Tryz.pinned (OpenSpec.ofChange fnAnyReasonsSpec)

/-- ITS FALSE NEIGHBOUR: 'it returns false'. Refute it at one input. -/
def fnAnyReasonsWrong : ChangeSpec := { name := "fnAnyReasons", fn := fun _ => fun
  | [d] => { results := [.lit (.bool false)], args := [d] }
  | _ => none }
def FnAnyReasonsWrongFalsely : Prop := fnAnyReasonsRow.holds Tryz.pinned (OpenSpec.ofChange fnAnyReasonsWrong)

/-- 'laws.FnAgainst': WHATEVER THE INPUT: true; the input reads as it did. -/
def fnAgainstSpec : ChangeSpec := { name := "fnAgainst", fn := fun _ => fun
  | [d] => { results := [.lit (.bool true)], args := [d] }
  | _ => none }
def fnAgainstRow : OpenClaim := { program := "ythfbnalgnnjbbaagreat", sum := "1043b2f81b9dbde47ad015f6f65426a1c4c3c6c5b4f5f734e198fa37e88bad64", func := "loop.example/g00554/laws.FnAgainst", spec := "fnAgainst", unfollowed := true, recurses := true, apart := false }
def FnAgainstSaid : Prop := fnAgainstRow.holds Tryz.pinned (OpenSpec.ofChange fnAgainstSpec)

/-- ITS FALSE NEIGHBOUR: 'it returns false'. Refute it at one input. -/
def fnAgainstWrong : ChangeSpec := { name := "fnAgainst", fn := fun _ => fun
  | [d] => { results := [.lit (.bool false)], args := [d] }
  | _ => none }
def FnAgainstWrongFalsely : Prop := fnAgainstRow.holds Tryz.pinned (OpenSpec.ofChange fnAgainstWrong)

/-- 'laws.FnBothSame': WHATEVER THE INPUT: true; the input reads as it did. -/
def fnBothSameSpec : ChangeSpec := { name := "fnBothSame", fn := fun _ => fun
  | [d1, d2] => { results := [.lit (.bool true)], args := [d1, d2] }
  | _ => none }
def fnBothSameRow : OpenClaim := { program := "ythfbnalgnnjbbaagreat", sum := "1043b2f81b9dbde47ad015f6f65426a1c4c3c6c5b4f5f734e198fa37e88bad64", func := "loop.example/g00554/laws.FnBothSame", spec := "fnBothSame", unfollowed := true, recurses := true, apart := false }
def FnBothSameSaid : Prop := fnBothSameRow.holds Tryz.pinned (OpenSpec.ofChange fnBothSameSpec)

/-- ITS FALSE NEIGHBOUR: 'it returns false'. Refute it at one input. -/
def fnBothSameWrong : ChangeSpec := { name := "fnBothSame", fn := fun _ => fun
  | [d1, d2] => { results := [.lit (.bool false)], args := [d1, d2] }
  | _ => none }
def FnBothSameWrongFalsely : Prop := fnBothSameRow.holds Tryz.pinned (OpenSpec.ofChange fnBothSameWrong)

/-- 'laws.FnOutsideAtoms': WHATEVER THE INPUT: true; the input reads as it did. -/
def fnOutsideAtomsSpec : ChangeSpec := { name := "fnOutsideAtoms", fn := fun _ => fun
  | [d] => { results := [.lit (.bool true)], args := [d] }
  | _ => none }
def fnOutsideAtomsRow : OpenClaim := { program := "ythfbnalgnnjbbaagreat", sum := "1043b2f81b9dbde47ad015f6f65426a1c4c3c6c5b4f5f734e198fa37e88bad64", func := "loop.example/g00554/laws.FnOutsideAtoms", spec := "fnOutsideAtoms", unfollowed := true, recurses := true, apart := false }
def FnOutsideAtomsSaid : Prop := fnOutsideAtomsRow.holds Tryz.pinned (OpenSpec.ofChange fnOutsideAtomsSpec)

/-- ITS FALSE NEIGHBOUR: 'it returns false'. Refute it at one input. -/
def fnOutsideAtomsWrong : ChangeSpec := { name := "fnOutsideAtoms", fn := fun _ => fun
  | [d] => { results := [.lit (.bool false)], args := [d] }
  | _ => none }
def FnOutsideAtomsWrongFalsely : Prop := fnOutsideAtomsRow.holds Tryz.pinned (OpenSpec.ofChange fnOutsideAtomsWrong)

/-- 'laws.FnWellFounded': WHATEVER THE INPUT: true; the input reads as it did. -/
def fnWellFoundedSpec : ChangeSpec := { name := "fnWellFounded", fn := fun _ => fun
  | [d] => { results := [.lit (.bool true)], args := [d] }
  | _ => none }
def fnWellFoundedRow : OpenClaim := { program := "ythfbnalgnnjbbaagreat", sum := "1043b2f81b9dbde47ad015f6f65426a1c4c3c6c5b4f5f734e198fa37e88bad64", func := "loop.example/g00554/laws.FnWellFounded", spec := "fnWellFounded", unfollowed := true, recurses := true, apart := false }
def FnWellFoundedSaid : Prop := fnWellFoundedRow.holds Tryz.pinned (OpenSpec.ofChange fnWellFoundedSpec)

/-- ITS FALSE NEIGHBOUR: 'it returns false'. Refute it at one input. -/
def fnWellFoundedWrong : ChangeSpec := { name := "fnWellFounded", fn := fun _ => fun
  | [d] => { results := [.lit (.bool false)], args := [d] }
  | _ => none }
def FnWellFoundedWrongFalsely : Prop := fnWellFoundedRow.holds Tryz.pinned (OpenSpec.ofChange fnWellFoundedWrong)

/-- 'laws.FnCutSame': WHATEVER THE INPUT: true; the input reads as it did. -/
def fnCutSameSpec : ChangeSpec := { name := "fnCutSame", fn := fun _ => fun
  | [d] => { results := [.lit (.bool true)], args := [d] }
  | _ => none }
def fnCutSameRow : OpenClaim := { program := "ythfbnalgnnjbbaagreat", sum := "1043b2f81b9dbde47ad015f6f65426a1c4c3c6c5b4f5f734e198fa37e88bad64", func := "loop.example/g00554/laws.FnCutSame", spec := "fnCutSame", unfollowed := true, recurses := true, apart := false }
def FnCutSameSaid : Prop := fnCutSameRow.holds Tryz.pinned (OpenSpec.ofChange fnCutSameSpec)

/-- ITS FALSE NEIGHBOUR: 'it returns false'. Refute it at one input. -/
def fnCutSameWrong : ChangeSpec := { name := "fnCutSame", fn := fun _ => fun
  | [d] => { results := [.lit (.bool false)], args := [d] }
  | _ => none }
def FnCutSameWrongFalsely : Prop := fnCutSameRow.holds Tryz.pinned (OpenSpec.ofChange fnCutSameWrong)

/-- 'laws.FnExactUnWeight': WHATEVER THE INPUT: true; the input reads as it did. -/
def fnExactUnWeightSpec : ChangeSpec := { name := "fnExactUnWeight", fn := fun _ => fun
  | [d] => { results := [.lit (.bool true)], args := [d] }
  | _ => none }
def fnExactUnWeightRow : OpenClaim := { program := "ythfbnalgnnjbbaagreat", sum := "1043b2f81b9dbde47ad015f6f65426a1c4c3c6c5b4f5f734e198fa37e88bad64", func := "loop.example/g00554/laws.FnExactUnWeight", spec := "fnExactUnWeight", unfollowed := true, recurses := true, apart := false }
def FnExactUnWeightSaid : Prop := fnExactUnWeightRow.holds Tryz.pinned (OpenSpec.ofChange fnExactUnWeightSpec)

/-- ITS FALSE NEIGHBOUR: 'it returns false'. Refute it at one input. -/
def fnExactUnWeightWrong : ChangeSpec := { name := "fnExactUnWeight", fn := fun _ => fun
  | [d] => { results := [.lit (.bool false)], args := [d] }
  | _ => none }
def FnExactUnWeightWrongFalsely : Prop := fnExactUnWeightRow.holds Tryz.pinned (OpenSpec.ofChange fnExactUnWeightWrong)

/-- 'laws.FnCovered': WHATEVER THE INPUT: true; the input reads as it did. -/
def fnCoveredSpec : ChangeSpec := { name := "fnCovered", fn := fun _ => fun
  | [d1, d2] => { results := [.lit (.bool true)], args := [d1, d2] }
  | _ => none }
def fnCoveredRow : OpenClaim := { program := "ythfbnalgnnjbbaagreat", sum := "1043b2f81b9dbde47ad015f6f65426a1c4c3c6c5b4f5f734e198fa37e88bad64", func := "loop.example/g00554/laws.FnCovered", spec := "fnCovered", unfollowed := true, recurses := true, apart := false }
def FnCoveredSaid : Prop := fnCoveredRow.holds Tryz.pinned (OpenSpec.ofChange fnCoveredSpec)

/-- ITS FALSE NEIGHBOUR: 'it returns false'. Refute it at one input. -/
def fnCoveredWrong : ChangeSpec := { name := "fnCovered", fn := fun _ => fun
  | [d1, d2] => { results := [.lit (.bool false)], args := [d1, d2] }
  | _ => none }
def FnCoveredWrongFalsely : Prop := fnCoveredRow.holds Tryz.pinned (OpenSpec.ofChange fnCoveredWrong)

/-- 'laws.FnUnWeight': WHATEVER THE INPUT: true; the input reads as it did. -/
def fnUnWeightSpec : ChangeSpec := { name := "fnUnWeight", fn := fun _ => fun
  | [d] => { results := [.lit (.bool true)], args := [d] }
  | _ => none }
def fnUnWeightRow : OpenClaim := { program := "ythfbnalgnnjbbaagreat", sum := "1043b2f81b9dbde47ad015f6f65426a1c4c3c6c5b4f5f734e198fa37e88bad64", func := "loop.example/g00554/laws.FnUnWeight", spec := "fnUnWeight", unfollowed := true, recurses := true, apart := false }
def FnUnWeightSaid : Prop := fnUnWeightRow.holds Tryz.pinned (OpenSpec.ofChange fnUnWeightSpec)

/-- ITS FALSE NEIGHBOUR: 'it returns false'. Refute it at one input. -/
def fnUnWeightWrong : ChangeSpec := { name := "fnUnWeight", fn := fun _ => fun
  | [d] => { results := [.lit (.bool false)], args := [d] }
  | _ => none }
def FnUnWeightWrongFalsely : Prop := fnUnWeightRow.holds Tryz.pinned (OpenSpec.ofChange fnUnWeightWrong)

/- THE SECOND FORM. 'bulk': how many values and letters a reading holds, each counted each time it is reached (what is shared counts as often as it is met; a slice's spare places count too). A statement '..UptoSaid' is the law's where the arguments, and the package variables that the reading takes, are together of bulk at most 1048576: NARROWER than '..Said'. Prove '..Said' where nothing that the law and all that it calls make is longer than what came in: it says more and counts as full. Else prove '..UptoSaid'. A law counts once. -/
mutual
def uptoBulk {H : Type} : DataW H → Nat
  | .lit (.string bytes) => bytes.length + 1
  | .lit _ => 1
  | .nil => 1
  | .ptr d => uptoBulk d + 1
  | .slice elems spare => uptoBulkAll elems + uptoBulkAll spare + 1
  | .agg parts => uptoBulkAll parts + 1
  | .iface _ d => uptoBulk d + 1
  | .map entries => uptoBulkEntries entries + 1
  | .held _ => 1
def uptoBulkAll {H : Type} : List (DataW H) → Nat
  | [] => 0
  | d :: r => uptoBulk d + uptoBulkAll r
def uptoBulkEntries {H : Type} : List (Lit × DataW H) → Nat
  | [] => 0
  | x :: r => uptoBulkEntry x + uptoBulkEntries r
def uptoBulkEntry {H : Type} : Lit × DataW H → Nat
  | (.string bytes, d) => bytes.length + uptoBulk d + 1
  | (_, d) => uptoBulk d + 1
 end
def uptoSmall : (H : Type) → List (DataW H) → Bool := fun _ ds => decide (uptoBulkAll ds ≤ 1048576)
def OpenSpec.upto (s : _root_.Go.ChangeSpec) : _root_.Go.OpenSpec := { _root_.Go.OpenSpec.ofChange s with cond := some uptoSmall }

/-- 'laws.FnNothingUnfounded', WHERE WHAT IT READS IS OF BULK AT MOST 1048576: true; the input reads as it did. -/
def fnNothingUnfoundedUptoRow : OpenClaim := { program := "ythfbnalgnnjbbaagreat", sum := "1043b2f81b9dbde47ad015f6f65426a1c4c3c6c5b4f5f734e198fa37e88bad64", func := "loop.example/g00554/laws.FnNothingUnfounded", spec := "fnNothingUnfounded", unfollowed := true, recurses := true, apart := false, narrowed := true }
def FnNothingUnfoundedUptoSaid : Prop := fnNothingUnfoundedUptoRow.holds Tryz.pinned (OpenSpec.upto fnNothingUnfoundedSpec)

/-- 'laws.FnAnyReasons', WHERE WHAT IT READS IS OF BULK AT MOST 1048576: true; the input reads as it did. -/
def fnAnyReasonsUptoRow : OpenClaim := { program := "ythfbnalgnnjbbaagreat", sum := "1043b2f81b9dbde47ad015f6f65426a1c4c3c6c5b4f5f734e198fa37e88bad64", func := "loop.example/g00554/laws.FnAnyReasons", spec := "fnAnyReasons", unfollowed := true, recurses := true, apart := false, narrowed := true }
def FnAnyReasonsUptoSaid : Prop := fnAnyReasonsUptoRow.holds Tryz.pinned (OpenSpec.upto fnAnyReasonsSpec)

/-- 'laws.FnAgainst', WHERE WHAT IT READS IS OF BULK AT MOST 1048576: true; the input reads as it did. -/
def fnAgainstUptoRow : OpenClaim := { program := "ythfbnalgnnjbbaagreat", sum := "1043b2f81b9dbde47ad015f6f65426a1c4c3c6c5b4f5f734e198fa37e88bad64", func := "loop.example/g00554/laws.FnAgainst", spec := "fnAgainst", unfollowed := true, recurses := true, apart := false, narrowed := true }
def FnAgainstUptoSaid : Prop := fnAgainstUptoRow.holds Tryz.pinned (OpenSpec.upto fnAgainstSpec)

/-- 'laws.FnBothSame', WHERE WHAT IT READS IS OF BULK AT MOST 1048576: true; the input reads as it did. -/
def fnBothSameUptoRow : OpenClaim := { program := "ythfbnalgnnjbbaagreat", sum := "1043b2f81b9dbde47ad015f6f65426a1c4c3c6c5b4f5f734e198fa37e88bad64", func := "loop.example/g00554/laws.FnBothSame", spec := "fnBothSame", unfollowed := true, recurses := true, apart := false, narrowed := true }
def FnBothSameUptoSaid : Prop := fnBothSameUptoRow.holds Tryz.pinned (OpenSpec.upto fnBothSameSpec)

/-- 'laws.FnOutsideAtoms', WHERE WHAT IT READS IS OF BULK AT MOST 1048576: true; the input reads as it did. -/
def fnOutsideAtomsUptoRow : OpenClaim := { program := "ythfbnalgnnjbbaagreat", sum := "1043b2f81b9dbde47ad015f6f65426a1c4c3c6c5b4f5f734e198fa37e88bad64", func := "loop.example/g00554/laws.FnOutsideAtoms", spec := "fnOutsideAtoms", unfollowed := true, recurses := true, apart := false, narrowed := true }
def FnOutsideAtomsUptoSaid : Prop := fnOutsideAtomsUptoRow.holds Tryz.pinned (OpenSpec.upto fnOutsideAtomsSpec)

/-- 'laws.FnWellFounded', WHERE WHAT IT READS IS OF BULK AT MOST 1048576: true; the input reads as it did. -/
def fnWellFoundedUptoRow : OpenClaim := { program := "ythfbnalgnnjbbaagreat", sum := "1043b2f81b9dbde47ad015f6f65426a1c4c3c6c5b4f5f734e198fa37e88bad64", func := "loop.example/g00554/laws.FnWellFounded", spec := "fnWellFounded", unfollowed := true, recurses := true, apart := false, narrowed := true }
def FnWellFoundedUptoSaid : Prop := fnWellFoundedUptoRow.holds Tryz.pinned (OpenSpec.upto fnWellFoundedSpec)

/-- 'laws.FnCutSame', WHERE WHAT IT READS IS OF BULK AT MOST 1048576: true; the input reads as it did. -/
def fnCutSameUptoRow : OpenClaim := { program := "ythfbnalgnnjbbaagreat", sum := "1043b2f81b9dbde47ad015f6f65426a1c4c3c6c5b4f5f734e198fa37e88bad64", func := "loop.example/g00554/laws.FnCutSame", spec := "fnCutSame", unfollowed := true, recurses := true, apart := false, narrowed := true }
def FnCutSameUptoSaid : Prop := fnCutSameUptoRow.holds Tryz.pinned (OpenSpec.upto fnCutSameSpec)

/-- 'laws.FnExactUnWeight', WHERE WHAT IT READS IS OF BULK AT MOST 1048576: true; the input reads as it did. -/
def fnExactUnWeightUptoRow : OpenClaim := { program := "ythfbnalgnnjbbaagreat", sum := "1043b2f81b9dbde47ad015f6f65426a1c4c3c6c5b4f5f734e198fa37e88bad64", func := "loop.example/g00554/laws.FnExactUnWeight", spec := "fnExactUnWeight", unfollowed := true, recurses := true, apart := false, narrowed := true }
def FnExactUnWeightUptoSaid : Prop := fnExactUnWeightUptoRow.holds Tryz.pinned (OpenSpec.upto fnExactUnWeightSpec)

/-- 'laws.FnCovered', WHERE WHAT IT READS IS OF BULK AT MOST 1048576: true; the input reads as it did. -/
def fnCoveredUptoRow : OpenClaim := { program := "ythfbnalgnnjbbaagreat", sum := "1043b2f81b9dbde47ad015f6f65426a1c4c3c6c5b4f5f734e198fa37e88bad64", func := "loop.example/g00554/laws.FnCovered", spec := "fnCovered", unfollowed := true, recurses := true, apart := false, narrowed := true }
def FnCoveredUptoSaid : Prop := fnCoveredUptoRow.holds Tryz.pinned (OpenSpec.upto fnCoveredSpec)

/-- 'laws.FnUnWeight', WHERE WHAT IT READS IS OF BULK AT MOST 1048576: true; the input reads as it did. -/
def fnUnWeightUptoRow : OpenClaim := { program := "ythfbnalgnnjbbaagreat", sum := "1043b2f81b9dbde47ad015f6f65426a1c4c3c6c5b4f5f734e198fa37e88bad64", func := "loop.example/g00554/laws.FnUnWeight", spec := "fnUnWeight", unfollowed := true, recurses := true, apart := false, narrowed := true }
def FnUnWeightUptoSaid : Prop := fnUnWeightUptoRow.holds Tryz.pinned (OpenSpec.upto fnUnWeightSpec)

end Rows
end Go.Proofs.YthfbnalgnnjbbaaGreat
