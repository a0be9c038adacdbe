/-
  No cell of these rows narrows 'for every input' (looked for: loops, veiled, ifaces, maps, wideKeys, modest, calm, conditions, laid).
  DERIVED. THE GIVEN ROWS OF THIS SEAT. 3 by the template 'for every input the law returns true; each argument reads behind the call as it read before'; 0 by the template 'total and deterministic' (their statements: YtnapbjifbppndaaTotals.lean).
  GIVEN WITH THE SEED: the statements are not yours to turn. If you find one false, say at which input.
  Laid BY PROGRAM, IN A SANDBOX (cutbox-rows.mjs): the forced cells as the released guide's own fill.sh prints them over the translation 0b6997d88706106c… (all of the seat's roots in one cut). By AI agents, Wed Nov 11 2026. No macro, syntax, notation, axiom, sorry.
-/
import Derived.Test.YtnapbjifbppndaaChecked
import GoSem.Claim
import GoSem.ClaimJoined
import GoSem.ClaimMapViews
import Derived.JoinedTies
import Derived.KernelRfl
namespace Go.Proofs.Ytnapbjifbppndaa
/- THE CELL 'sum', in the pinned program and in every row, IS THE sha256 OF THE DUMP (.gsa) THAT YtnapbjifbppndaaProg.lean LOADS. Nothing in Lean hashes anything: it is a label: what it is worth is what the hold of that sum in a sandbox is worth. -/
noncomputable def Try.pinned : Pinned := { name := "ytnapbjifbppndaa", sum := "0b6997d88706106c06bffddc7cd984f6274543669115763abb964f1de94e6727", checked := Try.checked }
namespace Rows
def none {H : Type} : Left H := { results := [], args := [] }

/-- 'laws.FnExactCheaper': WHATEVER THE INPUT: true; the input reads as it did. -/
def fnExactCheaperSpec : ChangeSpec := { name := "fnExactCheaper", fn := fun _ => fun
  | [d1, d2] => { results := [.lit (.bool true)], args := [d1, d2] }
  | _ => none }
def fnExactCheaperRow : OpenClaim := { program := "ytnapbjifbppndaa", sum := "0b6997d88706106c06bffddc7cd984f6274543669115763abb964f1de94e6727", func := "loop.example/g00554/laws.FnExactCheaper", spec := "fnExactCheaper", apart := false }
def FnExactCheaperSaid : Prop := fnExactCheaperRow.holds Try.pinned (OpenSpec.ofChange fnExactCheaperSpec)

/-- ITS FALSE NEIGHBOUR: 'it returns false'. Refute it at one input. -/
def fnExactCheaperWrong : ChangeSpec := { name := "fnExactCheaper", fn := fun _ => fun
  | [d1, d2] => { results := [.lit (.bool false)], args := [d1, d2] }
  | _ => none }
def FnExactCheaperWrongFalsely : Prop := fnExactCheaperRow.holds Try.pinned (OpenSpec.ofChange fnExactCheaperWrong)

/-- 'laws.FnExactCostsOf': WHATEVER THE INPUT: true; the input reads as it did. -/
def fnExactCostsOfSpec : ChangeSpec := { name := "fnExactCostsOf", fn := fun _ => fun
  | [d1, d2] => { results := [.lit (.bool true)], args := [d1, d2] }
  | _ => none }
def fnExactCostsOfRow : OpenClaim := { program := "ytnapbjifbppndaa", sum := "0b6997d88706106c06bffddc7cd984f6274543669115763abb964f1de94e6727", func := "loop.example/g00554/laws.FnExactCostsOf", spec := "fnExactCostsOf", unfollowed := true, recurses := true, apart := false }
def FnExactCostsOfSaid : Prop := fnExactCostsOfRow.holds Try.pinned (OpenSpec.ofChange fnExactCostsOfSpec)

/-- ITS FALSE NEIGHBOUR: 'it returns false'. Refute it at one input. -/
def fnExactCostsOfWrong : ChangeSpec := { name := "fnExactCostsOf", fn := fun _ => fun
  | [d1, d2] => { results := [.lit (.bool false)], args := [d1, d2] }
  | _ => none }
def FnExactCostsOfWrongFalsely : Prop := fnExactCostsOfRow.holds Try.pinned (OpenSpec.ofChange fnExactCostsOfWrong)

/-- 'laws.FnShown': WHATEVER THE INPUT: true; the input reads as it did. -/
def fnShownSpec : ChangeSpec := { name := "fnShown", fn := fun _ => fun
  | [d] => { results := [.lit (.bool true)], args := [d] }
  | _ => none }
def fnShownRow : OpenClaim := { program := "ytnapbjifbppndaa", sum := "0b6997d88706106c06bffddc7cd984f6274543669115763abb964f1de94e6727", func := "loop.example/g00554/laws.FnShown", spec := "fnShown", apart := false }
def FnShownSaid : Prop := fnShownRow.holds Try.pinned (OpenSpec.ofChange fnShownSpec)

/-- ITS FALSE NEIGHBOUR: 'it returns false'. Refute it at one input. -/
def fnShownWrong : ChangeSpec := { name := "fnShown", fn := fun _ => fun
  | [d] => { results := [.lit (.bool false)], args := [d] }
  | _ => none }
def FnShownWrongFalsely : Prop := fnShownRow.holds Try.pinned (OpenSpec.ofChange fnShownWrong)

/- THE SECOND FORM. 'bulk': how many values and letters a reading holds, each counted each time it is reached (what is shared counts as often as it is met; a slice's spare places count too). A statement '..UptoSaid' is the law's where the arguments, and the package variables that the reading takes, are together of bulk at most 1048576: NARROWER than '..Said'. Prove '..Said' where nothing that the law and all that it calls make is longer than what came in: it says more and counts as full. Else prove '..UptoSaid'. A law counts once. -/
mutual
def uptoBulk {H : Type} : DataW H → Nat
  | .lit (.string bytes) => bytes.length + 1
  | .lit _ => 1
  | .nil => 1
  | .ptr d => uptoBulk d + 1
  | .slice elems spare => uptoBulkAll elems + uptoBulkAll spare + 1
  | .agg parts => uptoBulkAll parts + 1
  | .iface _ d => uptoBulk d + 1
  | .map entries => uptoBulkEntries entries + 1
  | .held _ => 1
def uptoBulkAll {H : Type} : List (DataW H) → Nat
  | [] => 0
  | d :: r => uptoBulk d + uptoBulkAll r
def uptoBulkEntries {H : Type} : List (Lit × DataW H) → Nat
  | [] => 0
  | x :: r => uptoBulkEntry x + uptoBulkEntries r
def uptoBulkEntry {H : Type} : Lit × DataW H → Nat
  | (.string bytes, d) => bytes.length + uptoBulk d + 1
  | (_, d) => uptoBulk d + 1
 end
def uptoSmall : (H : Type) → List (DataW H) → Bool := fun _ ds => decide (uptoBulkAll ds ≤ 1048576)
def OpenSpec.upto (s : _root_.Go.ChangeSpec) : _root_.Go.OpenSpec := { _root_.Go.OpenSpec.ofChange s with cond := some uptoSmall }

/-- 'laws.FnExactCheaper', WHERE WHAT IT READS IS OF BULK AT MOST 1048576: true; the input reads as it did. -/
def fnExactCheaperUptoRow : OpenClaim := { program := "ytnapbjifbppndaa", sum := "0b6997d88706106c06bffddc7cd984f6274543669115763abb964f1de94e6727", func := "loop.example/g00554/laws.FnExactCheaper", spec := "fnExactCheaper", apart := false, narrowed := true }
def FnExactCheaperUptoSaid : Prop := fnExactCheaperUptoRow.holds Try.pinned (OpenSpec.upto fnExactCheaperSpec)

/-- 'laws.FnExactCostsOf', WHERE WHAT IT READS IS OF BULK AT MOST 1048576: true; the input reads as it did. -/
def fnExactCostsOfUptoRow : OpenClaim := { program := "ytnapbjifbppndaa", sum := "0b6997d88706106c06bffddc7cd984f6274543669115763abb964f1de94e6727", func := "loop.example/g00554/laws.FnExactCostsOf", spec := "fnExactCostsOf", unfollowed := true, recurses := true, apart := false, narrowed := true }
def FnExactCostsOfUptoSaid : Prop := fnExactCostsOfUptoRow.holds Try.pinned (OpenSpec.upto fnExactCostsOfSpec)

/-- 'laws.FnShown', WHERE WHAT IT READS IS OF BULK AT MOST 1048576: true; the input reads as it did. -/
def fnShownUptoRow : OpenClaim := { program := "ytnapbjifbppndaa", sum := "0b6997d88706106c06bffddc7cd984f6274543669115763abb964f1de94e6727", func := "loop.example/g00554/laws.FnShown", spec := "fnShown", apart := false, narrowed := true }
def FnShownUptoSaid : Prop := fnShownUptoRow.holds Try.pinned (OpenSpec.upto fnShownSpec)

end Rows
end Go.Proofs.Ytnapbjifbppndaa
