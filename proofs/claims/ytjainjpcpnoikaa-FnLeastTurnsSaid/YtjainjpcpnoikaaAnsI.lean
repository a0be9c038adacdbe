/-
  The answers: what the program answers. No condition of its own.
-/
import Derived.Test.YtjainjpcpnoikaaMade
import Derived.Test.YtjainjpcpnoikaaAnsD
import Derived.Test.YtjainjpcpnoikaaFoldI
import Derived.BigQuiet
import Derived.Deep.RegionHeld3
import Derived.Deep.RegionWith
namespace Go.Proofs.Ytjainjpcpnoikaa
set_option linter.unusedVariables false
set_option linter.unusedSimpArgs false
open Go.RowKit
set_option maxRecDepth 100000


theorem made_all {cs : List Value} {p : ProgD} {w : World} (xs : List Int) (h : Rd.R w cs p) (hok : ∀ r ∈ p.rules, ruleOkB r 12 = true) :
    Calls Try.prog 111 #[.agg cs.toArray, .int .u16 (maskOf xs : Int), .int .u16 (maskOf xs : Int), .int .u16 4095] w fun e w' => ∃ m : Nat, e = .returned (.int .u16 (m : Int)) ∧ (m < 4096 ∧ mset m = leastL p.rules xs false) ∧ Below w.heap.size w w' := by
  have := made_calls xs false id (maskOf xs) 4095 (maskOf_lt xs) (by omega) (moreOk_least _ _) h hok
  rw [List.map_id] at this
  exact this
theorem made_own {cs : List Value} {p : ProgD} {w : World} (xs : List Int) (h : Rd.R w cs p) (hok : ∀ r ∈ p.rules, ruleOkB r 12 = true) :
    Calls Try.prog 111 #[.agg cs.toArray, .int .u16 (maskOf xs : Int), .int .u16 (maskOf xs : Int), .int .u16 (maskOf xs : Int)] w fun e w' => ∃ m : Nat, e = .returned (.int .u16 (m : Int)) ∧ (m < 4096 ∧ mset m = leastL p.rules xs true) ∧ Below w.heap.size w w' := by
  have := made_calls xs true id (maskOf xs) (maskOf xs) (maskOf_lt xs) (maskOf_lt xs) (moreOk_base _ _) h hok
  rw [List.map_id] at this
  exact this

theorem leastP_calls {cs : List Value} {p : ProgD} {w : World} (xs : List Int) (h : Rd.R w cs p) (hok : ∀ r ∈ p.rules, ruleOkB r 12 = true) :
    Calls Try.prog 72 #[.agg cs.toArray, .int .u16 (maskOf xs : Int)] w fun e w' => ∃ m : Nat, e = .returned (.int .u16 (m : Int)) ∧ (m < 4096 ∧ mset m = leastL p.rules xs false) ∧ Below w.heap.size w w' := by
  obtain ⟨e0, e1, e2, e3, e4, e5, e6, e7, rfl⟩ := list8 (Rd.len h)
  have t0 : Below w.heap.size w (w.alloc (.cells #[e0, e1, e2, e3, e4, e5, e6, e7] 36)) := (Below.refl _ _).alloc (by simp) _
  go_enter Try.func72, Try.ntmps72
  go_wp2_with fail
  refine (made_all xs (Rd.mono t0 h) hok).mono ?_
  rintro e w1 ⟨m, rfl, hm, b1⟩
  go_wp2
  go_ret
  exact ⟨m, rfl, hm, t0.step b1⟩


def ansQ (q : ProgD) (xs : List Int) : Bool := modelB q xs && decide (leastL q.rules xs false = xs)
theorem ansQ_no {q : ProgD} {xs : List Int} (h : modelB q xs = false) : ansQ q xs = false := by simp only [ansQ, h, Bool.false_and]
theorem ansQ_yes {q : ProgD} {xs : List Int} (h : modelB q xs = true) : ansQ q xs = decide (leastL q.rules xs false = xs) := by simp only [ansQ, h, Bool.true_and]
theorem ansB_Q {q : ProgD} {xs : List Int} (h : setOkB xs q.atoms = true) : ansB q xs = ansQ q xs := by simp only [ansB, ansQ, h, Bool.true_and]

end Go.Proofs.Ytjainjpcpnoikaa
