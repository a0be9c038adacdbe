/-
 The least set, the base, an answer: what the program answers. No condition of its own.
-/
import Derived.Test.YthfbnalgnnjbbaaGreatMak
import Derived.Test.YthfbnalgnnjbbaaGreatAnsD
import Derived.Test.YthfbnalgnnjbbaaGreatFoldI
import Derived.BigQuiet
import Derived.Deep.RegionHeld3
import Derived.Deep.RegionWith
import Derived.Test.YthfbnalgnnjbbaaGreatSeq
namespace Go.Proofs.YthfbnalgnnjbbaaGreat
set_option linter.unusedVariables false
set_option linter.unusedSimpArgs false
open Go.RowKit
set_option maxRecDepth 100000


theorem made_all {cs : List Value} {p : ProgD} {w : World} (xs : List Int) (h : Rd.R w cs p) (hok : ∀ r ∈ p.rules, ruleOkB r 12 = true) :
  Calls Tryz.prog 229 #[.agg cs.toArray, .int .u16 (maskOf xs : Int), .int .u16 (maskOf xs : Int), .int .u16 4095] w fun e w' => ∃ m : Nat, e = .returned (.int .u16 (m : Int)) ∧ (m < 4096 ∧ mset m = leastL p.rules xs false) ∧ Below w.heap.size w w' := by
 have := made_calls xs false id (maskOf xs) 4095 (maskOf_lt xs) (by omega) (moreOk_least _ _) h hok
 rw [List.map_id] at this
 exact this

theorem leastP_calls {cs : List Value} {p : ProgD} {w : World} (xs : List Int) (h : Rd.R w cs p) (hok : ∀ r ∈ p.rules, ruleOkB r 12 = true) :
  Calls Tryz.prog 170 #[.agg cs.toArray, .int .u16 (maskOf xs : Int)] w fun e w' => ∃ m : Nat, e = .returned (.int .u16 (m : Int)) ∧ (m < 4096 ∧ mset m = leastL p.rules xs false) ∧ Below w.heap.size w w' := by
 obtain ⟨e0, e1, e2, e3, e4, e5, e6, e7, rfl⟩ := list8 (Rd.len h)
 have t0 : Below w.heap.size w (w.alloc (.cells #[e0, e1, e2, e3, e4, e5, e6, e7] 30)) := (Below.refl _ _).alloc (by simp) _
 go_enter Tryz.func170, Tryz.ntmps170
 go_wp2_with fail
 refine (made_all xs (Rd.mono t0 h) hok).mono ?_
 rintro e w1 ⟨m, rfl, hm, b1⟩
 go_wp2
 go_ret
 exact ⟨m, rfl, hm, t0.step b1⟩



def ansQ (q : ProgD) (xs : List Int) : Bool := modelB q xs && decide (leastL q.rules xs false = xs)
theorem ansQ_no {q : ProgD} {xs : List Int} (h : modelB q xs = false) : ansQ q xs = false := by simp only [ansQ, h, Bool.false_and]
theorem ansQ_yes {q : ProgD} {xs : List Int} (h : modelB q xs = true) : ansQ q xs = decide (leastL q.rules xs false = xs) := by simp only [ansQ, h, Bool.true_and]
theorem ansB_Q {q : ProgD} {xs : List Int} (h : setOkB xs q.atoms = true) : ansB q xs = ansQ q xs := by simp only [ansB, ansQ, h, Bool.true_and]

set_option maxHeartbeats 1000000 in
theorem answerP_calls {cs : List Value} {q : ProgD} {w : World} (xs : List Int) (h : Rd.R w cs q) (hok : progOkB q = true) (hx : IsP xs) :
  Calls Tryz.prog 85 #[.agg cs.toArray, .int .u16 (maskOf xs : Int)] w fun e w' => e = .returned (.bool (ansQ q xs)) ∧ Below w.heap.size w w' := by
 obtain ⟨e0, e1, e2, e3, e4, e5, e6, e7, rfl⟩ := list8 (Rd.len h)
 have t0 : Below w.heap.size w (w.alloc (.cells #[e0, e1, e2, e3, e4, e5, e6, e7] 30)) := (Below.refl _ _).alloc (by simp) _
 have CX := Cells.new w [e0, e1, e2, e3, e4, e5, e6, e7] 30
 cases hM : modelB q xs
 ·have hv := Lib.hid (ansQ_no hM)
  go_enter Tryz.func85, Tryz.ntmps85
  go_wp2_with fail
  refine (implModelP_calls xs (Rd.mono t0 h) hok).mono ?_
  rintro e w1 ⟨he, b1⟩
  rw [hM] at he
  subst he
  go_wp2
  go_ret
  exact ⟨ret_bool hv.out.symm, t0.step b1⟩
 ·have hv := Lib.hid (ansQ_yes hM)
  go_enter Tryz.func85, Tryz.ntmps85
  go_wp2_with fail
  refine (implModelP_calls xs (Rd.mono t0 h) hok).mono ?_
  rintro e w1 ⟨he, b1⟩
  rw [hM] at he
  subst he
  have t1 := t0.step b1
  obtain ⟨y0, y1, y2, y3, y4, y5, y6, y7⟩ := cells8 (CX.later b1)
  go_wp2_with fail
  refine (leastP_calls xs (Rd.mono t1 h) (rules12 hok)).mono ?_
  rintro e w2 ⟨m, rfl, ⟨hm, hl⟩, b2⟩
  have hE := Lib.hid (made_eq hm hx hl)
  have t2 := t1.step b2
  go_wp2
  go_ret
  exact ⟨ret_bool (by rw [hv.out, ← hE.out]; first | rfl | simp | (rw [Bool.eq_iff_iff]; simp)), t2⟩




end Go.Proofs.YthfbnalgnnjbbaaGreat
