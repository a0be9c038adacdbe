/-
 The least set, the base, an answer: what the program answers. No condition of its own.
-/
import Derived.Test.YthikhkeofcjdfaaGreatMak
import Derived.Test.YthikhkeofcjdfaaGreatAnsD
import Derived.Test.YthikhkeofcjdfaaGreatFoldI
import Derived.BigQuiet
import Derived.Deep.RegionHeld3
import Derived.Deep.RegionWith
import Derived.Test.YthikhkeofcjdfaaGreatSeq
namespace Go.Proofs.YthikhkeofcjdfaaGreat
set_option linter.unusedVariables false
set_option linter.unusedSimpArgs false
open Go.RowKit
set_option maxRecDepth 100000


theorem made_all {cs : List Value} {p : ProgD} {w : World} (xs : List Int) (h : Rd.R w cs p) (hok : ∀ r ∈ p.rules, ruleOkB r 12 = true) :
  Calls Tryz.prog 232 #[.agg cs.toArray, .int .u16 (maskOf xs : Int), .int .u16 (maskOf xs : Int), .int .u16 4095] w fun e w' => ∃ m : Nat, e = .returned (.int .u16 (m : Int)) ∧ (m < 4096 ∧ mset m = leastL p.rules xs false) ∧ Below w.heap.size w w' := by
 have := made_calls xs false id (maskOf xs) 4095 (maskOf_lt xs) (by omega) (moreOk_least _ _) h hok
 rw [List.map_id] at this
 exact this
theorem made_own {cs : List Value} {p : ProgD} {w : World} (xs : List Int) (h : Rd.R w cs p) (hok : ∀ r ∈ p.rules, ruleOkB r 12 = true) :
  Calls Tryz.prog 232 #[.agg cs.toArray, .int .u16 (maskOf xs : Int), .int .u16 (maskOf xs : Int), .int .u16 (maskOf xs : Int)] w fun e w' => ∃ m : Nat, e = .returned (.int .u16 (m : Int)) ∧ (m < 4096 ∧ mset m = leastL p.rules xs true) ∧ Below w.heap.size w w' := by
 have := made_calls xs true id (maskOf xs) (maskOf xs) (maskOf_lt xs) (maskOf_lt xs) (moreOk_base _ _) h hok
 rw [List.map_id] at this
 exact this

theorem leastP_calls {cs : List Value} {p : ProgD} {w : World} (xs : List Int) (h : Rd.R w cs p) (hok : ∀ r ∈ p.rules, ruleOkB r 12 = true) :
  Calls Tryz.prog 189 #[.agg cs.toArray, .int .u16 (maskOf xs : Int)] w fun e w' => ∃ m : Nat, e = .returned (.int .u16 (m : Int)) ∧ (m < 4096 ∧ mset m = leastL p.rules xs false) ∧ Below w.heap.size w w' := by
 obtain ⟨e0, e1, e2, e3, e4, e5, e6, e7, rfl⟩ := list8 (Rd.len h)
 have t0 : Below w.heap.size w (w.alloc (.cells #[e0, e1, e2, e3, e4, e5, e6, e7] 30)) := (Below.refl _ _).alloc (by simp) _
 go_enter Tryz.func189, Tryz.ntmps189
 go_wp2_with fail
 refine (made_all xs (Rd.mono t0 h) hok).mono ?_
 rintro e w1 ⟨m, rfl, hm, b1⟩
 go_wp2
 go_ret
 exact ⟨m, rfl, hm, t0.step b1⟩

theorem baseP_calls {cs : List Value} {p : ProgD} {w : World} (xs : List Int) (h : Rd.R w cs p) (hok : ∀ r ∈ p.rules, ruleOkB r 12 = true) :
  Calls Tryz.prog 184 #[.agg cs.toArray, .int .u16 (maskOf xs : Int)] w fun e w' => ∃ m : Nat, e = .returned (.int .u16 (m : Int)) ∧ (m < 4096 ∧ mset m = leastL p.rules xs true) ∧ Below w.heap.size w w' := by
 obtain ⟨e0, e1, e2, e3, e4, e5, e6, e7, rfl⟩ := list8 (Rd.len h)
 have t0 : Below w.heap.size w (w.alloc (.cells #[e0, e1, e2, e3, e4, e5, e6, e7] 30)) := (Below.refl _ _).alloc (by simp) _
 go_enter Tryz.func184, Tryz.ntmps184
 go_wp2_with fail
 refine (made_own xs (Rd.mono t0 h) hok).mono ?_
 rintro e w1 ⟨m, rfl, hm, b1⟩
 go_wp2
 go_ret
 exact ⟨m, rfl, hm, t0.step b1⟩


def ansQ (q : ProgD) (xs : List Int) : Bool := modelB q xs && decide (leastL q.rules xs false = xs)
theorem ansQ_no {q : ProgD} {xs : List Int} (h : modelB q xs = false) : ansQ q xs = false := by simp only [ansQ, h, Bool.false_and]
theorem ansQ_yes {q : ProgD} {xs : List Int} (h : modelB q xs = true) : ansQ q xs = decide (leastL q.rules xs false = xs) := by simp only [ansQ, h, Bool.true_and]
theorem ansB_Q {q : ProgD} {xs : List Int} (h : setOkB xs q.atoms = true) : ansB q xs = ansQ q xs := by simp only [ansB, ansQ, h, Bool.true_and]

set_option maxHeartbeats 1000000 in
theorem answerP_calls {cs : List Value} {q : ProgD} {w : World} (xs : List Int) (h : Rd.R w cs q) (hok : progOkB q = true) (hx : IsP xs) :
  Calls Tryz.prog 98 #[.agg cs.toArray, .int .u16 (maskOf xs : Int)] w fun e w' => e = .returned (.bool (ansQ q xs)) ∧ Below w.heap.size w w' := by
 obtain ⟨e0, e1, e2, e3, e4, e5, e6, e7, rfl⟩ := list8 (Rd.len h)
 have t0 : Below w.heap.size w (w.alloc (.cells #[e0, e1, e2, e3, e4, e5, e6, e7] 30)) := (Below.refl _ _).alloc (by simp) _
 have CX := Cells.new w [e0, e1, e2, e3, e4, e5, e6, e7] 30
 cases hM : modelB q xs
 ·have hv := Lib.hid (ansQ_no hM)
  go_enter Tryz.func98, Tryz.ntmps98
  go_wp2_with fail
  refine (implModelP_calls xs (Rd.mono t0 h) hok).mono ?_
  rintro e w1 ⟨he, b1⟩
  rw [hM] at he
  subst he
  go_wp2
  go_ret
  exact ⟨ret_bool hv.out.symm, t0.step b1⟩
 ·have hv := Lib.hid (ansQ_yes hM)
  go_enter Tryz.func98, Tryz.ntmps98
  go_wp2_with fail
  refine (implModelP_calls xs (Rd.mono t0 h) hok).mono ?_
  rintro e w1 ⟨he, b1⟩
  rw [hM] at he
  subst he
  have t1 := t0.step b1
  obtain ⟨y0, y1, y2, y3, y4, y5, y6, y7⟩ := cells8 (CX.later b1)
  go_wp2_with fail
  refine (leastP_calls xs (Rd.mono t1 h) (rules12 hok)).mono ?_
  rintro e w2 ⟨m, rfl, ⟨hm, hl⟩, b2⟩
  have hE := Lib.hid (made_eq hm hx hl)
  have t2 := t1.step b2
  go_wp2
  go_ret
  exact ⟨ret_bool (by rw [hv.out, ← hE.out]; first | rfl | simp | (rw [Bool.eq_iff_iff]; simp)), t2⟩

set_option maxHeartbeats 2000000 in
theorem implAnswer_calls {cs : List Value} {p : ProgD} {w : World} {v : Value} {xs : List Int} (h : Rd.R w cs p) (gx : RdL w [v] xs) :
  Calls Tryz.prog 27 #[.agg cs.toArray, v] w fun e w' => e = .returned (.bool (answerR p xs)) ∧ Below w.heap.size w w' := by
 obtain ⟨p0, p1, p2, p3, p4, p5, p6, p7, rfl⟩ := list8 (Rd.len h)
 obtain ⟨ax, cx, rfl, _, hx⟩ := gx.sl
 have t0 : Below w.heap.size w (w.alloc (.cells #[p0, p1, p2, p3, p4, p5, p6, p7] 30)) := (Below.refl _ _).alloc (by simp) _
 cases hF : foldB p
 ·have hv := Lib.hid (answerR_no (xs := xs) hF)
  go_enter Tryz.func27, Tryz.ntmps27
  go_wp2_with fail
  refine (implFold_calls (Rd.mono t0 h)).mono ?_
  rintro e w1 ⟨cs1, he, o1, b1⟩
  rw [hF] at he
  subst he
  have t1 := t0.step b1
  have l1 := Rd.one o1.rd
  obtain ⟨x0, x1, x2, x3, x4, x5, x6, x7, rfl⟩ := list8 (Rd.len o1.rd)
  have st0 := sto Tryz.prog (l1 x0 (by simp))
  have st1 := sto Tryz.prog (l1 x1 (by simp))
  have st2 := sto Tryz.prog (l1 x2 (by simp))
  have st3 := sto Tryz.prog (l1 x3 (by simp))
  have st4 := sto Tryz.prog (l1 x4 (by simp))
  have st5 := sto Tryz.prog (l1 x5 (by simp))
  have st6 := sto Tryz.prog (l1 x6 (by simp))
  have st7 := sto Tryz.prog (l1 x7 (by simp))
  have o1 := o1.alloc (.cells #[x0, x1, x2, x3, x4, x5, x6, x7] 30)
  have CX1 := Cells.new w1 [x0, x1, x2, x3, x4, x5, x6, x7] 30
  have t1 := t1.alloc t1.size (.cells #[x0, x1, x2, x3, x4, x5, x6, x7] 30)
  clear l1
  go_wp2
  go_quiet (fail)
  go_wp2
  go_ret
  exact ⟨ret_bool hv.out.symm, by first | exact t1.drew | exact below_drewN t1 _⟩
 ·have hok : progOkB (foldD p) = true := foldR_ok hF
  cases hS : setOkB xs (foldD p).atoms
  ·have hv : Hid (answerR p xs = false) := by show _ = _; rw [answerR_yes hF, ansB_A hS]
   go_enter Tryz.func27, Tryz.ntmps27
   go_wp2_with fail
   refine (implFold_calls (Rd.mono t0 h)).mono ?_
   rintro e w1 ⟨cs1, he, o1, b1⟩
   rw [hF] at he
   rw [foldR_yes hF] at o1
   subst he
   have t1 := t0.step b1
   have l1 := Rd.one o1.rd
   obtain ⟨x0, x1, x2, x3, x4, x5, x6, x7, rfl⟩ := list8 (Rd.len o1.rd)
   have st0 := sto Tryz.prog (l1 x0 (by simp))
   have st1 := sto Tryz.prog (l1 x1 (by simp))
   have st2 := sto Tryz.prog (l1 x2 (by simp))
   have st3 := sto Tryz.prog (l1 x3 (by simp))
   have st4 := sto Tryz.prog (l1 x4 (by simp))
   have st5 := sto Tryz.prog (l1 x5 (by simp))
   have st6 := sto Tryz.prog (l1 x6 (by simp))
   have st7 := sto Tryz.prog (l1 x7 (by simp))
   have o1 := o1.alloc (.cells #[x0, x1, x2, x3, x4, x5, x6, x7] 30)
   have CX1 := Cells.new w1 [x0, x1, x2, x3, x4, x5, x6, x7] 30
   have t1 := t1.alloc t1.size (.cells #[x0, x1, x2, x3, x4, x5, x6, x7] 30)
   clear l1
   obtain ⟨y0, y1, y2, y3, y4, y5, y6, y7⟩ := cells8 CX1
   have oR := o1.rd
   obtain ⟨_, _, _, _, _, _, hl, _⟩ := oR
   simp only [List.cons.injEq, and_true] at hl
   obtain ⟨rfl, -⟩ := hl
   go_wp2
   have hSv : Ending.returned (.bool (setOkB xs (foldD p).atoms)) = .returned (.bool false) := by rw [hS]
   go_quiet (first | (go_at_call 97; refine Calls.quiet_of_same (v := .bool false) ((implSetOk_calls _ _ _ _ _ (hx.later (below_drewN t1 _)).ints).mono fun e w' h9 => ⟨h9.1.trans hSv, h9.2.symm⟩)))
   go_wp2
   go_ret
   exact ⟨ret_bool hv.out.symm, by first | exact t1.drew | exact below_drewN t1 _⟩
  ·have hv : Hid (answerR p xs = ansQ (foldD p) xs) := by show _ = _; rw [answerR_yes hF, ansB_Q hS]
   have hxP := progOk_len hS (progOk_atoms hok)
   go_enter Tryz.func27, Tryz.ntmps27
   go_wp2_with fail
   refine (implFold_calls (Rd.mono t0 h)).mono ?_
   rintro e w1 ⟨cs1, he, o1, b1⟩
   rw [hF] at he
   rw [foldR_yes hF] at o1
   subst he
   have t1 := t0.step b1
   have l1 := Rd.one o1.rd
   obtain ⟨x0, x1, x2, x3, x4, x5, x6, x7, rfl⟩ := list8 (Rd.len o1.rd)
   have st0 := sto Tryz.prog (l1 x0 (by simp))
   have st1 := sto Tryz.prog (l1 x1 (by simp))
   have st2 := sto Tryz.prog (l1 x2 (by simp))
   have st3 := sto Tryz.prog (l1 x3 (by simp))
   have st4 := sto Tryz.prog (l1 x4 (by simp))
   have st5 := sto Tryz.prog (l1 x5 (by simp))
   have st6 := sto Tryz.prog (l1 x6 (by simp))
   have st7 := sto Tryz.prog (l1 x7 (by simp))
   have o1 := o1.alloc (.cells #[x0, x1, x2, x3, x4, x5, x6, x7] 30)
   have CX1 := Cells.new w1 [x0, x1, x2, x3, x4, x5, x6, x7] 30
   have t1 := t1.alloc t1.size (.cells #[x0, x1, x2, x3, x4, x5, x6, x7] 30)
   clear l1
   have oR := o1.rd
   obtain ⟨_, _, _, _, _, _, hl, _⟩ := oR
   simp only [List.cons.injEq, and_true] at hl
   obtain ⟨rfl, -⟩ := hl
   go_wp2
   go_region_held3 (fun w' => w'.cell? ⟨w1.heap.size, 0, none⟩ = some (.int .i64 (foldD p).atoms) ∧ w'.cell? ⟨w1.heap.size, 1, none⟩ = some x1 ∧ w'.cell? ⟨w1.heap.size, 2, none⟩ = some x2 ∧ w'.cell? ⟨w1.heap.size, 3, none⟩ = some x3 ∧ w'.cell? ⟨w1.heap.size, 4, none⟩ = some x4 ∧ w'.cell? ⟨w1.heap.size, 5, none⟩ = some x5 ∧ w'.cell? ⟨w1.heap.size, 6, none⟩ = some x6 ∧ w'.cell? ⟨w1.heap.size, 7, none⟩ = some x7)
    (first | exact cells8 CX1 | exact cells8 CX1.drew | exact cells8 (CX1.drew.later b2))
    (first | (go_at_call 97; refine (implSetOk_calls _ _ _ _ _ (hx.later t1.drew).ints).mono ?_; rintro e w' ⟨he, rfl⟩; rw [hS] at he; subst he) | (go_at_call 76; refine (atomsIn_calls _ _ _ _ (hx.later t1.drew).ints).mono ?_; rintro e w' ⟨rfl, rfl⟩) |
     (go_at_call 98; refine (answerP_calls xs o1.drew.rd hok hxP).mono ?_; rintro e w2 ⟨rfl, b2⟩))
   go_wp2
   go_ret
   exact ⟨ret_bool hv.out.symm, t1.drew.step b2⟩



end Go.Proofs.YthikhkeofcjdfaaGreat
