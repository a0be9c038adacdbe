/-
  Least and Base: what the program answers. No condition of its own.
-/
import Derived.Test.YtfjcmnnddhomjaaAnsI
import Derived.Test.YtfjcmnnddhomjaaSeq
namespace Go.Proofs.Ytfjcmnnddhomjaa
set_option linter.unusedVariables false
set_option linter.unusedSimpArgs false
open Go.RowKit
set_option maxRecDepth 100000


set_option maxHeartbeats 2000000 in
theorem implLeast_calls {cs : List Value} {p : ProgD} {w : World} {v : Value} {xs : List Int} (h : Rd.R w cs p) (gx : RdL w [v] xs) :
    Calls Try.prog 14 #[.agg cs.toArray, v] w fun e w' => ∃ u, e = .returned u ∧ OwnI w.heap.size w' u (leastR p xs false) ∧ Below w.heap.size w w' := by
  obtain ⟨p0, p1, p2, p3, p4, p5, p6, p7, rfl⟩ := list8 (Rd.len h)
  obtain ⟨ax, cx, rfl, _, hx⟩ := gx.sl
  have t0 : Below w.heap.size w (w.alloc (.cells #[p0, p1, p2, p3, p4, p5, p6, p7] 36)) := (Below.refl _ _).alloc (by simp) _
  cases hF : foldB p
  · have hv := Lib.hid (leastR_no (xs := xs) (all := false) hF)
    go_enter Try.func14, Try.ntmps14
    go_wp2_with fail
    refine (implFold_calls (Rd.mono t0 h)).mono ?_
    rintro e w1 ⟨cs1, he, o1, b1⟩
    rw [hF] at he
    subst he
    have t1 := t0.step b1
    have l1 := Rd.one o1.rd
    obtain ⟨x0, x1, x2, x3, x4, x5, x6, x7, rfl⟩ := list8 (Rd.len o1.rd)
    have st0 := sto Try.prog (l1 x0 (by simp))
    have st1 := sto Try.prog (l1 x1 (by simp))
    have st2 := sto Try.prog (l1 x2 (by simp))
    have st3 := sto Try.prog (l1 x3 (by simp))
    have st4 := sto Try.prog (l1 x4 (by simp))
    have st5 := sto Try.prog (l1 x5 (by simp))
    have st6 := sto Try.prog (l1 x6 (by simp))
    have st7 := sto Try.prog (l1 x7 (by simp))
    have o1 := o1.alloc (.cells #[x0, x1, x2, x3, x4, x5, x6, x7] 36)
    have CX1 := Cells.new w1 [x0, x1, x2, x3, x4, x5, x6, x7] 36
    have t1 := t1.alloc t1.size (.cells #[x0, x1, x2, x3, x4, x5, x6, x7] 36)
    clear l1
    go_wp2
    go_ret
    exact ⟨_, rfl, by rw [hv.out]; exact OwnI.nil _ _, t1⟩
  · have hv := Lib.hid (leastR_yes (xs := xs) (all := false) hF)
    have hok : progOkB (foldD p) = true := foldR_ok hF
    have hr12 := Lib.hid (rules12 hok)
    go_enter Try.func14, Try.ntmps14
    go_wp2_with fail
    refine (implFold_calls (Rd.mono t0 h)).mono ?_
    rintro e w1 ⟨cs1, he, o1, b1⟩
    rw [hF] at he
    rw [foldR_yes hF] at o1
    subst he
    have t1 := t0.step b1
    have l1 := Rd.one o1.rd
    obtain ⟨x0, x1, x2, x3, x4, x5, x6, x7, rfl⟩ := list8 (Rd.len o1.rd)
    have st0 := sto Try.prog (l1 x0 (by simp))
    have st1 := sto Try.prog (l1 x1 (by simp))
    have st2 := sto Try.prog (l1 x2 (by simp))
    have st3 := sto Try.prog (l1 x3 (by simp))
    have st4 := sto Try.prog (l1 x4 (by simp))
    have st5 := sto Try.prog (l1 x5 (by simp))
    have st6 := sto Try.prog (l1 x6 (by simp))
    have st7 := sto Try.prog (l1 x7 (by simp))
    have o1 := o1.alloc (.cells #[x0, x1, x2, x3, x4, x5, x6, x7] 36)
    have CX1 := Cells.new w1 [x0, x1, x2, x3, x4, x5, x6, x7] 36
    have t1 := t1.alloc t1.size (.cells #[x0, x1, x2, x3, x4, x5, x6, x7] 36)
    clear l1
    go_wp2
    go_region_held3 (fun w' => w'.cell? ⟨w1.heap.size, 0, none⟩ = some x0 ∧ w'.cell? ⟨w1.heap.size, 1, none⟩ = some x1 ∧ w'.cell? ⟨w1.heap.size, 2, none⟩ = some x2 ∧ w'.cell? ⟨w1.heap.size, 3, none⟩ = some x3 ∧ w'.cell? ⟨w1.heap.size, 4, none⟩ = some x4 ∧ w'.cell? ⟨w1.heap.size, 5, none⟩ = some x5 ∧ w'.cell? ⟨w1.heap.size, 6, none⟩ = some x6 ∧ w'.cell? ⟨w1.heap.size, 7, none⟩ = some x7)
      (first | exact cells8 CX1 | exact cells8 CX1.drew | exact cells8 (CX1.drew.later b2) | exact cells8 ((CX1.drew.later b2).later b3))
      (first | (go_at_call 41; refine (atomsIn_calls _ _ _ _ (hx.later t1.drew).ints).mono ?_; rintro e w' ⟨rfl, rfl⟩) | (go_at_call 40; refine (leastP_calls xs o1.drew.rd hr12.out).mono ?_; rintro e w2 ⟨m, rfl, ⟨hm, hl⟩, b2⟩) |
        (go_at_call 42; refine (list_calls m _ hm).mono ?_; rintro e w3 ⟨u, rfl, o3, b3⟩))
    go_wp2
    go_ret
    exact ⟨_, rfl, by rw [hv.out, ← hl]; exact o3.mono (t1.drew.step b2).size, (t1.drew.step b2).step b3⟩


end Go.Proofs.Ytfjcmnnddhomjaa
