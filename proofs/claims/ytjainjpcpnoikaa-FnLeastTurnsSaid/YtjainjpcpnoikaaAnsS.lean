/-
  The answers: what spec answers. No condition of its own.
-/
import Derived.Test.YtjainjpcpnoikaaAnsD
import Derived.Test.YtjainjpcpnoikaaLeastS
import Derived.Test.YtjainjpcpnoikaaFoldS
namespace Go.Proofs.Ytjainjpcpnoikaa
set_option linter.unusedVariables false
set_option linter.unusedSimpArgs false
open Go.RowKit
set_option maxRecDepth 100000

theorem eqB_dec (xs ys : List Int) : eqB xs ys = decide (xs = ys) := rfl

set_option maxHeartbeats 2000000 in
theorem l05Answer_calls {cs : List Value} {q : ProgD} {w : World} {v : Value} {xs : List Int} (h : Rd.R w cs q) (gx : RdL w [v] xs) (hok : progOkB q = true) :
    Calls Try.prog 134 #[.agg cs.toArray, v] w fun e w' => e = .returned (.bool (ansB q xs)) ∧ Below w.heap.size w w' := by
  have hr12 := Lib.hid (rules12 hok)
  have h0 := h
  obtain ⟨c1, c2, c4, c5, c6, c7, rfl, hf, g1, g2, g4, g5, g6, g7⟩ := h0
  obtain ⟨a1, k1, rfl, _, _⟩ := g1.sl
  obtain ⟨ax, cx, rfl, _, hx⟩ := gx.sl
  have CX := Cells.new w [.int .i64 q.atoms, .slice a1 q.rules.length k1, c2, .bool q.projOn, c4, c5, c6, c7] 36
  have tb : Below w.heap.size w (w.alloc (.cells #[.int .i64 q.atoms, .slice a1 q.rules.length k1, c2, .bool q.projOn, c4, c5, c6, c7] 36)) := (Below.refl _ _).alloc (Nat.le_refl _) _
  clear g2 g4 g5 g6 g7 hok
  cases hS : setOkB xs q.atoms
  · have hv := Lib.hid (ansB_A hS)
    go_enter Try.func134, Try.ntmps134
    go_wp2_with fail
    refine (specSetOk_calls _ _ _ _ _ (hx.later tb).ints).mono ?_
    rintro e w1 ⟨he, b1⟩
    rw [hS] at he
    subst he
    have t1 := tb.step b1
    go_wp2
    go_ret
    exact ⟨ret_bool hv.out.symm, t1⟩
  · cases hM : modelB q xs
    · have hv := Lib.hid (ansB_B (xs := xs) hM)
      go_enter Try.func134, Try.ntmps134
      go_wp2_with fail
      refine (specSetOk_calls _ _ _ _ _ (hx.later tb).ints).mono ?_
      rintro e w1 ⟨he, b1⟩
      rw [hS] at he
      subst he
      have t1 := tb.step b1
      obtain ⟨y0, y1, y2, y3, y4, y5, y6, y7⟩ := cells8 (CX.later b1)
      go_wp2_with fail
      refine (specModel_calls (Rd.mono t1 h) (Rd.mono (α := List Int) t1 gx)).mono ?_
      rintro e w2 ⟨he, b2⟩
      rw [hM] at he
      subst he
      have t2 := t1.step b2
      go_wp2
      go_ret
      exact ⟨ret_bool hv.out.symm, t2⟩
    · have hv := Lib.hid (ansB_C hS hM)
      go_enter Try.func134, Try.ntmps134
      go_wp2_with fail
      refine (specSetOk_calls _ _ _ _ _ (hx.later tb).ints).mono ?_
      rintro e w1 ⟨he, b1⟩
      rw [hS] at he
      subst he
      have t1 := tb.step b1
      have CX1 := CX.later b1
      obtain ⟨y0, y1, y2, y3, y4, y5, y6, y7⟩ := cells8 CX1
      go_wp2_with fail
      refine (specModel_calls (Rd.mono t1 h) (Rd.mono (α := List Int) t1 gx)).mono ?_
      rintro e w2 ⟨he, b2⟩
      rw [hM] at he
      subst he
      have t2 := t1.step b2
      have CX2 := CX1.later b2
      clear y0 y1 y2 y3 y4 y5 y6 y7
      obtain ⟨y0, y1, y2, y3, y4, y5, y6, y7⟩ := cells8 CX2
      go_wp2_with fail
      refine (l05Least_calls false (Rd.mono (α := List RuleD) t2 g1) (Rd.mono (α := List Int) t2 gx) hr12.out).mono ?_
      rintro e w3 ⟨v3, rfl, o3, b3⟩
      have t3 := t2.step b3
      obtain ⟨p3, q3, rfl, hI3, _⟩ := o3.open
      go_wp2_with fail
      refine (l01Same_calls _ _ _ _ _ _ _ hI3 (hx.later t3).ints).mono ?_
      rintro e w4 ⟨rfl, b4⟩
      have t4 := t3.step b4
      go_wp2
      go_ret
      exact ⟨ret_bool (by rw [hv.out]; rfl), t4⟩

set_option maxHeartbeats 2000000 in
theorem specLeast_calls {cs : List Value} {p : ProgD} {w : World} {v : Value} {xs : List Int} (h : Rd.R w cs p) (gx : RdL w [v] xs) :
    Calls Try.prog 33 #[.agg cs.toArray, v] w fun e w' => ∃ u, e = .returned u ∧ OwnI w.heap.size w' u (leastR p xs false) ∧ Below w.heap.size w w' := by
  obtain ⟨p0, p1, p2, p3, p4, p5, p6, p7, rfl⟩ := list8 (Rd.len h)
  obtain ⟨ax, cx, rfl, _, hx⟩ := gx.sl
  have t0 : Below w.heap.size w (w.alloc (.cells #[p0, p1, p2, p3, p4, p5, p6, p7] 36)) := (Below.refl _ _).alloc (by simp) _
  cases hF : foldB p
  · have hv := Lib.hid (leastR_no (xs := xs) (all := false) hF)
    go_enter Try.func33, Try.ntmps33
    go_wp2_with fail
    refine (specFold_calls (Rd.mono t0 h)).mono ?_
    rintro e w1 ⟨cs1, he, o1, b1⟩
    rw [hF] at he
    subst he
    have t1 := t0.step b1
    have l1 := Rd.one o1.rd
    obtain ⟨x0, x1, x2, x3, x4, x5, x6, x7, rfl⟩ := list8 (Rd.len o1.rd)
    have st0 := sto Try.prog (l1 x0 (by simp))
    have st1 := sto Try.prog (l1 x1 (by simp))
    have st2 := sto Try.prog (l1 x2 (by simp))
    have st3 := sto Try.prog (l1 x3 (by simp))
    have st4 := sto Try.prog (l1 x4 (by simp))
    have st5 := sto Try.prog (l1 x5 (by simp))
    have st6 := sto Try.prog (l1 x6 (by simp))
    have st7 := sto Try.prog (l1 x7 (by simp))
    have o1 := o1.alloc (.cells #[x0, x1, x2, x3, x4, x5, x6, x7] 36)
    have CX1 := Cells.new w1 [x0, x1, x2, x3, x4, x5, x6, x7] 36
    have t1 := t1.alloc t1.size (.cells #[x0, x1, x2, x3, x4, x5, x6, x7] 36)
    clear l1
    have hz : w.heap.size ≤ (w1.alloc (.cells #[x0, x1, x2, x3, x4, x5, x6, x7] 36)).heap.size := t1.size
    go_wp2
    go_ret
    exact ⟨_, rfl, by rw [hv.out]; have hn := OwnI.new _ _ hz; rw [World.size_alloc] at hn; exact hn, t1.alloc hz _⟩
  · have hv := Lib.hid (leastR_yes (xs := xs) (all := false) hF)
    have hok : progOkB (foldD p) = true := foldR_ok hF
    go_enter Try.func33, Try.ntmps33
    go_wp2_with fail
    refine (specFold_calls (Rd.mono t0 h)).mono ?_
    rintro e w1 ⟨cs1, he, o1, b1⟩
    rw [hF] at he
    rw [foldR_yes hF] at o1
    subst he
    have t1 := t0.step b1
    have l1 := Rd.one o1.rd
    obtain ⟨x0, x1, x2, x3, x4, x5, x6, x7, rfl⟩ := list8 (Rd.len o1.rd)
    have st0 := sto Try.prog (l1 x0 (by simp))
    have st1 := sto Try.prog (l1 x1 (by simp))
    have st2 := sto Try.prog (l1 x2 (by simp))
    have st3 := sto Try.prog (l1 x3 (by simp))
    have st4 := sto Try.prog (l1 x4 (by simp))
    have st5 := sto Try.prog (l1 x5 (by simp))
    have st6 := sto Try.prog (l1 x6 (by simp))
    have st7 := sto Try.prog (l1 x7 (by simp))
    have o1 := o1.alloc (.cells #[x0, x1, x2, x3, x4, x5, x6, x7] 36)
    have CX1 := Cells.new w1 [x0, x1, x2, x3, x4, x5, x6, x7] 36
    have t1 := t1.alloc t1.size (.cells #[x0, x1, x2, x3, x4, x5, x6, x7] 36)
    clear l1
    obtain ⟨y0, y1, y2, y3, y4, y5, y6, y7⟩ := cells8 CX1
    have oR := o1.rd
    obtain ⟨_, _, _, _, _, _, hl, _, g1, _⟩ := oR
    simp only [List.cons.injEq, and_true] at hl
    obtain ⟨-, rfl, -⟩ := hl
    go_wp2_with fail
    refine (l05Least_calls false g1 (Rd.mono (α := List Int) t1 gx) (rules12 hok)).mono ?_
    rintro e w2 ⟨u, rfl, o2, b2⟩
    go_wp2
    go_ret
    exact ⟨_, rfl, by rw [hv.out]; exact o2.mono t1.size, t1.step b2⟩


end Go.Proofs.Ytjainjpcpnoikaa
