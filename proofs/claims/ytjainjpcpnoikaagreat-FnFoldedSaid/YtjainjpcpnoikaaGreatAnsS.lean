/-
  The answers: what spec answers. No condition of its own.
-/
import Derived.Test.YtjainjpcpnoikaaGreatAnsD
import Derived.Test.YtjainjpcpnoikaaGreatLeastS
import Derived.Test.YtjainjpcpnoikaaGreatFoldS
namespace Go.Proofs.YtjainjpcpnoikaaGreat
set_option linter.unusedVariables false
set_option linter.unusedSimpArgs false
open Go.RowKit
set_option maxRecDepth 100000

theorem eqB_dec (xs ys : List Int) : eqB xs ys = decide (xs = ys) := rfl

set_option maxHeartbeats 2000000 in
theorem l05Answer_calls {cs : List Value} {q : ProgD} {w : World} {v : Value} {xs : List Int} (h : Rd.R w cs q) (gx : RdL w [v] xs) (hok : progOkB q = true) :
    Calls Tryz.prog 91 #[.agg cs.toArray, v] w fun e w' => e = .returned (.bool (ansB q xs)) ∧ Below w.heap.size w w' := by
  have hr12 := Lib.hid (rules12 hok)
  have h0 := h
  obtain ⟨c1, c2, c4, c5, c6, c7, rfl, hf, g1, g2, g4, g5, g6, g7⟩ := h0
  obtain ⟨a1, k1, rfl, _, _⟩ := g1.sl
  obtain ⟨ax, cx, rfl, _, hx⟩ := gx.sl
  have CX := Cells.new w [.int .i64 q.atoms, .slice a1 q.rules.length k1, c2, .bool q.projOn, c4, c5, c6, c7] 35
  have tb : Below w.heap.size w (w.alloc (.cells #[.int .i64 q.atoms, .slice a1 q.rules.length k1, c2, .bool q.projOn, c4, c5, c6, c7] 35)) := (Below.refl _ _).alloc (Nat.le_refl _) _
  clear g2 g4 g5 g6 g7 hok
  cases hS : setOkB xs q.atoms
  · have hv := Lib.hid (ansB_A hS)
    go_enter Tryz.func91, Tryz.ntmps91
    go_wp2_with fail
    refine (specSetOk_calls _ _ _ _ _ (hx.later tb).ints).mono ?_
    rintro e w1 ⟨he, b1⟩
    rw [hS] at he
    subst he
    have t1 := tb.step b1
    go_wp2
    go_ret
    exact ⟨ret_bool hv.out.symm, t1⟩
  · cases hM : modelB q xs
    · have hv := Lib.hid (ansB_B (xs := xs) hM)
      go_enter Tryz.func91, Tryz.ntmps91
      go_wp2_with fail
      refine (specSetOk_calls _ _ _ _ _ (hx.later tb).ints).mono ?_
      rintro e w1 ⟨he, b1⟩
      rw [hS] at he
      subst he
      have t1 := tb.step b1
      obtain ⟨y0, y1, y2, y3, y4, y5, y6, y7⟩ := cells8 (CX.later b1)
      go_wp2_with fail
      refine (specModel_calls (Rd.mono t1 h) (Rd.mono (α := List Int) t1 gx)).mono ?_
      rintro e w2 ⟨he, b2⟩
      rw [hM] at he
      subst he
      have t2 := t1.step b2
      go_wp2
      go_ret
      exact ⟨ret_bool hv.out.symm, t2⟩
    · have hv := Lib.hid (ansB_C hS hM)
      go_enter Tryz.func91, Tryz.ntmps91
      go_wp2_with fail
      refine (specSetOk_calls _ _ _ _ _ (hx.later tb).ints).mono ?_
      rintro e w1 ⟨he, b1⟩
      rw [hS] at he
      subst he
      have t1 := tb.step b1
      have CX1 := CX.later b1
      obtain ⟨y0, y1, y2, y3, y4, y5, y6, y7⟩ := cells8 CX1
      go_wp2_with fail
      refine (specModel_calls (Rd.mono t1 h) (Rd.mono (α := List Int) t1 gx)).mono ?_
      rintro e w2 ⟨he, b2⟩
      rw [hM] at he
      subst he
      have t2 := t1.step b2
      have CX2 := CX1.later b2
      clear y0 y1 y2 y3 y4 y5 y6 y7
      obtain ⟨y0, y1, y2, y3, y4, y5, y6, y7⟩ := cells8 CX2
      go_wp2_with fail
      refine (l05Least_calls false (Rd.mono (α := List RuleD) t2 g1) (Rd.mono (α := List Int) t2 gx) hr12.out).mono ?_
      rintro e w3 ⟨v3, rfl, o3, b3⟩
      have t3 := t2.step b3
      obtain ⟨p3, q3, rfl, hI3, _⟩ := o3.open
      go_wp2_with fail
      refine (l01Same_calls _ _ _ _ _ _ _ hI3 (hx.later t3).ints).mono ?_
      rintro e w4 ⟨rfl, b4⟩
      have t4 := t3.step b4
      go_wp2
      go_ret
      exact ⟨ret_bool (by rw [hv.out]; rfl), t4⟩


end Go.Proofs.YtjainjpcpnoikaaGreat
