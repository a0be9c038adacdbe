/-
  Lists of values of a program: what is asked of them. No condition of its own.
-/
import Derived.Test.YtjainjpcpnoikaaVal
import Derived.Test.YtjainjpcpnoikaaAnsD
import Derived.Test.YtjainjpcpnoikaaFoldI
import Derived.Test.YtjainjpcpnoikaaFoldS
namespace Go.Proofs.Ytjainjpcpnoikaa
set_option linter.unusedVariables false
set_option linter.unusedSimpArgs false
open Go.RowKit
set_option maxRecDepth 100000
set_option linter.unusedVariables false
set_option linter.unusedSimpArgs false


theorem Own.putV {α : Type} [Ow α] {lo : Nat} {w : World} {cs : List Value} {x : α} (h : Own lo w cs x) {g : Nat} (hg : g < lo) (o : Nat) (vs : List Value) : Own lo (put w g o vs) cs x := by
  obtain ⟨fp, h, hl⟩ := h
  exact ⟨fp, Ow.kept h fun b hb => (put_chg g vs w o).block b (by have := hl b hb; simp; omega), hl⟩
def valB2 (v : Int) : Bool := btwB v 0 2
/-- Is it a list of values of a program? -/
def valsOkR (p : ProgD) (vs : List Int) : Bool := foldB p && (decide ((vs.length : Int) = (foldD p).atoms) && vs.all valB2)
theorem valsOk_A {p : ProgD} {vs : List Int} (h : foldB p = false) : valsOkR p vs = false := by simp [valsOkR, h]
theorem valsOk_B {p : ProgD} {vs : List Int} (h : ¬ (vs.length : Int) = (foldD p).atoms) : valsOkR p vs = false := by simp only [valsOkR, decide_eq_false h, Bool.false_and, Bool.and_false]
theorem valsOk_C {p : ProgD} {vs : List Int} (h : foldB p = true) (hl : (vs.length : Int) = (foldD p).atoms) : valsOkR p vs = vs.all valB2 := by simp only [valsOkR, h, decide_eq_true hl, Bool.true_and]
theorem vals_no {vs : List Int} {k : Nat} (h : k < vs.length) (hv : valB2 (el vs k) = false) : vs.all valB2 = false := by
  rw [List.all_eq_false]; exact ⟨el vs k, el_mem h, by rw [hv]; exact Bool.false_ne_true⟩
theorem vals_step {vs : List Int} {k : Nat} (h : k < vs.length) (h0 : (vs.take k).all valB2 = true) (hv : valB2 (el vs k) = true) : (vs.take (k + 1)).all valB2 = true := by
  rw [take_el h, List.all_append, h0]; simp [hv]
theorem vals_end {vs : List Int} {k : Nat} (h : vs.length ≤ k) (h0 : (vs.take k).all valB2 = true) : vs.all valB2 = true := by rwa [List.take_of_length_le h] at h0
/-- What Fold makes of a program, for a list of its values. -/
def valsP (p : ProgD) (vs : List Int) : ProgD := if valsOkR p vs then foldD p else default
theorem valsP_no {p : ProgD} {vs : List Int} (h : valsOkR p vs = false) : valsP p vs = default := by simp [valsP, h]
theorem valsP_yes {p : ProgD} {vs : List Int} (h : valsOkR p vs = true) : valsP p vs = foldD p := by simp [valsP, h]


end Go.Proofs.Ytjainjpcpnoikaa
