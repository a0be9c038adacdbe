/-
  A list of values out of its two numbers. No condition of its own.
-/
import Derived.Test.YtjainjpcpnoikaaVal
namespace Go.Proofs.Ytjainjpcpnoikaa
set_option linter.unusedVariables false
set_option linter.unusedSimpArgs false
open Go.RowKit
set_option maxRecDepth 100000
set_option linter.unusedVariables false
set_option linter.unusedSimpArgs false

/-- A list of values for the atoms up to n. -/
def VOk (n : Nat) (vs : List Int) : Prop := vs.length = n ∧ n ≤ 12 ∧ ∀ v ∈ vs, v = 0 ∨ v = 1 ∨ v = 2
theorem VOk.el {n : Nat} {vs : List Int} (h : VOk n vs) {k : Nat} (hk : k < n) : el vs k = 0 ∨ el vs k = 1 ∨ el vs k = 2 := h.2.2 _ (el_mem (by rw [h.1]; exact hk))
theorem el_set {vs : List Int} {i k : Nat} {v : Int} (hi : i < vs.length) : el (vs.set i v) k = if i = k then v else el vs k := by
  unfold el
  rw [List.getD_eq_getElem?_getD, List.getD_eq_getElem?_getD, List.getElem?_set]
  by_cases e : i = k
  · rw [if_pos e, if_pos e, if_pos (by omega)]; rfl
  · rw [if_neg e, if_neg e]
theorem VOk.set {n : Nat} {vs : List Int} (h : VOk n vs) {i : Nat} {v : Int} (hv : v = 0 ∨ v = 1 ∨ v = 2) : VOk n (vs.set i v) :=
  ⟨by rw [List.length_set]; exact h.1, h.2.1, fun u hu => by
    rcases List.mem_or_eq_of_mem_set hu with hu | rfl
    · exact h.2.2 u hu
    · exact hv⟩
theorem hasM_with {vs : List Int} {k x : Int} (h : 1 ≤ x ∧ x ≤ 12) : hasM (maskOf (withL vs k)) x = valB vs k x := by rw [hasM_maskOf _ _ h, hasB_with h]
/-- The two numbers of a list of values. -/
def tM (vs : List Int) : Nat := maskOf (withL vs 1)
def fM (vs : List Int) : Nat := maskOf (withL vs 2)
theorem tM_lt (vs : List Int) : tM vs < 4096 := maskOf_lt _
theorem fM_lt (vs : List Int) : fM vs < 4096 := maskOf_lt _
theorem rowI_same {xs : List Int} {k : Nat} (hk : k < xs.length) (h : el xs k = 0) : rowI xs (k + 1) = rowI xs k := by
  unfold rowI
  obtain ⟨m, hm⟩ : ∃ m, xs.length - k = m + 1 := ⟨xs.length - k - 1, by omega⟩
  rw [hm, show xs.length - (k + 1) = m by omega, take_el hk, List.map_append, h, List.replicate_succ]
  simp
theorem hasM_tM {vs : List Int} {k : Nat} (hk : k < vs.length) (hl : vs.length ≤ 12) : hasM (tM vs) ((k : Int) + 1) = decide (el vs k = 1) := by
  unfold tM; rw [hasM_with ⟨by omega, by omega⟩, valB_at hk]
theorem hasM_fM {vs : List Int} {k : Nat} (hk : k < vs.length) (hl : vs.length ≤ 12) : hasM (fM vs) ((k : Int) + 1) = decide (el vs k = 2) := by
  unfold fM; rw [hasM_with ⟨by omega, by omega⟩, valB_at hk]

end Go.Proofs.Ytjainjpcpnoikaa
