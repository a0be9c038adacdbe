/-
  Model: what spec.Model and impl.Model answer. No condition of its own.
-/
import Derived.Test.YtingnpnnacafbaaImplProg
import Derived.Test.YtingnpnnacafbaaSpecProg
import Derived.Test.YtingnpnnacafbaaBody
import Derived.Test.YtingnpnnacafbaaSetsPure
namespace Go.Proofs.Ytingnpnnacafbaa
set_option linter.unusedVariables false
set_option linter.unusedSimpArgs false
open Go.RowKit
set_option maxRecDepth 100000

theorem okTo_mono {xs : List Int} {n m : Int} (h : n ≤ m) : ∀ k, okTo xs n k = true → okTo xs m k = true
  | 0, _ => rfl
  | k + 1, h1 => by
    simp only [okTo, okStep, Bool.and_eq_true, decide_eq_true_eq] at h1 ⊢
    exact ⟨okTo_mono h k h1.1, h1.2.1, by omega, h1.2.2.2⟩
theorem setOkB_mono {xs : List Int} {n m : Int} (h : setOkB xs n = true) (h1 : n ≤ m) (h2 : m ≤ 12) : setOkB xs m = true := by
  have h0 := setOkB_n h
  rw [setOkB_in h0] at h
  rw [setOkB_in (by omega)]
  exact okTo_mono h1 _ h
theorem litB_mono {l n m : Int} (h : litB l n = true) (h1 : n ≤ m) : litB l m = true := by
  simp only [litB, btwB, Bool.or_eq_true, decide_eq_true_eq] at h ⊢
  omega
theorem ruleOkB_mono {r : RuleD} {n m : Int} (h : ruleOkB r n = true) (h1 : n ≤ m) (h2 : m ≤ 12) : ruleOkB r m = true := by
  simp only [ruleOkB, headsB, bodyB, Bool.and_eq_true, List.all_eq_true, wlitB] at h ⊢
  obtain ⟨⟨a1, a2⟩, a3, a4⟩ := h
  exact ⟨⟨setOkB_mono a1 h1 h2, a2⟩, a3, fun p hp => ⟨⟨litB_mono (a4 p hp).1.1 h1, (a4 p hp).1.2⟩, (a4 p hp).2⟩⟩
theorem progOk_atoms {p : ProgD} (h : progOkB p = true) : 0 ≤ p.atoms ∧ p.atoms ≤ 12 := by
  simp only [progOkB, Bool.and_eq_true, btwB, decide_eq_true_eq] at h
  exact h.1
theorem progOk_rules {p : ProgD} (h : progOkB p = true) : p.rules.length ≤ 60 ∧ ∀ r ∈ p.rules, ruleOkB r p.atoms = true := by
  simp only [progOkB, Bool.and_eq_true, rulesB, decide_eq_true_eq, List.all_eq_true] at h
  exact h.2.1
theorem progOk_rule {p : ProgD} (h : progOkB p = true) {k : Nat} (hk : k < p.rules.length) : ruleOkB (nth p.rules k) 12 = true :=
  ruleOkB_mono ((progOk_rules h).2 _ (nth_mem hk)) (progOk_atoms h).2 (by omega)

theorem mask_zero {m : Nat} (hm : m < 4096) : m = 0 ↔ pickTo (hasM m) 12 = [] := by
  have hs := sum_bits m 12 (by omega)
  rw [Nat.mod_eq_of_lt (show m < 2 ^ 12 by omega)] at hs
  constructor
  · intro h
    rw [List.eq_nil_iff_forall_not_mem]
    intro x hx
    have := (mem_pickTo (hasM m) x 12).1 hx
    rw [h] at this
    simp [hasM] at this
  · intro h
    rw [← hs, sumTo_congr (g := fun _ => false) (n := 12) fun x h1 h2 => by
      cases hh : hasM m x
      · rfl
      · have : x ∈ pickTo (hasM m) 12 := (mem_pickTo (hasM m) x 12).2 ⟨h1, h2, hh⟩
        rw [h] at this; cases this]
    rfl
/-- The heads that are in the set. -/
def meetB (r : RuleD) (xs : List Int) : List Int := pickTo (pickM r.heads xs) 12
theorem meet_zero (r : RuleD) (xs : List Int) : (((maskOf xs &&& maskOf r.heads : Nat) : Int) == 0) = (((meetB r xs).length : Int) == 0) := by
  have hl : maskOf r.heads &&& maskOf xs < 4096 := Nat.and_lt_two_pow (n := 12) _ (maskOf_lt xs)
  have h := mask_zero hl
  rw [meet_same] at h
  rw [Nat.and_comm, Bool.eq_iff_iff, beq_iff_eq, beq_iff_eq]
  unfold meetB
  rw [← List.length_eq_zero_iff] at h
  omega

/-- Is it no rule that breaks? -/
def ruleHoldsB (xs : List Int) (r : RuleD) : Bool := r.choice || !bodyHoldsB r xs || !(((meetB r xs).length : Int) == 0)
theorem ruleHolds_A {xs : List Int} {r : RuleD} (h : r.choice = true) : ruleHoldsB xs r = true := by simp only [ruleHoldsB, h, Bool.true_or]
theorem ruleHolds_B {xs : List Int} {r : RuleD} (h : bodyHoldsB r xs = false) : ruleHoldsB xs r = true := by simp [ruleHoldsB, h]
theorem ruleHolds_C {xs : List Int} {r : RuleD} (h : (((meetB r xs).length : Int) == 0) = false) : ruleHoldsB xs r = true := by simp only [ruleHoldsB, h, Bool.not_false, Bool.or_true]
theorem ruleHolds_D {xs : List Int} {r : RuleD} (hc : r.choice = false) (hb : bodyHoldsB r xs = true) (h : (((meetB r xs).length : Int) == 0) = true) : ruleHoldsB xs r = false := by simp only [ruleHoldsB, hc, hb, h]; rfl
def modelB (p : ProgD) (xs : List Int) : Bool := progOkB p && p.rules.all (ruleHoldsB xs)
theorem modelB_no {p : ProgD} {xs : List Int} (h : progOkB p = false) : modelB p xs = false := by simp only [modelB, h, Bool.false_and]
theorem modelB_yes {p : ProgD} {xs : List Int} (h : progOkB p = true) : modelB p xs = p.rules.all (ruleHoldsB xs) := by simp only [modelB, h, Bool.true_and]



end Go.Proofs.Ytingnpnnacafbaa
