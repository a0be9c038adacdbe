/-
  Here and there: pairs, told of lists. No condition of its own.
-/
import Derived.Test.YtleimijgpmoifaaGreatSupD
namespace Go.Proofs.YtleimijgpmoifaaGreat
set_option linter.unusedVariables false
set_option linter.unusedSimpArgs false
open Go.RowKit
set_option maxRecDepth 100000

/-- Do the heads of a rule whose body holds stand here? -/
def gvB (hs ts : List Int) (r : RuleD) : Bool := if r.choice then inM (maskOf r.heads &&& maskOf ts) (maskOf hs) else ((maskOf r.heads &&& maskOf hs : Nat) : Int) != 0
theorem gvB_T {hs ts : List Int} {r : RuleD} (h : r.choice = true) : gvB hs ts r = inM (maskOf r.heads &&& maskOf ts) (maskOf hs) := if_pos h
theorem gvB_F {hs ts : List Int} {r : RuleD} (h : r.choice = false) : gvB hs ts r = (((maskOf r.heads &&& maskOf hs : Nat) : Int) != 0) := by unfold gvB; rw [h]; rfl
/-- Does a rule hold here? -/
def hrB (hs ts : List Int) (r : RuleD) : Bool := !reachB r (h2B hs ts) || gvB hs ts r
theorem hrB_A {hs ts : List Int} {r : RuleD} (h : reachB r (h2B hs ts) = false) : hrB hs ts r = true := by simp only [hrB, h, Bool.not_false, Bool.true_or]
theorem hrB_B {hs ts : List Int} {r : RuleD} (h : reachB r (h2B hs ts) = true) : hrB hs ts r = gvB hs ts r := by simp only [hrB, h, Bool.not_true, Bool.false_or]
/-- Is the list one whose atoms are all in the other one? -/
def inL (xs ys : List Int) : Bool := ((pickTo (pickL xs ys) 12).length : Int) == 0
/-- A rule as spec asks for it. -/
def prB (hs ts : List Int) (r : RuleD) : Bool := if r.choice then !(reachB r (h2B hs ts) && !inL (meetB r ts) hs) else !(reachB r (h2B hs ts) && ((meetB r hs).length : Int) == 0) && !(reachB r (h2B ts ts) && ((meetB r ts).length : Int) == 0)
section
variable {hs ts : List Int} {r : RuleD}
theorem prB_1 (hc : r.choice = true) (h : reachB r (h2B hs ts) = false) : prB hs ts r = true := by simp [prB, hc, h]
theorem prB_2 (hc : r.choice = true) (h : reachB r (h2B hs ts) = true) : prB hs ts r = inL (meetB r ts) hs := by simp [prB, hc, h]
theorem prB_3 (hc : r.choice = false) (h : reachB r (h2B hs ts) = true) (hm : (((meetB r hs).length : Int) == 0) = true) : prB hs ts r = false := by simp [prB, hc, h, hm]
theorem prB_4 (hc : r.choice = false) (h : (reachB r (h2B hs ts) && ((meetB r hs).length : Int) == 0) = false) (h2 : reachB r (h2B ts ts) = false) : prB hs ts r = true := by
  unfold prB; rw [h, h2, hc]; rfl
theorem prB_5 (hc : r.choice = false) (h : (reachB r (h2B hs ts) && ((meetB r hs).length : Int) == 0) = false) (h2 : reachB r (h2B ts ts) = true) : prB hs ts r = !(((meetB r ts).length : Int) == 0) := by
  unfold prB; rw [h, h2, hc]; simp
theorem prB_eq (hok : ruleOkB r 12 = true) : prB hs ts r = (ruleHoldsB ts r && hrB hs ts r) := by
  have hb := bodyHoldsB_yes (xs := ts) hok
  rw [← reach_same] at hb
  have hml : maskOf (meetB r ts) = maskOf r.heads &&& maskOf ts := by
    unfold meetB
    rw [← meet_same, maskOf_pick (Nat.lt_of_le_of_lt Nat.and_le_right (maskOf_lt ts))]
  unfold prB ruleHoldsB hrB
  rw [hb]
  cases hc : r.choice
  · rw [gvB_F hc, Nat.and_comm, bne, meet_zero r hs]
    cases reachB r (h2B hs ts) <;> cases reachB r (h2B ts ts) <;> cases (((meetB r hs).length : Int) == 0) <;> cases (((meetB r ts).length : Int) == 0) <;> rfl
  · rw [gvB_T hc]
    unfold inM inL
    rw [← hml, in_same]
    cases reachB r (h2B hs ts) <;> simp
end
/-- A pair of the rules. -/
def htQ (rs : List RuleD) (hs ts : List Int) : Bool := inM (maskOf hs) (maskOf ts) && (rs.all (ruleHoldsB ts) && rs.all (hrB hs ts))
section
variable {rs : List RuleD} {hs ts : List Int}
theorem htQ_A (h : inM (maskOf hs) (maskOf ts) = false) : htQ rs hs ts = false := by simp only [htQ, h, Bool.false_and]
theorem htQ_B (h : rs.all (ruleHoldsB ts) = false) : htQ rs hs ts = false := by simp only [htQ, h, Bool.false_and, Bool.and_false]
theorem htQ_C (h : inM (maskOf hs) (maskOf ts) = true) (h' : rs.all (ruleHoldsB ts) = true) : htQ rs hs ts = rs.all (hrB hs ts) := by simp only [htQ, h, h', Bool.true_and]
theorem htQ_pr (hok : ∀ r ∈ rs, ruleOkB r 12 = true) : htQ rs hs ts = (inL hs ts && rs.all (prB hs ts)) := by
  have h1 : rs.all (prB hs ts) = (rs.all (ruleHoldsB ts) && rs.all (hrB hs ts)) := by
    induction rs with
    | nil => rfl
    | cons r rs ih =>
      rw [List.all_cons, List.all_cons, List.all_cons, prB_eq (hok r (List.mem_cons_self ..)), ih fun r' h => hok r' (List.mem_cons_of_mem _ h)]
      cases ruleHoldsB ts r <;> cases hrB hs ts r <;> simp
  unfold htQ
  rw [h1]
  unfold inL inM
  rw [in_same]
end
def htB (p : ProgD) (hs ts : List Int) : Bool := foldB p && (setOkB hs (foldD p).atoms && (setOkB ts (foldD p).atoms && htQ (foldD p).rules hs ts))
section
variable {p : ProgD} {hs ts : List Int}
theorem htB_A (h : foldB p = false) : htB p hs ts = false := by simp only [htB, h, Bool.false_and]
theorem htB_B (h : setOkB hs (foldD p).atoms = false) : htB p hs ts = false := by simp only [htB, h, Bool.false_and, Bool.and_false]
theorem htB_C (h : setOkB ts (foldD p).atoms = false) : htB p hs ts = false := by simp only [htB, h, Bool.false_and, Bool.and_false]
theorem htB_D (h1 : foldB p = true) (h2 : setOkB hs (foldD p).atoms = true) (h3 : setOkB ts (foldD p).atoms = true) : htB p hs ts = htQ (foldD p).rules hs ts := by simp only [htB, h1, h2, h3, Bool.true_and]
end

end Go.Proofs.YtleimijgpmoifaaGreat
