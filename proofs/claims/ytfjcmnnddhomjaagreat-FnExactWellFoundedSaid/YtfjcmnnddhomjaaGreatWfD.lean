/-
  The well-founded part: what it is. No condition of its own.
-/
import Derived.Test.YtfjcmnnddhomjaaGreatAnsD
import Derived.Test.YtfjcmnnddhomjaaGreatMadeD
namespace Go.Proofs.YtfjcmnnddhomjaaGreat
set_option linter.unusedVariables false
set_option linter.unusedSimpArgs false
open Go.RowKit
set_option maxRecDepth 100000

def noCh (r : RuleD) : Bool := !r.choice
def plainB (p : ProgD) : Bool := foldB p && (foldD p).rules.all noCh
theorem plainB_A {p : ProgD} (h : foldB p = false) : plainB p = false := by simp only [plainB, h, Bool.false_and]
theorem plainB_B {p : ProgD} (h : foldB p = true) : plainB p = (foldD p).rules.all noCh := by simp only [plainB, h, Bool.true_and]
theorem plainB_fold {p : ProgD} (h : plainB p = true) : foldB p = true := by
  unfold plainB at h
  cases hf : foldB p
  · rw [hf] at h; cases h
  · rfl
theorem plainB_ch {p : ProgD} (h : plainB p = true) : ∀ r ∈ (foldD p).rules, r.choice = false := by
  rw [plainB_B (plainB_fold h), List.all_eq_true] at h
  intro r hr
  have := h r hr
  simpa [noCh] using this

/-- What must be, as far as it is known after n rounds. -/
def wfIt (rs : List RuleD) : Nat → List Int
  | 0 => []
  | n + 1 => leastL rs (leastL rs (wfIt rs n) false) false
def wfT (rs : List RuleD) : List Int := wfIt rs 13
def wfF (rs : List RuleD) : List Int := leastL rs (wfT rs) false
section
variable {rs : List RuleD}
theorem wfIt_isP : ∀ n, IsP (wfIt rs n)
  | 0 => isP_nil
  | _ + 1 => least_isP
theorem wfIt_sub (hw : Wts rs) (hc : ∀ r ∈ rs, r.choice = false) : ∀ n, Sub (wfIt rs n) (wfIt rs (n + 1))
  | 0 => fun a _ _ h => by simp [wfIt, hasB] at h
  | n + 1 => least_anti hw hc (least_anti hw hc (wfIt_sub hw hc n))
theorem wfIt_len (hw : Wts rs) (hc : ∀ r ∈ rs, r.choice = false) (n : Nat) : (wfIt rs n).length ≤ (wfIt rs (n + 1)).length ∧ ((wfIt rs (n + 1)).length = (wfIt rs n).length → wfIt rs (n + 1) = wfIt rs n) := by
  have := (wfIt_isP (rs := rs) n).len (wfIt_isP (n + 1)) (wfIt_sub hw hc n)
  exact ⟨this.1, fun e => (this.2 e.symm).symm⟩
theorem wfIt_stay {n : Nat} (h : wfIt rs (n + 1) = wfIt rs n) : ∀ k, wfIt rs (n + k) = wfIt rs n
  | 0 => rfl
  | k + 1 => by
    have ih := wfIt_stay h k
    show leastL rs (leastL rs (wfIt rs (n + k)) false) false = _
    rw [ih]
    exact h
theorem wfIt_end {n : Nat} (hn : n ≤ 13) (h : wfIt rs (n + 1) = wfIt rs n) : wfIt rs n = wfT rs := by
  have h2 := wfIt_stay h (13 - n)
  rw [show n + (13 - n) = 13 by omega] at h2
  exact h2.symm
/-- A round that changes something makes it longer. -/
theorem wfIt_more (hw : Wts rs) (hc : ∀ r ∈ rs, r.choice = false) {n : Nat} (hn : n ≤ (wfIt rs n).length) (h : wfIt rs (n + 1) ≠ wfIt rs n) : n + 1 ≤ (wfIt rs (n + 1)).length ∧ (wfIt rs n).length < (wfIt rs (n + 1)).length := by
  obtain ⟨h1, h2⟩ := wfIt_len hw hc n
  have : (wfIt rs (n + 1)).length ≠ (wfIt rs n).length := fun e => h (h2 e)
  omega
theorem wfIt_grow (hw : Wts rs) (hc : ∀ r ∈ rs, r.choice = false) : ∀ n, n ≤ (wfIt rs n).length ∨ wfIt rs (n + 1) = wfIt rs n
  | 0 => .inl (Nat.zero_le _)
  | n + 1 => by
    rcases wfIt_grow hw hc n with h | h
    · by_cases e : wfIt rs (n + 1) = wfIt rs n
      · exact .inr ((wfIt_stay e 2).trans (wfIt_stay e 1).symm)
      · exact .inl (wfIt_more hw hc h e).1
    · exact .inr ((wfIt_stay h 2).trans (wfIt_stay h 1).symm)
/-- A round more changes nothing. -/
theorem wfT_fix (hw : Wts rs) (hc : ∀ r ∈ rs, r.choice = false) : leastL rs (wfF rs) false = wfT rs := by
  rcases wfIt_grow hw hc 13 with h | h
  · have := (wfIt_isP (rs := rs) 13).le
    omega
  · exact h
theorem wfT_isP : IsP (wfT rs) := wfIt_isP 13
theorem wfF_isP : IsP (wfF rs) := least_isP
end
def wfTR (p : ProgD) : List Int := if plainB p then wfT (foldD p).rules else []
def wfFR (p : ProgD) : List Int := if plainB p then wfF (foldD p).rules else []
theorem wfTR_no {p : ProgD} (h : plainB p = false) : wfTR p = [] := by simp [wfTR, h]
theorem wfTR_yes {p : ProgD} (h : plainB p = true) : wfTR p = wfT (foldD p).rules := by simp [wfTR, h]
theorem wfFR_no {p : ProgD} (h : plainB p = false) : wfFR p = [] := by simp [wfFR, h]
theorem wfFR_yes {p : ProgD} (h : plainB p = true) : wfFR p = wfF (foldD p).rules := by simp [wfFR, h]
theorem wfTR_len (p : ProgD) : (wfTR p).length ≤ 12 := by
  unfold wfTR; split
  · exact wfT_isP.le
  · simp
theorem wfFR_len (p : ProgD) : (wfFR p).length ≤ 12 := by
  unfold wfFR; split
  · exact wfF_isP.le
  · simp
def setlB (p : ProgD) : Bool := plainB p && decide (wfTR p = wfFR p)
theorem setlB_no {p : ProgD} (h : plainB p = false) : setlB p = false := by simp only [setlB, h, Bool.false_and]
theorem setlB_yes {p : ProgD} (h : plainB p = true) : setlB p = decide (wfT (foldD p).rules = wfF (foldD p).rules) := by simp only [setlB, h, Bool.true_and, wfTR_yes h, wfFR_yes h]

/-- A literal for which a rule goes; one that is left out. -/
def goesL (t f : List Int) (q : Int × Int) : Bool := (decide (0 < q.1) && !hasB f q.1) || (decide (q.1 < 0) && hasB t (-q.1))
def leftL (t f : List Int) (q : Int × Int) : Bool := (decide (0 < q.1) && hasB t q.1) || (decide (q.1 < 0) && !hasB f (-q.1))
def bodyTo (t f : List Int) (b : List (Int × Int)) : Nat → List (Int × Int)
  | 0 => []
  | k + 1 => if goesL t f (nth b k) || leftL t f (nth b k) then bodyTo t f b k else bodyTo t f b k ++ [nth b k]
theorem bodyTo_out {t f : List Int} {b : List (Int × Int)} {k : Nat} (h : (goesL t f (nth b k) || leftL t f (nth b k)) = true) : bodyTo t f b (k + 1) = bodyTo t f b k := if_pos h
theorem bodyTo_in {t f : List Int} {b : List (Int × Int)} {k : Nat} (h : (goesL t f (nth b k) || leftL t f (nth b k)) = false) : bodyTo t f b (k + 1) = bodyTo t f b k ++ [nth b k] := by
  show (if (goesL t f (nth b k) || leftL t f (nth b k)) = true then _ else _) = _
  rw [h]; rfl
theorem bodyTo_len (t f : List Int) (b : List (Int × Int)) : ∀ k, (bodyTo t f b k).length ≤ k
  | 0 => by simp [bodyTo]
  | k + 1 => by
    have := bodyTo_len t f b k
    unfold bodyTo; split <;> simp <;> omega
def goesTo (t f : List Int) (b : List (Int × Int)) : Nat → Bool
  | 0 => false
  | k + 1 => goesTo t f b k || goesL t f (nth b k)
theorem goesTo_up {t f : List Int} {b : List (Int × Int)} {k : Nat} (h : goesTo t f b k = true) : ∀ n, goesTo t f b (k + n) = true
  | 0 => h
  | n + 1 => by show (goesTo t f b (k + n) || _) = true; rw [goesTo_up h n]; rfl
/-- Does a rule stay, and what is left of it? -/
def cutB (t f : List Int) (r : RuleD) : Bool := r.weight || !goesTo t f r.body r.body.length
def cutR (t f : List Int) (r : RuleD) : RuleD := if r.weight then r else { r with body := bodyTo t f r.body r.body.length }
theorem cutB_w {t f : List Int} {r : RuleD} (h : r.weight = true) : cutB t f r = true := by simp [cutB, h]
theorem cutR_w {t f : List Int} {r : RuleD} (h : r.weight = true) : cutR t f r = r := by simp [cutR, h]
theorem cutB_n {t f : List Int} {r : RuleD} (h : r.weight = false) : cutB t f r = !goesTo t f r.body r.body.length := by simp [cutB, h]
theorem cutR_n {t f : List Int} {r : RuleD} (h : r.weight = false) : cutR t f r = { r with body := bodyTo t f r.body r.body.length } := by simp [cutR, h]
theorem cutB_go {t f : List Int} {r : RuleD} {k : Nat} (h : r.weight = false) (hk : k ≤ r.body.length) (hg : goesTo t f r.body k = true) : cutB t f r = false := by
  rw [cutB_n h]
  have := goesTo_up hg (r.body.length - k)
  rw [show k + (r.body.length - k) = r.body.length by omega] at this
  rw [this]; rfl
def cutTo (t f : List Int) (rs : List RuleD) : Nat → List RuleD
  | 0 => []
  | k + 1 => if cutB t f (nth rs k) then cutTo t f rs k ++ [cutR t f (nth rs k)] else cutTo t f rs k
theorem cutTo_yes {t f : List Int} {rs : List RuleD} {k : Nat} (h : cutB t f (nth rs k) = true) : cutTo t f rs (k + 1) = cutTo t f rs k ++ [cutR t f (nth rs k)] := if_pos h
theorem cutTo_no {t f : List Int} {rs : List RuleD} {k : Nat} (h : cutB t f (nth rs k) = false) : cutTo t f rs (k + 1) = cutTo t f rs k := by
  show (if cutB t f (nth rs k) = true then _ else _) = _
  rw [h]; rfl
theorem cutTo_len (t f : List Int) (rs : List RuleD) : ∀ k, (cutTo t f rs k).length ≤ k
  | 0 => by simp [cutTo]
  | k + 1 => by
    have := cutTo_len t f rs k
    unfold cutTo; split <;> simp <;> omega
theorem cutTo_mem {t f : List Int} {rs : List RuleD} {r : RuleD} : ∀ {k : Nat}, k ≤ rs.length → r ∈ cutTo t f rs k → ∃ x, x ∈ rs ∧ r = cutR t f x
  | 0, _, h => by simp [cutTo] at h
  | k + 1, hk, h => by
    unfold cutTo at h
    split at h
    · rcases List.mem_append.1 h with h | h
      · exact cutTo_mem (by omega) h
      · exact ⟨_, nth_mem (by omega), List.mem_singleton.1 h⟩
    · exact cutTo_mem (by omega) h
theorem cutR_len (t f : List Int) (r : RuleD) : (cutR t f r).heads.length = r.heads.length ∧ (cutR t f r).body.length ≤ r.body.length := by
  unfold cutR; split
  · exact ⟨rfl, Nat.le_refl _⟩
  · exact ⟨rfl, bodyTo_len _ _ _ _⟩
def cutD (q : ProgD) : ProgD := { q with rules := cutTo (wfT q.rules) (wfF q.rules) q.rules q.rules.length }
def cutP (p : ProgD) : ProgD := if plainB p then cutD (foldD p) else default
theorem cutP_no {p : ProgD} (h : plainB p = false) : cutP p = default := by simp [cutP, h]
theorem cutP_yes {p : ProgD} (h : plainB p = true) : cutP p = cutD (foldD p) := by simp [cutP, h]

end Go.Proofs.YtfjcmnnddhomjaaGreat
