/-
  Support and unfounded sets: pure. No condition of its own.
-/
import Derived.Test.YtjainjpcpnoikaaAnsD
import Derived.Test.YtjainjpcpnoikaaMadeD
namespace Go.Proofs.Ytjainjpcpnoikaa
set_option linter.unusedVariables false
set_option linter.unusedSimpArgs false
open Go.RowKit
set_option maxRecDepth 100000

/-- The number of the heads of the first k rules whose body holds where what is above 0 is asked of xs, what is below 0 of ys. -/
def supM (rs : List RuleD) (xs ys : List Int) : Nat → Nat
  | 0 => 0
  | k + 1 => if reachB (nth rs k) (h2B xs ys) then supM rs xs ys k ||| maskOf (nth rs k).heads else supM rs xs ys k
section
variable {rs : List RuleD} {xs ys : List Int}
theorem supM_yes {k : Nat} (h : reachB (nth rs k) (h2B xs ys) = true) : supM rs xs ys (k + 1) = supM rs xs ys k ||| maskOf (nth rs k).heads := if_pos h
theorem supM_no {k : Nat} (h : reachB (nth rs k) (h2B xs ys) = false) : supM rs xs ys (k + 1) = supM rs xs ys k := by
  show (if reachB (nth rs k) (h2B xs ys) = true then _ else _) = _
  rw [h]; rfl
theorem supM_lt : ∀ k, supM rs xs ys k < 4096
  | 0 => by simp [supM]
  | k + 1 => by
    cases h : reachB (nth rs k) (h2B xs ys)
    · rw [supM_no h]; exact supM_lt k
    · rw [supM_yes h]; exact Nat.or_lt_two_pow (n := 12) (supM_lt k) (maskOf_lt _)
theorem hasM_zero (a : Int) : hasM 0 a = false := by simp [hasM]
theorem hasM_sup {a : Int} (h : 1 ≤ a ∧ a ≤ 12) : ∀ k, hasM (supM rs xs ys k) a = true ↔ ∃ i, i < k ∧ reachB (nth rs i) (h2B xs ys) = true ∧ hasB (nth rs i).heads a = true
  | 0 => by
    show hasM 0 a = true ↔ _
    rw [hasM_zero]
    constructor
    · intro h; cases h
    · rintro ⟨i, hi, _⟩; omega
  | k + 1 => by
    have ih := hasM_sup h k
    cases hr : reachB (nth rs k) (h2B xs ys)
    · rw [supM_no hr, ih]
      constructor
      · rintro ⟨i, hi, hh⟩; exact ⟨i, by omega, hh⟩
      · rintro ⟨i, hi, h1, h2⟩
        rcases Nat.lt_or_ge i k with hik | hik
        · exact ⟨i, hik, h1, h2⟩
        · obtain rfl : i = k := by omega
          rw [hr] at h1; cases h1
    · rw [supM_yes hr, hasM_or h, Bool.or_eq_true, ih, hasM_maskOf _ _ h]
      constructor
      · rintro (⟨i, hi, hh⟩ | hh)
        · exact ⟨i, by omega, hh⟩
        · exact ⟨k, by omega, hr, hh⟩
      · rintro ⟨i, hi, h1, h2⟩
        rcases Nat.lt_or_ge i k with hik | hik
        · exact .inl ⟨i, hik, h1, h2⟩
        · obtain rfl : i = k := by omega
          exact .inr h2
/-- The heads of the first k rules whose body holds, one list behind the other. -/
def hdsTo (rs : List RuleD) (xs : List Int) : Nat → List Int
  | 0 => []
  | k + 1 => if bodyHoldsB (nth rs k) xs then hdsTo rs xs k ++ (nth rs k).heads else hdsTo rs xs k
theorem hdsTo_yes {k : Nat} (h : bodyHoldsB (nth rs k) xs = true) : hdsTo rs xs (k + 1) = hdsTo rs xs k ++ (nth rs k).heads := if_pos h
theorem hdsTo_no {k : Nat} (h : bodyHoldsB (nth rs k) xs = false) : hdsTo rs xs (k + 1) = hdsTo rs xs k := by
  show (if bodyHoldsB (nth rs k) xs = true then _ else _) = _
  rw [h]; rfl
theorem hdsTo_len (hh : ∀ r ∈ rs, r.heads.length ≤ 12) : ∀ k, k ≤ rs.length → (hdsTo rs xs k).length ≤ 12 * k
  | 0, _ => by simp [hdsTo]
  | k + 1, hk => by
    have ih := hdsTo_len hh k (by omega)
    have hm := hh _ (nth_mem (xs := rs) (k := k) (by omega))
    cases h : bodyHoldsB (nth rs k) xs
    · rw [hdsTo_no h]; omega
    · rw [hdsTo_yes h, List.length_append]; omega
theorem hasB_append (s t : List Int) (a : Int) : hasB (s ++ t) a = (hasB s a || hasB t a) := by
  unfold hasB
  rw [Bool.eq_iff_iff, Bool.or_eq_true, decide_eq_true_eq, decide_eq_true_eq, decide_eq_true_eq, List.mem_append]
theorem hdsTo_has {a : Int} (h : 1 ≤ a ∧ a ≤ 12) (hok : ∀ r ∈ rs, ruleOkB r 12 = true) : ∀ k, k ≤ rs.length → hasB (hdsTo rs xs k) a = hasM (supM rs xs xs k) a
  | 0, _ => by
    show hasB [] a = hasM 0 a
    rw [hasB_nil, hasM_zero]
  | k + 1, hk => by
    have ih := hdsTo_has h hok k (by omega)
    have hr := hok _ (nth_mem (xs := rs) (k := k) (by omega))
    have e : bodyHoldsB (nth rs k) xs = reachB (nth rs k) (h2B xs xs) := by rw [bodyHoldsB_yes hr, reach_same]
    cases hb : bodyHoldsB (nth rs k) xs
    · rw [hdsTo_no hb, supM_no (by rw [← e, hb]), ih]
    · rw [hdsTo_yes hb, supM_yes (by rw [← e, hb]), hasB_append, hasM_or h, hasM_maskOf _ _ h, ih]
end

/-- Is the folded program such that each atom that stands in xs is a head of a rule whose body holds? -/
def supQ (q : ProgD) (xs : List Int) : Bool := inM (maskOf xs) (supM q.rules xs xs q.rules.length)
def supB (p : ProgD) (xs : List Int) : Bool := foldB p && supQ (foldD p) xs
theorem supB_no {p : ProgD} {xs : List Int} (h : foldB p = false) : supB p xs = false := by simp only [supB, h, Bool.false_and]
theorem supB_yes {p : ProgD} {xs : List Int} (h : foldB p = true) : supB p xs = supQ (foldD p) xs := by simp only [supB, h, Bool.true_and]
/-- As the model asks it, of one number. -/
def atomHd (q : ProgD) (xs : List Int) (a : Int) : Bool := !(btwB a 1 12) || hasB (hdsTo q.rules xs q.rules.length) a
theorem supQ_all {q : ProgD} {xs : List Int} (hok : ∀ r ∈ q.rules, ruleOkB r 12 = true) : xs.all (atomHd q xs) = supQ q xs := by
  unfold supQ
  rw [Bool.eq_iff_iff, List.all_eq_true, inM_iff (maskOf_lt xs) (supM_lt _)]
  constructor
  · intro h a h1 h2 ha
    rw [hasM_maskOf _ _ ⟨h1, h2⟩] at ha
    have hm : a ∈ xs := by simpa [hasB] using ha
    have := h a hm
    unfold atomHd at this
    rw [hdsTo_has ⟨h1, h2⟩ hok _ (Nat.le_refl _)] at this
    have hb : btwB a 1 12 = true := decide_eq_true ⟨h1, h2⟩
    rw [hb] at this
    exact this
  · intro h a ha
    unfold atomHd
    cases hb : btwB a 1 12
    · rfl
    · have h12 : 1 ≤ a ∧ a ≤ 12 := of_decide_eq_true hb
      rw [hdsTo_has h12 hok _ (Nat.le_refl _)]
      exact h a h12.1 h12.2 (by rw [hasM_maskOf _ _ h12]; simpa [hasB] using ha)

/-- The list of the atoms of xs that are not in us. -/
def lessL (xs us : List Int) : List Int := pickTo (pickL xs us) 12
theorem lessL_mask (xs us : List Int) : maskOf xs &&& (65535 - maskOf us) = maskOf (lessL xs us) := by
  have h : maskOf xs &&& (65535 - maskOf us) < 4096 := Nat.lt_of_le_of_lt Nat.and_le_left (maskOf_lt xs)
  unfold lessL
  rw [← less_same, ← mask_mset h]
  unfold mset
  rw [show hasM (maskOf (pickTo (hasM (maskOf xs &&& (65535 - maskOf us))) 12)) = hasM (maskOf (mset (maskOf xs &&& (65535 - maskOf us)))) from rfl, mask_mset h]
/-- Is it no rule that gives one of us? -/
def noneB (xs us : List Int) (r : RuleD) : Bool := ((pickTo (pickM r.heads us) 12).length : Int) == 0 || !reachB r (h2B (lessL xs us) xs)
/-- Is us unfounded? -/
def isUnfQ (q : ProgD) (xs us : List Int) : Bool := setOkB us q.atoms && !((us.length : Int) == 0) && q.rules.all (noneB xs us)
def isUnfB (p : ProgD) (xs us : List Int) : Bool := foldB p && isUnfQ (foldD p) xs us
theorem isUnfB_no {p : ProgD} {xs us : List Int} (h : foldB p = false) : isUnfB p xs us = false := by simp only [isUnfB, h, Bool.false_and]
theorem isUnfB_yes {p : ProgD} {xs us : List Int} (h : foldB p = true) : isUnfB p xs us = isUnfQ (foldD p) xs us := by simp only [isUnfB, h, Bool.true_and]
theorem isUnfQ_A {q : ProgD} {xs us : List Int} (h : setOkB us q.atoms = false) : isUnfQ q xs us = false := by simp only [isUnfQ, h, Bool.false_and]
theorem isUnfQ_B {q : ProgD} {xs us : List Int} (h : us.length = 0) : isUnfQ q xs us = false := by simp [isUnfQ, h]
theorem isUnfQ_C {q : ProgD} {xs us : List Int} (h1 : setOkB us q.atoms = true) (h2 : us.length ≠ 0) : isUnfQ q xs us = q.rules.all (noneB xs us) := by
  unfold isUnfQ
  rw [h1, show (((us.length : Int) == 0) = false) by simpa using h2]
  rfl
/-- As the program asks it: what the heads of the rules have in common with us. -/
theorem none_all {rs : List RuleD} {xs us : List Int} : decide (((maskOf us &&& supM rs (lessL xs us) xs rs.length : Nat) : Int) = 0) = rs.all (noneB xs us) := by
  have hlt : maskOf us &&& supM rs (lessL xs us) xs rs.length < 4096 := Nat.lt_of_le_of_lt Nat.and_le_left (maskOf_lt us)
  rw [Bool.eq_iff_iff, decide_eq_true_eq, List.all_eq_true]
  constructor
  · intro h r hr
    obtain ⟨i, hi, rfl⟩ := List.getElem_of_mem hr
    rw [← nth_eq hi]
    unfold noneB
    cases hre : reachB (nth rs i) (h2B (lessL xs us) xs)
    · simp
    · have : pickTo (pickM (nth rs i).heads us) 12 = [] := by
        rw [List.eq_nil_iff_forall_not_mem]
        intro a ha
        obtain ⟨h1, h2, h3⟩ := (mem_pickTo _ a 12).1 ha
        have h2' : a ≤ 12 := by omega
        have h4 : hasB (pickTo (pickM (nth rs i).heads us) 12) a = true := by rw [hasB_pickTo ⟨h1, h2'⟩]; exact h3
        rw [hasB_meet ⟨h1, h2'⟩, Bool.and_eq_true] at h4
        have h5 : hasM (maskOf us &&& supM rs (lessL xs us) xs rs.length) a = true := by
          rw [hasM_and ⟨h1, h2'⟩, hasM_maskOf _ _ ⟨h1, h2'⟩, h4.2, Bool.true_and]
          exact (hasM_sup ⟨h1, h2'⟩ _).2 ⟨i, hi, hre, h4.1⟩
        have h0 : maskOf us &&& supM rs (lessL xs us) xs rs.length = 0 := by omega
        rw [h0, hasM_zero] at h5
        cases h5
      rw [this]; rfl
  · intro h
    have : maskOf us &&& supM rs (lessL xs us) xs rs.length = 0 := by
      refine zero_of_bits hlt fun a h1 h2 => ?_
      rw [hasM_and ⟨h1, h2⟩, hasM_maskOf _ _ ⟨h1, h2⟩]
      cases hu : hasB us a
      · rfl
      · cases hs : hasM (supM rs (lessL xs us) xs rs.length) a
        · rfl
        · exfalso
          obtain ⟨i, hi, hre, hh⟩ := (hasM_sup ⟨h1, h2⟩ _).1 hs
          have hn := h _ (nth_mem hi)
          unfold noneB at hn
          rw [hre] at hn
          have h3 : hasB (pickTo (pickM (nth rs i).heads us) 12) a = true := by rw [hasB_meet ⟨h1, h2⟩, hh, hu]; rfl
          have h4 : pickTo (pickM (nth rs i).heads us) 12 = [] := by
            rw [← List.length_eq_zero_iff]
            simp at hn
            simp [hn]
          rw [h4, hasB_nil] at h3
          cases h3
    omega

/-- The atoms of xs up to n. -/
def withinL (n : Nat) (xs : List Int) : List Int := pickTo (hasB xs) n
def unfQ (q : ProgD) (xs : List Int) : List Int := lessL (withinL q.atoms.toNat xs) (leastL q.rules xs true)
def unfR (p : ProgD) (xs : List Int) : List Int := if foldB p then unfQ (foldD p) xs else []
theorem unfR_no {p : ProgD} {xs : List Int} (h : foldB p = false) : unfR p xs = [] := by simp [unfR, h]
theorem unfR_yes {p : ProgD} {xs : List Int} (h : foldB p = true) : unfR p xs = unfQ (foldD p) xs := by simp [unfR, h]
theorem lessL_len (xs us : List Int) : (lessL xs us).length ≤ 12 := pickTo_len _ _
theorem unfR_len (p : ProgD) (xs : List Int) : (unfR p xs).length ≤ 12 := by
  unfold unfR; split
  · exact lessL_len _ _
  · simp
theorem hasB_pickTo_n (f : Int → Bool) (n : Nat) (a : Int) : hasB (pickTo f n) a = (decide (1 ≤ a ∧ a ≤ n) && f a) := by
  unfold hasB
  rw [Bool.eq_iff_iff, Bool.and_eq_true, decide_eq_true_eq, decide_eq_true_eq, mem_pickTo]
  constructor
  · rintro ⟨h1, h2, h3⟩; exact ⟨⟨h1, h2⟩, h3⟩
  · rintro ⟨⟨h1, h2⟩, h3⟩; exact ⟨h1, h2, h3⟩
theorem hasM_upTo {n : Nat} {x : Int} (h : 1 ≤ x ∧ x ≤ 12) : hasM (2 ^ n - 1) x = decide (x ≤ n) := by
  rw [hasM_bit _ _ h, Nat.testBit_two_pow_sub_one, decide_eq_decide]
  omega
/-- As the program makes it. -/
theorem unf_mask {n m : Nat} {xs L : List Int} (hn : n ≤ 12) (hm : m < 4096) (hl : mset m = L) :
    (maskOf xs &&& (2 ^ n - 1)) &&& (65535 - m) < 4096 ∧ mset ((maskOf xs &&& (2 ^ n - 1)) &&& (65535 - m)) = lessL (withinL n xs) L := by
  have hlt : (maskOf xs &&& (2 ^ n - 1)) &&& (65535 - m) < 4096 := Nat.lt_of_le_of_lt (Nat.le_trans Nat.and_le_left Nat.and_le_left) (maskOf_lt xs)
  refine ⟨hlt, ?_⟩
  have hp : 2 ^ n - 1 < 4096 := by
    have : 2 ^ n ≤ 2 ^ 12 := Nat.pow_le_pow_right (by omega) hn
    omega
  have h1 : maskOf xs &&& (2 ^ n - 1) = maskOf (withinL n xs) := by
    rw [← mask_mset (m := maskOf xs &&& (2 ^ n - 1)) (Nat.lt_of_le_of_lt Nat.and_le_left (maskOf_lt xs))]
    congr 1
    refine (mset_isP _).eq (t := withinL n xs) ?_ ?_ ?_
    · unfold IsP withinL
      have : ∀ j, pickTo (hasB xs) n = pickTo (fun a => decide (1 ≤ a ∧ a ≤ n) && hasB xs a) (n + j) := by
        intro j
        induction j with
        | zero => exact pickTo_congr fun a a1 a2 => by rw [show decide (1 ≤ a ∧ a ≤ (n : Int)) = true from decide_eq_true ⟨a1, by omega⟩, Bool.true_and]
        | succ j ih =>
          rw [ih, show n + (j + 1) = (n + j) + 1 by omega]
          exact (pickTo_no (by rw [show decide (1 ≤ (((n + j : Nat) : Int) + 1) ∧ (((n + j : Nat) : Int) + 1) ≤ (n : Int)) = false from decide_eq_false (by omega), Bool.false_and])).symm
      have h12 := this (12 - n)
      rw [show n + (12 - n) = 12 by omega] at h12
      rw [h12]
      exact isP_pick _
    · intro a a1 a2 ha
      rw [hasB_mset ⟨a1, a2⟩, hasM_and ⟨a1, a2⟩, hasM_maskOf _ _ ⟨a1, a2⟩, hasM_upTo ⟨a1, a2⟩, Bool.and_eq_true, decide_eq_true_eq] at ha
      unfold withinL
      rw [hasB_pickTo_n, decide_eq_true ⟨a1, ha.2⟩, Bool.true_and]
      exact ha.1
    · intro a a1 a2 ha
      unfold withinL at ha
      rw [hasB_pickTo_n, Bool.and_eq_true, decide_eq_true_eq] at ha
      rw [hasB_mset ⟨a1, a2⟩, hasM_and ⟨a1, a2⟩, hasM_maskOf _ _ ⟨a1, a2⟩, hasM_upTo ⟨a1, a2⟩, ha.2, Bool.true_and]
      exact decide_eq_true ha.1.2
  rw [h1, ← hl]
  have h3 := less_same (withinL n xs) (mset m)
  rw [show maskOf (mset m) = m from mask_mset hm] at h3
  exact h3

/-- The numbers of the rules that break, of the first k. -/
def brkTo (rs : List RuleD) (xs : List Int) : Nat → List Int
  | 0 => []
  | k + 1 => if ruleHoldsB xs (nth rs k) then brkTo rs xs k else brkTo rs xs k ++ [(k : Int)]
theorem brkTo_ok {rs : List RuleD} {xs : List Int} {k : Nat} (h : ruleHoldsB xs (nth rs k) = true) : brkTo rs xs (k + 1) = brkTo rs xs k := if_pos h
theorem brkTo_no {rs : List RuleD} {xs : List Int} {k : Nat} (h : ruleHoldsB xs (nth rs k) = false) : brkTo rs xs (k + 1) = brkTo rs xs k ++ [(k : Int)] := by
  show (if ruleHoldsB xs (nth rs k) = true then _ else _) = _
  rw [h]; rfl
theorem brkTo_len (rs : List RuleD) (xs : List Int) : ∀ k, (brkTo rs xs k).length ≤ k
  | 0 => by simp [brkTo]
  | k + 1 => by
    have ih := brkTo_len rs xs k
    cases h : ruleHoldsB xs (nth rs k)
    · rw [brkTo_no h, List.length_append, List.length_singleton]; omega
    · rw [brkTo_ok h]; omega
def brkR (p : ProgD) (xs : List Int) : List Int := if foldB p then brkTo (foldD p).rules xs (foldD p).rules.length else []
theorem brkR_no {p : ProgD} {xs : List Int} (h : foldB p = false) : brkR p xs = [] := by simp [brkR, h]
theorem brkR_yes {p : ProgD} {xs : List Int} (h : foldB p = true) : brkR p xs = brkTo (foldD p).rules xs (foldD p).rules.length := by simp [brkR, h]
theorem brkR_len (p : ProgD) (xs : List Int) : (brkR p xs).length ≤ 60 := by
  cases h : foldB p
  · rw [brkR_no h]; simp
  · rw [brkR_yes h]
    exact Nat.le_trans (brkTo_len _ _ _) (progOk_rules (foldR_ok h)).1

end Go.Proofs.Ytjainjpcpnoikaa
