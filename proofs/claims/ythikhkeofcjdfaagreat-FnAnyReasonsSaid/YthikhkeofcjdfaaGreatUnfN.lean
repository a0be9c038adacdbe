/-
 What is unfounded: what is so of it, and what the program answers. No condition of its own.
-/
import Derived.Test.YthikhkeofcjdfaaGreatAnsD
import Derived.Test.YthikhkeofcjdfaaGreatMak
import Derived.Test.YthikhkeofcjdfaaGreatAnsJ
import Derived.Test.YthikhkeofcjdfaaGreatSeq
import Derived.Test.YthikhkeofcjdfaaGreatCg
import Derived.Deep.RegionHeld3
import Derived.Deep.DeepCutAuto
import Derived.Test.YthikhkeofcjdfaaGreatModel
import Derived.Test.YthikhkeofcjdfaaGreatBody
import Derived.Test.YthikhkeofcjdfaaGreatSetsPure
namespace Go.Proofs.YthikhkeofcjdfaaGreat
set_option linter.unusedVariables false
set_option linter.unusedSimpArgs false
open Go.RowKit
set_option maxRecDepth 100000

/-! ### Unf -/
/-! ### SupD -/
/-- The number of the heads of the first k rules whose body holds where what is above 0 is asked of xs, what is below 0 of ys. -/
def supM (rs : List RuleD) (xs ys : List Int) : Nat → Nat
 | 0 => 0
 | k + 1 => if reachB (nth rs k) (h2B xs ys) then supM rs xs ys k ||| maskOf (nth rs k).heads else supM rs xs ys k
section
variable {rs : List RuleD} {xs ys : List Int}
theorem supM_yes {k : Nat} (h : reachB (nth rs k) (h2B xs ys) = true) : supM rs xs ys (k + 1) = supM rs xs ys k ||| maskOf (nth rs k).heads := if_pos h
theorem supM_no {k : Nat} (h : reachB (nth rs k) (h2B xs ys) = false) : supM rs xs ys (k + 1) = supM rs xs ys k := by
 show (if reachB (nth rs k) (h2B xs ys) = true then _ else _) = _
 rw [h]; rfl
theorem supM_lt : ∀ k, supM rs xs ys k < 4096
 | 0 => by simp [supM]
 | k + 1 => by
  cases h : reachB (nth rs k) (h2B xs ys)
  ·rw [supM_no h]; exact supM_lt k
  ·rw [supM_yes h]; exact Nat.or_lt_two_pow (n := 12) (supM_lt k) (maskOf_lt _)
theorem hasM_zero (a : Int) : hasM 0 a = false := by simp [hasM]
theorem hasM_sup {a : Int} (h : 1 ≤ a ∧ a ≤ 12) : ∀ k, hasM (supM rs xs ys k) a = true ↔ ∃ i, i < k ∧ reachB (nth rs i) (h2B xs ys) = true ∧ hasB (nth rs i).heads a = true
 | 0 => by
  show hasM 0 a = true ↔ _
  rw [hasM_zero]
  constructor
  ·intro h; cases h
  ·rintro ⟨i, hi, _⟩; omega
 | k + 1 => by
  have ih := hasM_sup h k
  cases hr : reachB (nth rs k) (h2B xs ys)
  ·rw [supM_no hr, ih]
   constructor
   ·rintro ⟨i, hi, hh⟩; exact ⟨i, by omega, hh⟩
   ·rintro ⟨i, hi, h1, h2⟩
    rcases Nat.lt_or_ge i k with hik | hik
    ·exact ⟨i, hik, h1, h2⟩
    ·obtain rfl : i = k := by omega
     rw [hr] at h1; cases h1
  ·rw [supM_yes hr, hasM_or h, Bool.or_eq_true, ih, hasM_maskOf _ _ h]
   constructor
   ·rintro (⟨i, hi, hh⟩ | hh)
    ·exact ⟨i, by omega, hh⟩
    ·exact ⟨k, by omega, hr, hh⟩
   ·rintro ⟨i, hi, h1, h2⟩
    rcases Nat.lt_or_ge i k with hik | hik
    ·exact .inl ⟨i, hik, h1, h2⟩
    ·obtain rfl : i = k := by omega
     exact .inr h2
/-- The heads of the first k rules whose body holds, one list behind the other. -/
def hdsTo (rs : List RuleD) (xs : List Int) : Nat → List Int
 | 0 => []
 | k + 1 => if bodyHoldsB (nth rs k) xs then hdsTo rs xs k ++ (nth rs k).heads else hdsTo rs xs k
theorem hdsTo_yes {k : Nat} (h : bodyHoldsB (nth rs k) xs = true) : hdsTo rs xs (k + 1) = hdsTo rs xs k ++ (nth rs k).heads := if_pos h
theorem hdsTo_no {k : Nat} (h : bodyHoldsB (nth rs k) xs = false) : hdsTo rs xs (k + 1) = hdsTo rs xs k := by
 show (if bodyHoldsB (nth rs k) xs = true then _ else _) = _
 rw [h]; rfl
theorem hdsTo_len (hh : ∀ r ∈ rs, r.heads.length ≤ 12) : ∀ k, k ≤ rs.length → (hdsTo rs xs k).length ≤ 12 * k
 | 0, _ => by simp [hdsTo]
 | k + 1, hk => by
  have ih := hdsTo_len hh k (by omega)
  have hm := hh _ (nth_mem (xs := rs) (k := k) (by omega))
  cases h : bodyHoldsB (nth rs k) xs
  ·rw [hdsTo_no h]; omega
  ·rw [hdsTo_yes h, List.length_append]; omega
theorem hasB_append (s t : List Int) (a : Int) : hasB (s ++ t) a = (hasB s a || hasB t a) := by
 unfold hasB
 rw [Bool.eq_iff_iff, Bool.or_eq_true, decide_eq_true_eq, decide_eq_true_eq, decide_eq_true_eq, List.mem_append]
theorem hdsTo_has {a : Int} (h : 1 ≤ a ∧ a ≤ 12) (hok : ∀ r ∈ rs, ruleOkB r 12 = true) : ∀ k, k ≤ rs.length → hasB (hdsTo rs xs k) a = hasM (supM rs xs xs k) a
 | 0, _ => by
  show hasB [] a = hasM 0 a
  rw [hasB_nil, hasM_zero]
 | k + 1, hk => by
  have ih := hdsTo_has h hok k (by omega)
  have hr := hok _ (nth_mem (xs := rs) (k := k) (by omega))
  have e : bodyHoldsB (nth rs k) xs = reachB (nth rs k) (h2B xs xs) := by rw [bodyHoldsB_yes hr, reach_same]
  cases hb : bodyHoldsB (nth rs k) xs
  ·rw [hdsTo_no hb, supM_no (by rw [← e, hb]), ih]
  ·rw [hdsTo_yes hb, supM_yes (by rw [← e, hb]), hasB_append, hasM_or h, hasM_maskOf _ _ h, ih]
end

/-- Is the folded program such that each atom that stands in xs is a head of a rule whose body holds? -/
def supQ (q : ProgD) (xs : List Int) : Bool := inM (maskOf xs) (supM q.rules xs xs q.rules.length)
def supB (p : ProgD) (xs : List Int) : Bool := foldB p && supQ (foldD p) xs
/-- As the model asks it, of one number. -/
def atomHd (q : ProgD) (xs : List Int) (a : Int) : Bool := !(btwB a 1 12) || hasB (hdsTo q.rules xs q.rules.length) a

/-- The list of the atoms of xs that are not in us. -/
def lessL (xs us : List Int) : List Int := pickTo (pickL xs us) 12
/-- Is it no rule that gives one of us? -/
def noneB (xs us : List Int) (r : RuleD) : Bool := ((pickTo (pickM r.heads us) 12).length : Int) == 0 || !reachB r (h2B (lessL xs us) xs)
/-- Is us unfounded? -/
def isUnfQ (q : ProgD) (xs us : List Int) : Bool := setOkB us q.atoms && !((us.length : Int) == 0) && q.rules.all (noneB xs us)
def isUnfB (p : ProgD) (xs us : List Int) : Bool := foldB p && isUnfQ (foldD p) xs us

/-- The atoms of xs up to n. -/
def withinL (n : Nat) (xs : List Int) : List Int := pickTo (hasB xs) n
def unfQ (q : ProgD) (xs : List Int) : List Int := lessL (withinL q.atoms.toNat xs) (leastL q.rules xs true)
def unfR (p : ProgD) (xs : List Int) : List Int := if foldB p then unfQ (foldD p) xs else []
theorem unfR_no {p : ProgD} {xs : List Int} (h : foldB p = false) : unfR p xs = [] := by simp [unfR, h]
theorem unfR_yes {p : ProgD} {xs : List Int} (h : foldB p = true) : unfR p xs = unfQ (foldD p) xs := by simp [unfR, h]
theorem hasB_pickTo_n (f : Int → Bool) (n : Nat) (a : Int) : hasB (pickTo f n) a = (decide (1 ≤ a ∧ a ≤ n) && f a) := by
 unfold hasB
 rw [Bool.eq_iff_iff, Bool.and_eq_true, decide_eq_true_eq, decide_eq_true_eq, mem_pickTo]
 constructor
 ·rintro ⟨h1, h2, h3⟩; exact ⟨⟨h1, h2⟩, h3⟩
 ·rintro ⟨⟨h1, h2⟩, h3⟩; exact ⟨h1, h2, h3⟩
theorem hasM_upTo {n : Nat} {x : Int} (h : 1 ≤ x ∧ x ≤ 12) : hasM (2 ^ n - 1) x = decide (x ≤ n) := by
 rw [hasM_bit _ _ h, Nat.testBit_two_pow_sub_one, decide_eq_decide]
 omega
/-- As the program makes it. -/
theorem unf_mask {n m : Nat} {xs L : List Int} (hn : n ≤ 12) (hm : m < 4096) (hl : mset m = L) :
  (maskOf xs &&& (2 ^ n - 1)) &&& (65535 - m) < 4096 ∧ mset ((maskOf xs &&& (2 ^ n - 1)) &&& (65535 - m)) = lessL (withinL n xs) L := by
 have hlt : (maskOf xs &&& (2 ^ n - 1)) &&& (65535 - m) < 4096 := Nat.lt_of_le_of_lt (Nat.le_trans Nat.and_le_left Nat.and_le_left) (maskOf_lt xs)
 refine ⟨hlt, ?_⟩
 have hp : 2 ^ n - 1 < 4096 := by
  have : 2 ^ n ≤ 2 ^ 12 := Nat.pow_le_pow_right (by omega) hn
  omega
 have h1 : maskOf xs &&& (2 ^ n - 1) = maskOf (withinL n xs) := by
  rw [← mask_mset (m := maskOf xs &&& (2 ^ n - 1)) (Nat.lt_of_le_of_lt Nat.and_le_left (maskOf_lt xs))]
  congr 1
  refine (mset_isP _).eq (t := withinL n xs) ?_ ?_ ?_
  ·unfold IsP withinL
   have : ∀ j, pickTo (hasB xs) n = pickTo (fun a => decide (1 ≤ a ∧ a ≤ n) && hasB xs a) (n + j) := by
    intro j
    induction j with
    | zero => exact pickTo_congr fun a a1 a2 => by rw [show decide (1 ≤ a ∧ a ≤ (n : Int)) = true from decide_eq_true ⟨a1, by omega⟩, Bool.true_and]
    | succ j ih =>
     rw [ih, show n + (j + 1) = (n + j) + 1 by omega]
     exact (pickTo_no (by rw [show decide (1 ≤ (((n + j : Nat) : Int) + 1) ∧ (((n + j : Nat) : Int) + 1) ≤ (n : Int)) = false from decide_eq_false (by omega), Bool.false_and])).symm
   have h12 := this (12 - n)
   rw [show n + (12 - n) = 12 by omega] at h12
   rw [h12]
   exact isP_pick _
  ·intro a a1 a2 ha
   rw [hasB_mset ⟨a1, a2⟩, hasM_and ⟨a1, a2⟩, hasM_maskOf _ _ ⟨a1, a2⟩, hasM_upTo ⟨a1, a2⟩, Bool.and_eq_true, decide_eq_true_eq] at ha
   unfold withinL
   rw [hasB_pickTo_n, decide_eq_true ⟨a1, ha.2⟩, Bool.true_and]
   exact ha.1
  ·intro a a1 a2 ha
   unfold withinL at ha
   rw [hasB_pickTo_n, Bool.and_eq_true, decide_eq_true_eq] at ha
   rw [hasB_mset ⟨a1, a2⟩, hasM_and ⟨a1, a2⟩, hasM_maskOf _ _ ⟨a1, a2⟩, hasM_upTo ⟨a1, a2⟩, ha.2, Bool.true_and]
   exact decide_eq_true ha.1.2
 rw [h1, ← hl]
 have h3 := less_same (withinL n xs) (mset m)
 rw [show maskOf (mset m) = m from mask_mset hm] at h3
 exact h3

/-- The numbers of the rules that break, of the first k. -/
def brkTo (rs : List RuleD) (xs : List Int) : Nat → List Int
 | 0 => []
 | k + 1 => if ruleHoldsB xs (nth rs k) then brkTo rs xs k else brkTo rs xs k ++ [(k : Int)]
theorem brkTo_ok {rs : List RuleD} {xs : List Int} {k : Nat} (h : ruleHoldsB xs (nth rs k) = true) : brkTo rs xs (k + 1) = brkTo rs xs k := if_pos h
theorem brkTo_no {rs : List RuleD} {xs : List Int} {k : Nat} (h : ruleHoldsB xs (nth rs k) = false) : brkTo rs xs (k + 1) = brkTo rs xs k ++ [(k : Int)] := by
 show (if ruleHoldsB xs (nth rs k) = true then _ else _) = _
 rw [h]; rfl
theorem brkTo_len (rs : List RuleD) (xs : List Int) : ∀ k, (brkTo rs xs k).length ≤ k
 | 0 => by simp [brkTo]
 | k + 1 => by
  have ih := brkTo_len rs xs k
  cases h : ruleHoldsB xs (nth rs k)
  ·rw [brkTo_no h, List.length_append, List.length_singleton]; omega
  ·rw [brkTo_ok h]; omega
def brkR (p : ProgD) (xs : List Int) : List Int := if foldB p then brkTo (foldD p).rules xs (foldD p).rules.length else []

/-! ### WhyD -/
/-- Does the i-th rule give a, where the atoms of ts are there? -/
def givB (rs : List RuleD) (ts xs : List Int) (a : Int) (i : Nat) : Bool := hasB (nth rs i).heads a && reachB (nth rs i) (h2B ts xs)
/-- The least of the first k rules that gives a. -/
def rulTo (rs : List RuleD) (ts xs : List Int) (a : Int) : Nat → Option Nat
 | 0 => none
 | k + 1 => match rulTo rs ts xs a k with
  | some i => some i
  | none => if givB rs ts xs a k then some k else none
def rulF (rs : List RuleD) (ts xs : List Int) (a : Int) : Option Nat := rulTo rs ts xs a rs.length
section
variable {rs : List RuleD} {ts xs : List Int} {a : Int}
theorem rulTo_no {k : Nat} (h : rulTo rs ts xs a k = none) (hg : givB rs ts xs a k = false) : rulTo rs ts xs a (k + 1) = none := by simp [rulTo, h, hg]
theorem rulTo_yes {k : Nat} (h : rulTo rs ts xs a k = none) (hg : givB rs ts xs a k = true) : rulTo rs ts xs a (k + 1) = some k := by simp [rulTo, h, hg]
theorem rulTo_stay {k i : Nat} (h : rulTo rs ts xs a k = some i) : ∀ n, k ≤ n → rulTo rs ts xs a n = some i
 | 0, hn => by
   obtain rfl : k = 0 := by omega
   exact h
 | n + 1, hn => by
  rcases Nat.lt_or_ge n k with hk | hk
  ·obtain rfl : k = n + 1 := by omega
   exact h
  ·simp [rulTo, rulTo_stay h n hk]
theorem rulF_at {k : Nat} (hk : k < rs.length) (h : rulTo rs ts xs a k = none) (hg : givB rs ts xs a k = true) : rulF rs ts xs a = some k := rulTo_stay (rulTo_yes h hg) _ hk
theorem rulTo_lt : ∀ {k i : Nat}, rulTo rs ts xs a k = some i → i < k ∧ givB rs ts xs a i = true
 | 0, _, h => by simp [rulTo] at h
 | k + 1, i, h => by
  cases hr : rulTo rs ts xs a k
  ·cases hg : givB rs ts xs a k
   ·rw [rulTo_no hr hg] at h; cases h
   ·rw [rulTo_yes hr hg] at h
    obtain rfl := Option.some.inj h
    exact ⟨by omega, hg⟩
  ·have := rulTo_stay hr (k + 1) (by omega)
   rw [h] at this
   obtain rfl := Option.some.inj this
   obtain ⟨h1, h2⟩ := rulTo_lt hr
   exact ⟨by omega, h2⟩
end
/-- The number that spec's helper answers: -1 of none. -/
def rulI (o : Option Nat) : Int := match o with | some i => (i : Int) | none => -1

/-- What an atom gives. -/
def nxA (rs : List RuleD) (ts xs : List Int) (a : Int) : Option (Int × Int) := (rulF rs ts xs a).map fun i => (a, (i : Int))
/-- The atoms of a list that are not there. -/
def outL (ts l : List Int) : List Int := l.filter fun a => !hasB ts a
/-- The next Reason, of the first k atoms. -/
def nxTo (rs : List RuleD) (ts xs : List Int) (k : Nat) : Option (Int × Int) := (outL ts (xs.take k)).findSome? (nxA rs ts xs)
def nxt (rs : List RuleD) (ts xs : List Int) : Option (Int × Int) := (outL ts xs).findSome? (nxA rs ts xs)
section
variable {rs : List RuleD} {ts xs : List Int}
theorem nxTo_all {k : Nat} (h : xs.length ≤ k) : nxTo rs ts xs k = nxt rs ts xs := by unfold nxTo nxt; rw [List.take_of_length_le h]
theorem nxTo_succ {k : Nat} (hk : k < xs.length) : nxTo rs ts xs (k + 1) = (nxTo rs ts xs k).or (if hasB ts (el xs k) then none else nxA rs ts xs (el xs k)) := by
 unfold nxTo outL
 rw [take_el hk, List.filter_append, List.findSome?_append]
 congr 1
 cases h : hasB ts (el xs k) <;> simp [h]
theorem nxTo_in {k : Nat} (hk : k < xs.length) (h : nxTo rs ts xs k = none) (hh : hasB ts (el xs k) = true) : nxTo rs ts xs (k + 1) = none := by rw [nxTo_succ hk, h, hh]; rfl
theorem nxTo_no {k : Nat} (hk : k < xs.length) (h : nxTo rs ts xs k = none) (hr : rulF rs ts xs (el xs k) = none) : nxTo rs ts xs (k + 1) = none := by
 rw [nxTo_succ hk, h]
 cases hh : hasB ts (el xs k) <;> simp [nxA, hr]
theorem nxTo_stay {k : Nat} {q : Int × Int} (h : nxTo rs ts xs k = some q) : nxt rs ts xs = some q := by
 unfold nxTo at h
 unfold nxt
 have e : outL ts xs = outL ts (xs.take k) ++ outL ts (xs.drop k) := by unfold outL; rw [← List.filter_append, List.take_append_drop]
 rw [e, List.findSome?_append, h]; rfl
theorem nxTo_yes {k i : Nat} (hk : k < xs.length) (h : nxTo rs ts xs k = none) (hh : hasB ts (el xs k) = false) (hr : rulF rs ts xs (el xs k) = some i) : nxt rs ts xs = some (el xs k, (i : Int)) := by
 refine nxTo_stay (k := k + 1) ?_
 rw [nxTo_succ hk, h, hh]
 simp [nxA, hr]
theorem nxt_mem {q : Int × Int} (h : nxt rs ts xs = some q) : q.1 ∈ xs ∧ hasB ts q.1 = false ∧ 0 ≤ q.2 ∧ q.2.toNat < rs.length ∧ givB rs ts xs q.1 q.2.toNat = true := by
 unfold nxt at h
 obtain ⟨a, ha, hq⟩ := List.exists_of_findSome?_eq_some h
 unfold outL at ha
 rw [List.mem_filter] at ha
 unfold nxA at hq
 cases hr : rulF rs ts xs a
 ·rw [hr] at hq; cases hq
 ·rename_i i
  rw [hr] at hq
  obtain rfl := Option.some.inj hq
  obtain ⟨h1, h2⟩ := rulTo_lt hr
  exact ⟨ha.1, by simpa using ha.2, by show (0 : Int) ≤ (i : Int); omega, by show (i : Int).toNat < _; rw [Int.toNat_natCast]; exact h1, by show givB rs ts xs a (i : Int).toNat = true; rw [Int.toNat_natCast]; exact h2⟩
end
abbrev fsts (l : List (Int × Int)) : List Int := l.map Prod.fst
theorem fsts_snoc (l : List (Int × Int)) (q : Int × Int) : fsts (l ++ [q]) = fsts l ++ [q.1] := by simp [fsts]
theorem fsts_len (l : List (Int × Int)) : (fsts l).length = l.length := by simp [fsts]
theorem nodup_le : ∀ {l m : List Int}, l.Nodup → (∀ a ∈ l, a ∈ m) → l.length ≤ m.length
 | [], _, _, _ => by simp
 | a :: l, m, hn, hs => by
  rw [List.nodup_cons] at hn
  have ha := hs a (List.mem_cons_self ..)
  have ih := nodup_le (l := l) (m := m.erase a) hn.2 fun b hb => by
   have hne : b ≠ a := fun e => by subst e; exact hn.1 hb
   exact (List.mem_erase_of_ne hne).2 (hs b (List.mem_cons_of_mem _ hb))
  rw [List.length_erase_of_mem ha] at ih
  have hp : 0 < m.length := List.length_pos_of_mem ha
  simp only [List.length_cons]
  omega
/-- The Reasons after k turns. -/
def whyK (rs : List RuleD) (xs : List Int) : Nat → List (Int × Int)
 | 0 => []
 | k + 1 => match nxt rs (fsts (whyK rs xs k)) xs with
  | none => whyK rs xs k
  | some q => whyK rs xs k ++ [q]
def whyF (rs : List RuleD) (xs : List Int) : List (Int × Int) := whyK rs xs xs.length
section
variable {rs : List RuleD} {xs : List Int}
theorem whyK_none {k : Nat} (h : nxt rs (fsts (whyK rs xs k)) xs = none) : whyK rs xs (k + 1) = whyK rs xs k := by simp [whyK, h]
theorem whyK_some {k : Nat} {q : Int × Int} (h : nxt rs (fsts (whyK rs xs k)) xs = some q) : whyK rs xs (k + 1) = whyK rs xs k ++ [q] := by simp [whyK, h]
theorem whyK_nodup : ∀ k, (fsts (whyK rs xs k)).Nodup ∧ ∀ q ∈ whyK rs xs k, q.1 ∈ xs ∧ 0 ≤ q.2 ∧ q.2.toNat < rs.length
 | 0 => by simp [whyK, fsts]
 | k + 1 => by
  obtain ⟨h1, h2⟩ := whyK_nodup k
  cases hn : nxt rs (fsts (whyK rs xs k)) xs
  ·rw [whyK_none hn]; exact ⟨h1, h2⟩
  ·rename_i q
   obtain ⟨ha, hb, hc, hd, _⟩ := nxt_mem hn
   rw [whyK_some hn, fsts_snoc]
   refine ⟨?_, fun r hr => ?_⟩
   ·rw [List.nodup_append]
    refine ⟨h1, by simp, fun a h3 b h4 e => ?_⟩
    rw [List.mem_singleton] at h4
    subst e
    subst h4
    exact absurd h3 (of_decide_eq_false hb)
   ·rcases List.mem_append.1 hr with hr | hr
    ·exact h2 r hr
    ·rw [List.mem_singleton.1 hr]; exact ⟨ha, hc, hd⟩
theorem whyK_le (k : Nat) : (whyK rs xs k).length ≤ xs.length := by
 obtain ⟨h1, h2⟩ := whyK_nodup (rs := rs) (xs := xs) k
 have := nodup_le h1 (m := xs) fun a ha => by
  obtain ⟨q, hq, rfl⟩ := List.mem_map.1 ha
  exact (h2 q hq).1
 rwa [fsts_len] at this
theorem whyK_stop {k : Nat} (h : nxt rs (fsts (whyK rs xs k)) xs = none) : ∀ n, k ≤ n → whyK rs xs n = whyK rs xs k
 | 0, hn => by
   obtain rfl : k = 0 := by omega
   rfl
 | n + 1, hn => by
  rcases Nat.lt_or_ge n k with hk | hk
  ·obtain rfl : k = n + 1 := by omega
   rfl
  ·have ih := whyK_stop h n hk
   have h' : nxt rs (fsts (whyK rs xs n)) xs = none := by rw [ih]; exact h
   rw [whyK_none h', ih]
theorem whyF_end {k : Nat} (hl : (whyK rs xs k).length = k) (h : nxt rs (fsts (whyK rs xs k)) xs = none) : whyF rs xs = whyK rs xs k := by
 have := whyK_le (rs := rs) (xs := xs) k
 exact whyK_stop h _ (by omega)
theorem whyK_go {k : Nat} {q : Int × Int} (hl : (whyK rs xs k).length = k) (h : nxt rs (fsts (whyK rs xs k)) xs = some q) : (whyK rs xs (k + 1)).length = k + 1 ∧ k < xs.length := by
 have h1 := whyK_le (rs := rs) (xs := xs) (k + 1)
 rw [whyK_some h, List.length_append, hl] at h1 ⊢
 simp at h1 ⊢
 omega
theorem whyF_le : (whyF rs xs).length ≤ xs.length := whyK_le _
end
/-- Is x a set of the folded program's atoms? -/
def whyB (p : ProgD) (xs : List Int) : Bool := foldB p && setOkB xs (foldD p).atoms
def whyR (p : ProgD) (xs : List Int) : List (Int × Int) := if whyB p xs then whyF (foldD p).rules xs else []
theorem whyB_A {p : ProgD} {xs : List Int} (h : foldB p = false) : whyB p xs = false := by simp only [whyB, h, Bool.false_and]
theorem whyB_B {p : ProgD} {xs : List Int} (h : foldB p = true) : whyB p xs = setOkB xs (foldD p).atoms := by simp only [whyB, h, Bool.true_and]
theorem whyB_fold {p : ProgD} {xs : List Int} (h : whyB p xs = true) : foldB p = true ∧ setOkB xs (foldD p).atoms = true := by simpa only [whyB, Bool.and_eq_true] using h
theorem whyR_no {p : ProgD} {xs : List Int} (h : whyB p xs = false) : whyR p xs = [] := by simp [whyR, h]
theorem whyR_yes {p : ProgD} {xs : List Int} (h : whyB p xs = true) : whyR p xs = whyF (foldD p).rules xs := by simp [whyR, h]
theorem whyB_isP {p : ProgD} {xs : List Int} (h : whyB p xs = true) : IsP xs := progOk_len (whyB_fold h).2 (progOk_atoms (foldR_ok (whyB_fold h).1))
theorem whyR_len (p : ProgD) (xs : List Int) : (whyR p xs).length ≤ 12 := by
 cases h : whyB p xs
 ·rw [whyR_no h]; simp
 ·rw [whyR_yes h]
  exact Nat.le_trans whyF_le (whyB_isP h).le
/-- May a Reason come behind those whose atoms are ts? -/
def alwB (rs : List RuleD) (ts xs : List Int) (q : Int × Int) : Bool := (hasB xs q.1 && !hasB ts q.1) && (btwB q.2 0 ((rs.length : Int) - 1) && givB rs ts xs q.1 q.2.toNat)
theorem alwB_A {rs : List RuleD} {ts xs : List Int} {q : Int × Int} (h : (hasB xs q.1 && !hasB ts q.1) = false) : alwB rs ts xs q = false := by simp only [alwB, h, Bool.false_and]
theorem alwB_B {rs : List RuleD} {ts xs : List Int} {q : Int × Int} (h : btwB q.2 0 ((rs.length : Int) - 1) = false) : alwB rs ts xs q = false := by simp only [alwB, h, Bool.false_and, Bool.and_false]
theorem alwB_C {rs : List RuleD} {ts xs : List Int} {q : Int × Int} (h : (hasB xs q.1 && !hasB ts q.1) = true) (h' : btwB q.2 0 ((rs.length : Int) - 1) = true) : alwB rs ts xs q = givB rs ts xs q.1 q.2.toNat := by simp only [alwB, h, h', Bool.true_and]
/-- Are the first k of the Reasons right? -/
def alwTo (rs : List RuleD) (xs : List Int) (l : List (Int × Int)) : Nat → Bool := toB fun k => alwB rs (fsts (l.take k)) xs (nth l k)
def reaQ (rs : List RuleD) (xs : List Int) (l : List (Int × Int)) : Bool := decide (l.length = xs.length) && alwTo rs xs l l.length
def reaB (p : ProgD) (xs : List Int) (l : List (Int × Int)) : Bool := whyB p xs && reaQ (foldD p).rules xs l
theorem reaB_A {p : ProgD} {xs : List Int} {l : List (Int × Int)} (h : whyB p xs = false) : reaB p xs l = false := by simp only [reaB, h, Bool.false_and]
theorem reaB_B {p : ProgD} {xs : List Int} {l : List (Int × Int)} (h : whyB p xs = true) : reaB p xs l = reaQ (foldD p).rules xs l := by simp only [reaB, h, Bool.true_and]
theorem reaQ_no {rs : List RuleD} {xs : List Int} {l : List (Int × Int)} {k : Nat} (hk : k < l.length) (h : alwB rs (fsts (l.take k)) xs (nth l k) = false) : reaQ rs xs l = false := by
 unfold reaQ alwTo
 rw [toB_no (f := fun k => alwB rs (fsts (l.take k)) xs (nth l k)) h hk, Bool.and_false]
theorem alwTo_step {rs : List RuleD} {xs : List Int} {l : List (Int × Int)} {k : Nat} (h0 : alwTo rs xs l k = true) (h : alwB rs (fsts (l.take k)) xs (nth l k) = true) : alwTo rs xs l (k + 1) = true := toB_yes h0 h
theorem alwTo_nodup {rs : List RuleD} {xs : List Int} {l : List (Int × Int)} : ∀ {k : Nat}, k ≤ l.length → alwTo rs xs l k = true → (fsts (l.take k)).Nodup ∧ ∀ a ∈ fsts (l.take k), a ∈ xs
 | 0, _, _ => by simp [fsts]
 | k + 1, hk, h => by
  have h0 : alwTo rs xs l k = true := by
   unfold alwTo at h ⊢
   simp only [toB, Bool.and_eq_true] at h
   first | exact h.1 | exact h.2
  have h1 : alwB rs (fsts (l.take k)) xs (nth l k) = true := toB_at (f := fun k => alwB rs (fsts (l.take k)) xs (nth l k)) h (by omega)
  obtain ⟨i1, i2⟩ := alwTo_nodup (by omega) h0
  rw [take_nth (by omega), fsts_snoc]
  simp only [alwB, Bool.and_eq_true, hasB, decide_eq_true_eq, Bool.not_eq_true', decide_eq_false_iff_not] at h1
  refine ⟨?_, fun a ha => ?_⟩
  ·rw [List.nodup_append]
   refine ⟨i1, by simp, fun a h3 b h4 e => ?_⟩
   rw [List.mem_singleton] at h4
   subst e
   subst h4
   exact h1.1.2 h3
  ·rcases List.mem_append.1 ha with ha | ha
   ·exact i2 a ha
   ·rw [List.mem_singleton.1 ha]; exact h1.1.1
theorem isP_nodup (f : Int → Bool) : ∀ n, (pickTo f n).Nodup
 | 0 => by simp [pickTo]
 | n + 1 => by
  have ih := isP_nodup f n
  cases h : f ((n : Int) + 1)
  ·rw [pickTo_no h]; exact ih
  ·rw [pickTo_yes h, List.nodup_append]
   refine ⟨ih, by simp, fun a h3 b h4 e => ?_⟩
   rw [List.mem_singleton] at h4
   subst e
   subst h4
   have := ((mem_pickTo f _ n).1 h3).2.1
   omega
/-- What the program asks at the end: no atom of x is lacking. -/
theorem lack_end {rs : List RuleD} {xs : List Int} {l : List (Int × Int)} (hx : IsP xs) (h : alwTo rs xs l l.length = true) :
  ((((maskOf xs &&& (65535 - maskOf (fsts l)) : Nat) : Int)) == 0) = reaQ rs xs l := by
 obtain ⟨h1, h2⟩ := alwTo_nodup (Nat.le_refl _) h
 rw [List.take_length] at h1 h2
 have hr : reaQ rs xs l = decide (l.length = xs.length) := by unfold reaQ; rw [h, Bool.and_true]
 rw [hr]
 have hxm : ∀ a ∈ xs, 1 ≤ a ∧ a ≤ 12 := fun a ha => by
  rw [hx] at ha
  have := (mem_pickTo _ _ _).1 ha
  omega
 have hl := nodup_le h1 h2
 rw [fsts_len] at hl
 by_cases hz : (maskOf xs &&& (65535 - maskOf (fsts l)) : Nat) = 0
 ·have hs : ∀ a ∈ xs, a ∈ fsts l := fun a ha => by
   have hb := less_bit xs (fsts l) a (hxm a ha)
   rw [hz, hasM_zero] at hb
   cases hh : hasB (fsts l) a
   ·rw [hh, show hasB xs a = true from decide_eq_true ha] at hb; cases hb
   ·exact of_decide_eq_true hh
  have hn : xs.Nodup := by rw [hx]; exact isP_nodup _ _
  have hg := nodup_le hn hs
  rw [fsts_len] at hg
  rw [hz, decide_eq_true (show l.length = xs.length by omega)]
  rfl
 ·have hne : l.length ≠ xs.length := fun e => hz (by
   refine zero_of_bits (Nat.lt_of_le_of_lt Nat.and_le_left (maskOf_lt _)) fun a ha1 ha2 => ?_
   rw [less_bit xs (fsts l) a ⟨ha1, ha2⟩]
   cases hh : hasB xs a
   ·rfl
   ·cases hf : hasB (fsts l) a
    ·have hn : (a :: fsts l).Nodup := List.nodup_cons.2 ⟨of_decide_eq_false hf, h1⟩
     have := nodup_le hn (m := xs) fun b hb => by
      rcases List.mem_cons.1 hb with rfl | hb
      ·exact of_decide_eq_true hh
      ·exact h2 b hb
     rw [List.length_cons, fsts_len] at this
     omega
    ·rfl)
  rw [decide_eq_false hne]
  exact beq_eq_false_iff_ne.2 (by omega)

/-- What tells against a set. -/
def agaN (p : ProgD) (xs : List Int) : Int := if whyB p xs then (if (brkR p xs).length = 0 then (if (unfR p xs).length = 0 then 0 else 2) else 1) else -1
def agaL (p : ProgD) (xs : List Int) : List Int := if whyB p xs then (if (brkR p xs).length = 0 then unfR p xs else [el (brkR p xs) 0]) else []

/-! ### UnfF -/
theorem hasB_mem {xs : List Int} {a : Int} : hasB xs a = true ↔ a ∈ xs := by unfold hasB; exact decide_eq_true_iff
theorem hasB_lessL {xs us : List Int} {a : Int} (h : 1 ≤ a ∧ a ≤ 12) : hasB (lessL xs us) a = (hasB xs a && !hasB us a) := by
 unfold lessL
 rw [hasB_pickTo h]
 unfold pickL pickF
 cases hasB xs a <;> cases hasB us a <;> rfl
theorem mem_lessL {xs us : List Int} {a : Int} (h : a ∈ lessL xs us) : (1 ≤ a ∧ a ≤ 12) ∧ a ∈ xs ∧ hasB us a = false := by
 have h1 := (mem_pickTo _ _ _).1 h
 have h12 : 1 ≤ a ∧ a ≤ 12 := by omega
 have h2 := hasB_mem.2 h
 rw [hasB_lessL h12, Bool.and_eq_true, Bool.not_eq_true'] at h2
 exact ⟨h12, hasB_mem.1 h2.1, h2.2⟩
theorem setOk_rise {xs : List Int} {n : Int} (h : setOkB xs n = true) : Rises xs ∧ ∀ y ∈ xs, 1 ≤ y ∧ y ≤ n := by
 rw [setOkB_in (setOkB_n h)] at h
 have := okTo_take (Nat.le_refl _) h
 rw [List.take_length] at this
 exact ⟨this.1, this.2.1⟩
theorem rise_ltU : ∀ {xs : List Int}, Rises xs → ∀ (i j : Nat), i < j → (hj : j < xs.length) → el xs i < el xs j
 | [], _, _, _, _, hj => absurd hj (by simp)
 | x :: r, h, i, 0, hij, _ => absurd hij (by omega)
 | x :: r, h, 0, j + 1, _, hj => by
  have hj' : j < r.length := by simpa using hj
  have e1 : el (x :: r) 0 = x := rfl
  have e2 : el (x :: r) (j + 1) = el r j := rfl
  rw [e1, e2]
  exact h.1 _ (el_mem hj')
 | x :: r, h, i + 1, j + 1, hij, hj => by
  have e1 : el (x :: r) (i + 1) = el r i := rfl
  have e2 : el (x :: r) (j + 1) = el r j := rfl
  rw [e1, e2]
  exact rise_ltU h.2 i j (by omega) (by simpa using hj)
theorem within_id {xs : List Int} {n : Nat} (h : setOkB xs (n : Int) = true) : withinL n xs = xs := by
 obtain ⟨h1, h2⟩ := setOk_rise h
 show pickTo (hasB xs) n = xs
 refine rises_ext (rises_pickTo _ _) h1 fun x => ?_
 rw [mem_pickTo]
 constructor
 ·rintro ⟨_, _, h⟩; exact hasB_mem.1 h
 ·intro hx; exact ⟨(h2 x hx).1, (h2 x hx).2, hasB_mem.2 hx⟩
theorem lessL_nil {xs us : List Int} : (lessL xs us).length = 0 ↔ Sub xs us := by
 constructor
 ·intro h a h1 h2 ha
  have h0 : lessL xs us = [] := List.eq_nil_of_length_eq_zero h
  have := hasB_lessL (xs := xs) (us := us) ⟨h1, h2⟩
  rw [h0, hasB_nil, ha] at this
  cases hu : hasB us a
  ·rw [hu] at this; cases this
  ·rfl
 ·intro h
  rw [List.length_eq_zero_iff, List.eq_nil_iff_forall_not_mem]
  intro a ha
  obtain ⟨h12, h3, h4⟩ := mem_lessL ha
  rw [h a h12.1 h12.2 (hasB_mem.2 h3)] at h4
  cases h4
theorem base_sub {rs : List RuleD} {xs : List Int} (hw : Wts rs) : Sub (leastL rs xs true) xs :=
 least_min hw fun r _ _ a h1 h2 ha => by
  rw [putL_T (Bool.or_true _), hasB_meet ⟨h1, h2⟩, Bool.and_eq_true] at ha
  exact ha.2
section
variable {q : ProgD} {xs us : List Int}
theorem unfQ_eq (hq : progOkB q = true) (hs : setOkB xs q.atoms = true) : unfQ q xs = lessL xs (leastL q.rules xs true) := by
 obtain ⟨h0, h1⟩ := progOk_atoms hq
 obtain ⟨n, hn⟩ := Int.eq_ofNat_of_zero_le h0
 unfold unfQ
 rw [hn, Int.toNat_natCast, within_id (by rw [← hn]; exact hs)]
theorem unf_sub (hq : progOkB q = true) (hs : setOkB xs q.atoms = true) : (unfQ q xs).length = 0 ↔ Sub xs (leastL q.rules xs true) := by
 rw [unfQ_eq hq hs, lessL_nil]
theorem unf_nil (hq : progOkB q = true) (hs : setOkB xs q.atoms = true) : (unfQ q xs).length = 0 ↔ leastL q.rules xs true = xs := by
 rw [unf_sub hq hs]
 have hx : IsP xs := progOk_len hs (progOk_atoms hq)
 have hw := wts_ok (progOk_rules hq).2
 exact ⟨fun h => least_isP.eq hx (base_sub hw) h, fun h => by rw [h]; exact Sub.refl _⟩
theorem one_head {r : RuleD} (hok : ruleOkB r 12 = true) (hc : r.choice = false) {a b : Int} (ha : a ∈ r.heads) (hb : b ∈ r.heads) : a = b := by
 have hl : r.heads.length ≤ 1 := by
  simp only [ruleOkB, headsB, Bool.and_eq_true, hc, Bool.false_eq_true, if_false, decide_eq_true_eq] at hok
  exact hok.1.2
 generalize r.heads = l at ha hb hl
 match l, hl, ha, hb with
 | [x], _, ha, hb => rw [List.mem_singleton.1 ha, List.mem_singleton.1 hb]
 | [], _, ha, _ => cases ha
 | x :: y :: t, hl, _, _ => simp at hl
theorem model_heads (hq : progOkB q = true) (hm : modelB q xs = true) {r : RuleD} (hr : r ∈ q.rules) (hc : r.choice = false) (hb : reachB r (h2B xs xs) = true) : Sub r.heads xs := by
 rw [modelB_yes hq, List.all_eq_true] at hm
 have h := hm r hr
 have hok := rules12 hq r hr
 unfold ruleHoldsB at h
 rw [hc, bodyHoldsB_yes hok, ← reach_same, hb] at h
 have h2 : (meetB r xs).length ≠ 0 := by
  intro e
  rw [e] at h
  cases h
 intro a h1 h2' ha
 obtain ⟨b, hb'⟩ : ∃ b, b ∈ meetB r xs := List.exists_mem_of_length_pos (by omega)
 have hb1 : b ∈ pickTo (pickM r.heads xs) 12 := hb'
 have hb2 := (mem_pickTo _ _ _).1 hb1
 have hb3 := hasB_mem.2 hb1
 rw [hasB_meet ⟨by omega, by omega⟩, Bool.and_eq_true] at hb3
 rw [one_head hok hc (hasB_mem.1 ha) (hasB_mem.1 hb3.1)]
 exact hb3.2
theorem least_model (hq : progOkB q = true) (hm : modelB q xs = true) : leastL q.rules xs false = leastL q.rules xs true := by
 have hw := wts_ok (progOk_rules hq).2
 refine least_isP.eq least_isP ?_ ?_
 ·refine least_min hw fun r hr hre => ?_
  have h0 := least_closed (rs := q.rules) (xs := xs) (all := true) r hr hre
  rw [putL_T (Bool.or_true _)] at h0
  cases hc : r.choice
  ·rw [putL_F (by rw [hc]; rfl)]
   have hreach : reachB r (h2B xs xs) = true := reachB_mono (hw r hr) (fun p _ => h2B_mono (base_sub hw)) hre
   have hx := model_heads hq hm hr hc hreach
   intro a h1 h2 ha
   exact h0 a h1 h2 (by rw [hasB_meet ⟨h1, h2⟩, ha, hx a h1 h2 ha]; rfl)
  ·rw [putL_T (by rw [hc]; rfl)]; exact h0
 ·refine least_min hw fun r hr hre => ?_
  have h0 := least_closed (rs := q.rules) (xs := xs) (all := false) r hr hre
  rw [putL_T (Bool.or_true _)]
  intro a h1 h2 ha
  refine h0 a h1 h2 ?_
  rw [hasB_meet ⟨h1, h2⟩, Bool.and_eq_true] at ha
  cases hc : r.choice
  ·rw [putL_F (by rw [hc]; rfl)]; exact ha.1
  ·rw [putL_T (by rw [hc]; rfl), hasB_meet ⟨h1, h2⟩, ha.1, ha.2]; rfl
theorem ans_unf (hq : progOkB q = true) (hs : setOkB xs q.atoms = true) : ansB q xs = (modelB q xs && (((unfQ q xs).length : Int) == 0)) := by
 cases hm : modelB q xs
 ·rw [ansB_B hm]; rfl
 ·rw [ansB_C hs hm, least_model hq hm, Bool.true_and, Bool.eq_iff_iff, decide_eq_true_eq, beq_iff_eq, ← unf_nil hq hs]
  omega
end
section
variable {rs : List RuleD} {ts xs : List Int}
theorem nodup_all {l m : List Int} (h1 : l.Nodup) (h2 : ∀ a ∈ l, a ∈ m) (hl : l.length = m.length) : ∀ a ∈ m, a ∈ l := fun a ha => by
 by_cases h : a ∈ l
 ·exact h
 ·have := nodup_le (l := a :: l) (m := m) (List.nodup_cons.2 ⟨h, h1⟩) (fun b hb => by
   rcases List.mem_cons.1 hb with rfl | hb
   ·exact ha
   ·exact h2 b hb)
  simp only [List.length_cons] at this
  omega
theorem giv_least (hw : Wts rs) (hts : Sub ts (leastL rs xs true)) {i : Nat} (hi : i < rs.length) {a : Int} (ha : 1 ≤ a ∧ a ≤ 12) (hx : hasB xs a = true) (h : givB rs ts xs a i = true) : hasB (leastL rs xs true) a = true := by
 unfold givB at h
 rw [Bool.and_eq_true] at h
 have hm : nth rs i ∈ rs := nth_mem hi
 refine least_closed _ hm (reachB_mono (hw _ hm) (fun p _ => h2B_mono hts) h.2) a ha.1 ha.2 ?_
 rw [putL_T (Bool.or_true _), hasB_meet ha, h.1, hx]
 rfl
theorem alw_least (hw : Wts rs) {l : List (Int × Int)} : ∀ k, k ≤ l.length → alwTo rs xs l k = true → Sub (fsts (l.take k)) (leastL rs xs true)
 | 0, _, _ => fun a _ _ ha => by
  rw [List.take_zero] at ha
  have : hasB ([] : List Int) a = true := ha
  rw [hasB_nil] at this
  cases this
 | k + 1, hk, h => by
  have h0 : alwTo rs xs l k = true := by
   unfold alwTo at h ⊢
   simp only [toB, Bool.and_eq_true] at h
   first | exact h.1 | exact h.2
  have h1 : alwB rs (fsts (l.take k)) xs (nth l k) = true := toB_at (f := fun k => alwB rs (fsts (l.take k)) xs (nth l k)) h (by omega)
  have ih := alw_least hw (l := l) k (by omega) h0
  rw [take_nth (by omega), fsts_snoc]
  intro a a1 a2 ha
  rcases List.mem_append.1 (hasB_mem.1 ha) with ha | ha
  ·exact ih a a1 a2 (hasB_mem.2 ha)
  ·rw [List.mem_singleton] at ha
   subst ha
   simp only [alwB, Bool.and_eq_true, btwB, decide_eq_true_eq] at h1
   exact giv_least hw ih (i := (nth l k).2.toNat) (by omega) ⟨a1, a2⟩ h1.1.1 h1.2.2
theorem rea_least (hw : Wts rs) {l : List (Int × Int)} (h : reaQ rs xs l = true) : Sub xs (leastL rs xs true) := by
 unfold reaQ at h
 rw [Bool.and_eq_true, decide_eq_true_eq] at h
 obtain ⟨h1, h2⟩ := alwTo_nodup (Nat.le_refl _) h.2
 have h3 := alw_least hw _ (Nat.le_refl _) h.2
 rw [List.take_length] at h1 h2 h3
 intro a a1 a2 ha
 exact h3 a a1 a2 (hasB_mem.2 (nodup_all h1 h2 (by rw [fsts_len]; exact h.1) a (hasB_mem.1 ha)))
theorem nth_app {α : Type} [Inhabited α] {xs zs : List α} {i : Nat} (h : i < xs.length) : nth (xs ++ zs) i = nth xs i := by
 unfold nth
 rw [List.getD_eq_getElem?_getD, List.getD_eq_getElem?_getD, List.getElem?_append_left h]
theorem nth_end {α : Type} [Inhabited α] {xs : List α} {z : α} : nth (xs ++ [z]) xs.length = z := by
 unfold nth
 rw [List.getD_eq_getElem?_getD, List.getElem?_append_right (Nat.le_refl _), Nat.sub_self]
 rfl
theorem alwTo_app {l : List (Int × Int)} {z : Int × Int} : alwTo rs xs (l ++ [z]) l.length = alwTo rs xs l l.length := by
 refine toB_same fun k hk _ => ?_
 rw [nth_app hk, List.take_append_of_le_length (by omega)]
theorem why_alw : ∀ k, alwTo rs xs (whyK rs xs k) (whyK rs xs k).length = true
 | 0 => rfl
 | k + 1 => by
  have ih := why_alw k
  cases hn : nxt rs (fsts (whyK rs xs k)) xs
  ·rw [whyK_none hn]; exact ih
  ·rename_i z
   obtain ⟨ha, hb, hc, hd, he⟩ := nxt_mem hn
   rw [whyK_some hn, List.length_append, List.length_singleton]
   refine alwTo_step (by rw [alwTo_app]; exact ih) ?_
   rw [nth_end, List.take_append_of_le_length (Nat.le_refl _), List.take_length]
   rw [alwB_C (by rw [hasB_mem.2 ha, hb]; rfl) (by unfold btwB; exact decide_eq_true (by omega))]
   exact he
theorem rulTo_none {a : Int} : ∀ {k : Nat}, rulTo rs ts xs a k = none → ∀ i, i < k → givB rs ts xs a i = false
 | 0, _, _, hi => absurd hi (by omega)
 | k + 1, h, i, hi => by
  cases hr : rulTo rs ts xs a k
  ·cases hg : givB rs ts xs a k
   ·rcases Nat.lt_or_ge i k with hik | hik
    ·exact rulTo_none hr i hik
    ·obtain rfl : i = k := by omega
     exact hg
   ·rw [rulTo_yes hr hg] at h; cases h
  ·rw [rulTo_stay hr (k + 1) (by omega)] at h; cases h
theorem why_end : ∀ k, (whyK rs xs k).length = k ∨ nxt rs (fsts (whyK rs xs k)) xs = none
 | 0 => .inl rfl
 | k + 1 => by
  cases hn : nxt rs (fsts (whyK rs xs k)) xs
  ·right
   rw [whyK_none hn]; exact hn
  ·rename_i z
   rcases why_end k with h | h
   ·left
    rw [whyK_some hn, List.length_append, h, List.length_singleton]
   ·rw [hn] at h; cases h
end
section
variable {p : ProgD} {xs us : List Int}
theorem answer_unf (h : whyB p xs = true) : answerR p xs = (modelB (foldD p) xs && (((unfR p xs).length : Int) == 0)) := by
 obtain ⟨hF, hs⟩ := whyB_fold h
 rw [answerR_yes hF, ans_unf (foldR_ok hF) hs, unfR_yes hF]
theorem rea_unf {l : List (Int × Int)} (h : reaB p xs l = true) : whyB p xs = true ∧ (unfR p xs).length = 0 ∧ answerR p xs = modelB (foldD p) xs := by
 simp only [reaB, Bool.and_eq_true] at h
 obtain ⟨hF, hs⟩ := whyB_fold h.1
 have hq := foldR_ok hF
 have h1 := (unf_sub hq hs).2 (rea_least (wts_ok (progOk_rules hq).2) h.2)
 refine ⟨h.1, by rw [unfR_yes hF]; exact h1, ?_⟩
 rw [answer_unf h.1, unfR_yes hF, h1]
 exact Bool.and_true _
/-! ### what is told against a set -/
theorem mem_brkTo {rs : List RuleD} {a : Int} : ∀ {k : Nat}, a ∈ brkTo rs xs k → ∃ i, i < k ∧ a = (i : Int) ∧ ruleHoldsB xs (nth rs i) = false
 | 0, h => by cases h
 | k + 1, h => by
  cases hr : ruleHoldsB xs (nth rs k)
  ·rw [brkTo_no hr] at h
   rcases List.mem_append.1 h with h | h
   ·obtain ⟨i, hi, h⟩ := mem_brkTo h
    exact ⟨i, by omega, h⟩
   ·exact ⟨k, by omega, List.mem_singleton.1 h, hr⟩
  ·rw [brkTo_ok hr] at h
   obtain ⟨i, hi, h⟩ := mem_brkTo h
   exact ⟨i, by omega, h⟩
theorem brkTo_nil {rs : List RuleD} : ∀ {k : Nat}, (brkTo rs xs k).length = 0 ↔ ∀ i, i < k → ruleHoldsB xs (nth rs i) = true
 | 0 => ⟨fun _ i hi => absurd hi (by omega), fun _ => rfl⟩
 | k + 1 => by
  have ih := brkTo_nil (rs := rs) (k := k)
  cases hr : ruleHoldsB xs (nth rs k)
  ·rw [brkTo_no hr, List.length_append, List.length_singleton]
   constructor
   ·intro h; omega
   ·intro h
    have := h k (by omega)
    rw [hr] at this; cases this
  ·rw [brkTo_ok hr, ih]
   constructor
   ·intro h i hi
    rcases Nat.lt_or_ge i k with hik | hik
    ·exact h i hik
    ·obtain rfl : i = k := by omega
     exact hr
   ·exact fun h i hi => h i (by omega)
end

/-! ### UnfA -/
/-! ### SupI -/

theorem lessN_calls (a b : Nat) (w : World) (ha : a < 4096) (hb : b < 4096) :
  Calls Tryz.prog 176 #[.int .u16 (a : Int), .int .u16 (b : Int)] w fun e w' => e = .returned (.int .u16 ((a &&& (65535 - b) : Nat) : Int)) ∧ w = w' := by
 have hlaw := andNot_u16 a b ha hb
 go_enter Tryz.func176, Tryz.ntmps176
 go_wp2
 go_ret
 exact ⟨rfl, rfl⟩

theorem upTo_pow {n : Nat} (hn : n ≤ 12) : ((2 : Int) ^ n) = ((2 ^ n : Nat) : Int) ∧ 1 ≤ 2 ^ n ∧ 2 ^ n ≤ 4096 := by
 have h1 : 2 ^ n ≤ 2 ^ 12 := Nat.pow_le_pow_right (by omega) hn
 have h2 : 0 < 2 ^ n := Nat.two_pow_pos n
 exact ⟨by simp, h2, h1⟩
theorem atomsUpTo_calls (n : Nat) (w : World) (hn : n ≤ 12) :
  Calls Tryz.prog 134 #[.int .i64 (n : Int)] w fun e w' => e = .returned (.int .u16 ((2 ^ n - 1 : Nat) : Int)) ∧ w = w' := by
 obtain ⟨hp, h1, h2⟩ := upTo_pow hn
 obtain ⟨P, hP⟩ : ∃ P : Nat, P = 2 ^ n := ⟨_, rfl⟩
 rw [← hP] at hp h1 h2
 have hv : Hid (2 ^ n = P) := hP.symm
 clear hP
 go_enter Tryz.func134, Tryz.ntmps134
 go_wp2
 go_ret
 refine ⟨ret_int ?_, rfl⟩
 rw [hv.out]
 first | omega | (unfold IntKind.wrap; simp; omega) | skip



/-! ### UnfI -/
set_option maxHeartbeats 2000000 in
theorem unfP_calls {cs : List Value} {q : ProgD} {w : World} (xs : List Int) (h : Rd.R w cs q) (hok : progOkB q = true) :
  Calls Tryz.prog 94 #[.agg cs.toArray, .int .u16 (maskOf xs : Int)] w fun e w' => ∃ m : Nat, e = .returned (.int .u16 (m : Int)) ∧ (m < 4096 ∧ mset m = unfQ q xs) ∧ Below w.heap.size w w' := by
 have hmx := maskOf_lt xs
 have hr12 := Lib.hid (rules12 hok)
 obtain ⟨ha0, ha1⟩ := progOk_atoms hok
 obtain ⟨n, hn⟩ := Int.eq_ofNat_of_zero_le ha0
 have hn12 : n ≤ 12 := by omega
 have hnq : Hid (q.atoms.toNat = n) := by show _ = _; omega
 have hpn : 2 ^ n - 1 < 4096 := by have := (upTo_pow hn12).2.2; omega
 have hmm : maskOf xs &&& (2 ^ n - 1) < 4096 := Nat.lt_of_le_of_lt Nat.and_le_left hmx
 have HAT := fun w => Lib.hid (atomsUpTo_calls n w hn12)
 have HUM := fun (m : Nat) (L : List Int) (hm : m < 4096) (hl : mset m = L) => Lib.hid (unf_mask (xs := xs) hn12 hm hl)
 obtain ⟨U, hU⟩ : ∃ U : Nat, U = 2 ^ n - 1 := ⟨_, rfl⟩
 rw [← hU] at hpn hmm HAT HUM
 clear hU
 obtain ⟨x0, x1, x2, x3, x4, x5, x6, x7, rfl⟩ := list8 (Rd.len h)
 have oR := h
 obtain ⟨_, _, _, _, _, _, hl, _⟩ := oR
 simp only [List.cons.injEq, and_true] at hl
 obtain ⟨rfl, -⟩ := hl
 rw [hn] at h
 rw [hn]
 have t1 := (Below.refl w.heap.size w).alloc (Nat.le_refl _) (.cells #[.int .i64 (n : Int), x1, x2, x3, x4, x5, x6, x7] 30)
 have CX1 := Cells.new w [.int .i64 (n : Int), x1, x2, x3, x4, x5, x6, x7] 30
 clear hn ha0 ha1
 go_enter Tryz.func94, Tryz.ntmps94
 go_wp2_with fail
 go_region_held3 (fun w' => w'.cell? ⟨w.heap.size, 0, none⟩ = some (.int .i64 (n : Int)) ∧ w'.cell? ⟨w.heap.size, 1, none⟩ = some x1 ∧ w'.cell? ⟨w.heap.size, 2, none⟩ = some x2 ∧ w'.cell? ⟨w.heap.size, 3, none⟩ = some x3 ∧ w'.cell? ⟨w.heap.size, 4, none⟩ = some x4 ∧ w'.cell? ⟨w.heap.size, 5, none⟩ = some x5 ∧ w'.cell? ⟨w.heap.size, 6, none⟩ = some x6 ∧ w'.cell? ⟨w.heap.size, 7, none⟩ = some x7)
  (first | exact cells8 CX1 | exact cells8 CX1.drew | exact cells8 (CX1.drew.later b2))
  (first | (go_at_call 134; refine (HAT _).out.mono ?_; rintro e w' ⟨rfl, rfl⟩) |
   (go_at_call 183; refine (meet_calls _ _ _ hmx hpn).mono ?_; rintro e w' ⟨rfl, rfl⟩) |
   (go_at_call 184; refine (baseP_calls xs (Rd.mono t1.drew h) hr12.out).mono ?_; rintro e w2 ⟨m, rfl, ⟨hm, hl⟩, b2⟩) |
   (go_at_call 176; refine (lessN_calls _ _ _ hmm hm).mono ?_; rintro e w' ⟨rfl, rfl⟩))
 go_wp2
 go_ret
 have hU := (HUM _ _ hm hl).out
 exact ⟨_, rfl, ⟨hU.1, by rw [hU.2]; unfold unfQ; rw [hnq.out]⟩, t1.drew.step b2⟩


set_option maxHeartbeats 2000000 in
theorem implUnfounded_calls {cs : List Value} {p : ProgD} {w : World} {v : Value} {xs : List Int} (h : Rd.R w cs p) (gx : RdL w [v] xs) :
  Calls Tryz.prog 25 #[.agg cs.toArray, v] w fun e w' => ∃ u, e = .returned u ∧ OwnI w.heap.size w' u (unfR p xs) ∧ Below w.heap.size w w' := by
 obtain ⟨p0, p1, p2, p3, p4, p5, p6, p7, rfl⟩ := list8 (Rd.len h)
 obtain ⟨ax, cx, rfl, _, hx⟩ := gx.sl
 have t0 : Below w.heap.size w (w.alloc (.cells #[p0, p1, p2, p3, p4, p5, p6, p7] 30)) := (Below.refl _ _).alloc (by simp) _
 have hmx := maskOf_lt xs
 cases hF : foldB p
 ·have hv := Lib.hid (unfR_no (xs := xs) hF)
  go_enter Tryz.func25, Tryz.ntmps25
  go_wp2_with fail
  refine (implFold_calls (Rd.mono t0 h)).mono ?_
  rintro e w1 ⟨cs1, he, o1, b1⟩
  rw [hF] at he
  subst he
  have t1 := t0.step b1
  have l1 := Rd.one o1.rd
  obtain ⟨x0, x1, x2, x3, x4, x5, x6, x7, rfl⟩ := list8 (Rd.len o1.rd)
  have st0 := sto Tryz.prog (l1 x0 (by simp))
  have st1 := sto Tryz.prog (l1 x1 (by simp))
  have st2 := sto Tryz.prog (l1 x2 (by simp))
  have st3 := sto Tryz.prog (l1 x3 (by simp))
  have st4 := sto Tryz.prog (l1 x4 (by simp))
  have st5 := sto Tryz.prog (l1 x5 (by simp))
  have st6 := sto Tryz.prog (l1 x6 (by simp))
  have st7 := sto Tryz.prog (l1 x7 (by simp))
  have o1 := o1.alloc (.cells #[x0, x1, x2, x3, x4, x5, x6, x7] 30)
  have CX1 := Cells.new w1 [x0, x1, x2, x3, x4, x5, x6, x7] 30
  have t1 := t1.alloc t1.size (.cells #[x0, x1, x2, x3, x4, x5, x6, x7] 30)
  clear l1
  go_wp2
  go_ret
  exact ⟨_, rfl, by rw [hv.out]; exact OwnI.nil _ _, t1⟩
 ·have hv := Lib.hid (unfR_yes (xs := xs) hF)
  have hok : progOkB (foldD p) = true := foldR_ok hF
  go_enter Tryz.func25, Tryz.ntmps25
  go_wp2_with fail
  refine (implFold_calls (Rd.mono t0 h)).mono ?_
  rintro e w1 ⟨cs1, he, o1, b1⟩
  rw [hF] at he
  rw [foldR_yes hF] at o1
  subst he
  have t1 := t0.step b1
  have l1 := Rd.one o1.rd
  obtain ⟨x0, x1, x2, x3, x4, x5, x6, x7, rfl⟩ := list8 (Rd.len o1.rd)
  have st0 := sto Tryz.prog (l1 x0 (by simp))
  have st1 := sto Tryz.prog (l1 x1 (by simp))
  have st2 := sto Tryz.prog (l1 x2 (by simp))
  have st3 := sto Tryz.prog (l1 x3 (by simp))
  have st4 := sto Tryz.prog (l1 x4 (by simp))
  have st5 := sto Tryz.prog (l1 x5 (by simp))
  have st6 := sto Tryz.prog (l1 x6 (by simp))
  have st7 := sto Tryz.prog (l1 x7 (by simp))
  have o1 := o1.alloc (.cells #[x0, x1, x2, x3, x4, x5, x6, x7] 30)
  have CX1 := Cells.new w1 [x0, x1, x2, x3, x4, x5, x6, x7] 30
  have t1 := t1.alloc t1.size (.cells #[x0, x1, x2, x3, x4, x5, x6, x7] 30)
  clear l1
  go_upto_region 4 with fail
  have CX := CX1.drew
  have t1 := t1.drew
  have o1 := o1.drew
  refine wp_region_held_drew (S := fun W' => W'.cell? ⟨w1.heap.size, 0, none⟩ = some x0 ∧ W'.cell? ⟨w1.heap.size, 1, none⟩ = some x1 ∧ W'.cell? ⟨w1.heap.size, 2, none⟩ = some x2 ∧ W'.cell? ⟨w1.heap.size, 3, none⟩ = some x3 ∧ W'.cell? ⟨w1.heap.size, 4, none⟩ = some x4 ∧ W'.cell? ⟨w1.heap.size, 5, none⟩ = some x5 ∧ W'.cell? ⟨w1.heap.size, 6, none⟩ = some x6 ∧ W'.cell? ⟨w1.heap.size, 7, none⟩ = some x7) (by kernel_rfl) (cells8 CX) (fun hHeld => ?_)
  refine tkY 0 (.agg #[x0, x1, x2, x3, x4, x5, x6, x7]) 14 rfl rfl (fun w' hw' => ?_) hHeld ?_
  ·first | (go_simp; done) | (obtain ⟨s0, s1, s2, s3, s4, s5, s6, s7⟩ := hw'; go_simp; done)
  try simp only [Act.put, put1, put2, put3]
  refine tkY 1 (.slice ax xs.length cx) 15 rfl rfl (fun w' hw' => ?_) hHeld ?_
  ·first | (go_simp; done) | (obtain ⟨s0, s1, s2, s3, s4, s5, s6, s7⟩ := hw'; go_simp; done)
  try simp only [Act.put, put1, put2, put3]
  refine wpAnyH_ready (rs := [2]) (by kernel_rfl) (by simp) ?_
  refine AllReadyH.cons rfl (fun K hK => ?_) AllReadyH.nil
  go_simp
  refine (atomsIn_calls _ _ _ _ (hx.later t1).ints).mono ?_
  rintro e w' ⟨rfl, rfl⟩
  refine hK.out _ _ hHeld (fun hHeld => ?_)
  clear hK K
  try simp only [Act.put, put1, put2, put3]
  refine wpAnyH_ready (rs := [3]) (by kernel_rfl) (by simp) ?_
  refine AllReadyH.cons rfl (fun K hK => ?_) AllReadyH.nil
  go_simp
  refine (unfP_calls xs o1.rd hok).mono ?_
  rintro e w2 ⟨m, rfl, ⟨hm, hl⟩, b2⟩
  refine hK.out _ _ (cells8 (CX.later b2)) (fun hHeld => ?_)
  clear hK K
  try simp only [Act.put, put1, put2, put3]
  refine wpAnyH_ready (rs := [4]) (by kernel_rfl) (by simp) ?_
  refine AllReadyH.cons rfl (fun K hK => ?_) AllReadyH.nil
  go_simp
  refine (list_calls _ _ hm).mono ?_
  rintro e w3 ⟨u, rfl, o3, b3⟩
  refine hK.out _ _ (cells8 ((CX.later b2).later b3)) (fun hHeld => ?_)
  clear hK K
  try simp only [Act.put, put1, put2, put3]
  refine tkY 5 (u) 4 rfl rfl (fun w' hw' => ?_) hHeld ?_
  ·first | (go_simp; done) | (obtain ⟨s0, s1, s2, s3, s4, s5, s6, s7⟩ := hw'; go_simp; done)
  try simp only [Act.put, put1, put2, put3]
  refine wpAnyH_done (by kernel_rfl) ?_ _
  go_wp2
  go_ret
  refine ⟨_, rfl, ?_, (t1.step b2).step b3⟩
  rw [hv.out, ← hl]
  exact o3.mono (t1.step b2).size

/-! ### ModI -/
set_option maxHeartbeats 4000000 in
theorem implModel_calls {cs : List Value} {p : ProgD} {w : World} {v : Value} {xs : List Int} (h : Rd.R w cs p) (gx : RdL w [v] xs) :
  Calls Tryz.prog 26 #[.agg cs.toArray, v] w fun e w' => e = .returned (.bool (modelB p xs)) ∧ Below w.heap.size w w' := by
 obtain ⟨p0, p1, p2, p3, p4, p5, p6, p7, rfl⟩ := list8 (Rd.len h)
 obtain ⟨ax, cx, rfl, _, hx⟩ := gx.sl
 have t0 : Below w.heap.size w (w.alloc (.cells #[p0, p1, p2, p3, p4, p5, p6, p7] 30)) := (Below.refl _ _).alloc (by simp) _
 have CX := (Cells.new w [p0, p1, p2, p3, p4, p5, p6, p7] 30).drew
 have td := t0.drew
 have hpd := Rd.mono td h
 have hxd := (hx.later td).ints
 clear gx hx h
 cases hok : progOkB p
 ·have hv := Lib.hid (modelB_no (xs := xs) hok)
  go_enter Tryz.func26, Tryz.ntmps26
  go_upto_region 1 with fail
  refine wp_region_held_drew (S := fun W' => W'.cell? ⟨w.heap.size, 0, none⟩ = some p0 ∧ W'.cell? ⟨w.heap.size, 1, none⟩ = some p1 ∧ W'.cell? ⟨w.heap.size, 2, none⟩ = some p2 ∧ W'.cell? ⟨w.heap.size, 3, none⟩ = some p3 ∧ W'.cell? ⟨w.heap.size, 4, none⟩ = some p4 ∧ W'.cell? ⟨w.heap.size, 5, none⟩ = some p5 ∧ W'.cell? ⟨w.heap.size, 6, none⟩ = some p6 ∧ W'.cell? ⟨w.heap.size, 7, none⟩ = some p7) (by kernel_rfl) (cells8 CX) (fun hHeld => ?_)
  refine tkY 0 (.agg #[p0, p1, p2, p3, p4, p5, p6, p7]) 5 rfl rfl (fun w' hw' => ?_) hHeld ?_
  ·first | (go_simp; done) | (obtain ⟨s0, s1, s2, s3, s4, s5, s6, s7⟩ := hw'; go_simp; done)
  try simp only [Act.put, put1, put2, put3]
  refine wpAnyH_ready (rs := [1]) (by kernel_rfl) (by simp) ?_
  refine AllReadyH.cons rfl (fun K hK => ?_) AllReadyH.nil
  go_simp
  refine (implProgOk_calls hpd).mono ?_
  rintro e w1 ⟨he, b1⟩
  rw [hok] at he
  subst he
  have CX := CX.later b1
  refine hK.out _ _ (cells8 CX) (fun hHeld => ?_)
  clear hK K
  try simp only [Act.put, put1, put2, put3]
  refine tkY 2 (.bool false) 7 rfl rfl (fun w' hw' => ?_) hHeld ?_
  ·first | (go_simp; done) | (obtain ⟨s0, s1, s2, s3, s4, s5, s6, s7⟩ := hw'; go_simp; done)
  try simp only [Act.put, put1, put2, put3]
  refine tkN 3 8 rfl rfl hHeld ?_
  try simp only [Act.put, put1, put2, put3]
  refine tkN 4 9 rfl rfl hHeld ?_
  try simp only [Act.put, put1, put2, put3]
  refine tkN 5 10 rfl rfl hHeld ?_
  try simp only [Act.put, put1, put2, put3]
  refine tkN 6 11 rfl rfl hHeld ?_
  try simp only [Act.put, put1, put2, put3]
  refine tkY 7 (.bool false) 12 rfl rfl (fun w' hw' => ?_) hHeld ?_
  ·first | (go_simp; done) | (obtain ⟨s0, s1, s2, s3, s4, s5, s6, s7⟩ := hw'; go_simp; done)
  try simp only [Act.put, put1, put2, put3]
  refine tkY 8 (.bool false) 4 rfl rfl (fun w' hw' => ?_) hHeld ?_
  ·first | (go_simp; done) | (obtain ⟨s0, s1, s2, s3, s4, s5, s6, s7⟩ := hw'; go_simp; done)
  try simp only [Act.put, put1, put2, put3]
  refine wpAnyH_done (by kernel_rfl) ?_ _
  go_wp2
  go_ret
  exact ⟨ret_bool hv.out.symm, td.step b1⟩
 ·go_enter Tryz.func26, Tryz.ntmps26
  go_upto_region 1 with fail
  refine wp_region_held_drew (S := fun W' => W'.cell? ⟨w.heap.size, 0, none⟩ = some p0 ∧ W'.cell? ⟨w.heap.size, 1, none⟩ = some p1 ∧ W'.cell? ⟨w.heap.size, 2, none⟩ = some p2 ∧ W'.cell? ⟨w.heap.size, 3, none⟩ = some p3 ∧ W'.cell? ⟨w.heap.size, 4, none⟩ = some p4 ∧ W'.cell? ⟨w.heap.size, 5, none⟩ = some p5 ∧ W'.cell? ⟨w.heap.size, 6, none⟩ = some p6 ∧ W'.cell? ⟨w.heap.size, 7, none⟩ = some p7) (by kernel_rfl) (cells8 CX) (fun hHeld => ?_)
  refine tkY 0 (.agg #[p0, p1, p2, p3, p4, p5, p6, p7]) 5 rfl rfl (fun w' hw' => ?_) hHeld ?_
  ·first | (go_simp; done) | (obtain ⟨s0, s1, s2, s3, s4, s5, s6, s7⟩ := hw'; go_simp; done)
  try simp only [Act.put, put1, put2, put3]
  refine wpAnyH_ready (rs := [1]) (by kernel_rfl) (by simp) ?_
  refine AllReadyH.cons rfl (fun K hK => ?_) AllReadyH.nil
  go_simp
  refine (implProgOk_calls hpd).mono ?_
  rintro e w1 ⟨he, b1⟩
  rw [hok] at he
  subst he
  have CX := CX.later b1
  refine hK.out _ _ (cells8 CX) (fun hHeld => ?_)
  clear hK K
  try simp only [Act.put, put1, put2, put3]
  refine tkY 2 (.bool true) 7 rfl rfl (fun w' hw' => ?_) hHeld ?_
  ·first | (go_simp; done) | (obtain ⟨s0, s1, s2, s3, s4, s5, s6, s7⟩ := hw'; go_simp; done)
  try simp only [Act.put, put1, put2, put3]
  refine tkY 3 (.agg #[p0, p1, p2, p3, p4, p5, p6, p7]) 8 rfl rfl (fun w' hw' => ?_) hHeld ?_
  ·first | (go_simp; done) | (obtain ⟨s0, s1, s2, s3, s4, s5, s6, s7⟩ := hw'; go_simp; done)
  try simp only [Act.put, put1, put2, put3]
  refine tkY 4 (.slice ax xs.length cx) 9 rfl rfl (fun w' hw' => ?_) hHeld ?_
  ·first | (go_simp; done) | (obtain ⟨s0, s1, s2, s3, s4, s5, s6, s7⟩ := hw'; go_simp; done)
  try simp only [Act.put, put1, put2, put3]
  refine wpAnyH_ready (rs := [5]) (by kernel_rfl) (by simp) ?_
  refine AllReadyH.cons rfl (fun K hK => ?_) AllReadyH.nil
  go_simp
  refine (atomsIn_calls _ _ _ _ (hxd.later b1)).mono ?_
  rintro e w' ⟨rfl, rfl⟩
  refine hK.out _ _ hHeld (fun hHeld => ?_)
  clear hK K
  try simp only [Act.put, put1, put2, put3]
  refine wpAnyH_ready (rs := [6]) (by kernel_rfl) (by simp) ?_
  refine AllReadyH.cons rfl (fun K hK => ?_) AllReadyH.nil
  go_simp
  refine (implModelP_calls xs (Rd.mono b1 hpd) hok).mono ?_
  rintro e w2 ⟨rfl, b2⟩
  refine hK.out _ _ (cells8 (CX.later b2)) (fun hHeld => ?_)
  clear hK K
  try simp only [Act.put, put1, put2, put3]
  refine tkY 7 (.bool (modelB p xs)) 12 rfl rfl (fun w' hw' => ?_) hHeld ?_
  ·first | (go_simp; done) | (obtain ⟨s0, s1, s2, s3, s4, s5, s6, s7⟩ := hw'; go_simp; done)
  try simp only [Act.put, put1, put2, put3]
  refine tkY 8 (.bool (modelB p xs)) 4 rfl rfl (fun w' hw' => ?_) hHeld ?_
  ·first | (go_simp; done) | (obtain ⟨s0, s1, s2, s3, s4, s5, s6, s7⟩ := hw'; go_simp; done)
  try simp only [Act.put, put1, put2, put3]
  refine wpAnyH_done (by kernel_rfl) ?_ _
  go_wp2
  go_ret
  exact ⟨rfl, (td.step b1).step b2⟩

end Go.Proofs.YthikhkeofcjdfaaGreat
