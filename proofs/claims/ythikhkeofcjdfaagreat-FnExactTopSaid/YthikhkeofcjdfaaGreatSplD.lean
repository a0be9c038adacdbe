/-
 The closure of a set under rules, and what it is for a set to split a program: pure. No condition of its own.
-/
import Derived.Test.YthikhkeofcjdfaaGreatMak
import Derived.Test.YthikhkeofcjdfaaGreatFoldD
import Derived.Test.YthikhkeofcjdfaaGreatAtomsOf
namespace Go.Proofs.YthikhkeofcjdfaaGreat
set_option linter.unusedVariables false
set_option linter.unusedSimpArgs false
open Go.RowKit
set_option maxRecDepth 100000

/-- All atoms of a rule, as a number. -/
def evM (r : RuleD) : Nat := maskOf (r.heads ++ r.body.map fun p => atomI p.1)
theorem evM_lt (r : RuleD) : evM r < 4096 := maskOf_lt _
theorem evM_atoms {r : RuleD} (hf : FitsR r) : mset (evM r) = atomsB r := (setOfL_mask _).trans (atoms_same hf)
theorem evM_mask {r : RuleD} (hf : FitsR r) : maskOf (atomsB r) = evM r := by rw [← evM_atoms hf, mask_mset (evM_lt r)]
theorem or_lt {a b : Nat} (ha : a < 4096) (hb : b < 4096) : a ||| b < 4096 := Nat.or_lt_two_pow (n := 12) ha hb
theorem fits_ruleOk {r : RuleD} (h : ruleOkB r 12 = true) : FitsR r := by
 simp only [ruleOkB, bodyB, wlitB, Bool.and_eq_true, btwB, decide_eq_true_eq, List.all_eq_true] at h
 obtain ⟨_, ⟨⟨h1, h2⟩, h3⟩, h4⟩ := h
 refine ⟨⟨by omega, by omega⟩, fun p hp => ?_⟩
 obtain ⟨⟨h5, _⟩, h6⟩ := h4 p hp
 refine ⟨?_, ⟨by omega, by omega⟩⟩
 simp only [litB, btwB, Bool.or_eq_true, decide_eq_true_eq] at h5
 exact ⟨by omega, by omega⟩
theorem mset_inj {a b : Nat} (ha : a < 4096) (hb : b < 4096) (h : mset a = mset b) : a = b := by rw [← mask_mset ha, h, mask_mset hb]
theorem mset_join {a : Nat} {xs : List Int} (ha : a < 4096) : pickTo (pickJ (mset a) xs) 12 = mset (a ||| maskOf xs) := by
 rw [← join_same, mask_mset ha]; rfl
theorem mset_meet {a : Nat} {xs : List Int} (ha : a < 4096) : pickTo (pickM xs (mset a)) 12 = mset (a &&& maskOf xs) := by
 rw [← meet_same, mask_mset ha, Nat.and_comm]; rfl
theorem mset_nil {a : Nat} (ha : a < 4096) : (mset a).length = 0 ↔ a = 0 := by
 constructor
 ·intro h
  have e : mset a = [] := List.length_eq_zero_iff.1 h
  have := mask_mset ha
  rw [e] at this
  exact this.symm
 ·rintro rfl; rw [mset_zero]; rfl
/-- One rule's share. -/
def clR (m : Nat) (r : RuleD) : Nat := if m &&& maskOf r.heads = 0 then m else m ||| evM r
theorem clR_no {m : Nat} {r : RuleD} (h : m &&& maskOf r.heads = 0) : clR m r = m := if_pos h
theorem clR_yes {m : Nat} {r : RuleD} (h : ¬ m &&& maskOf r.heads = 0) : clR m r = m ||| evM r := if_neg h
theorem clR_lt {m : Nat} (r : RuleD) (h : m < 4096) : clR m r < 4096 := by
 unfold clR; split
 ·exact h
 ·exact or_lt h (evM_lt r)
theorem or_eq_iff {a b : Nat} (ha : a < 4096) (hb : b < 4096) : a ||| b = a ↔ ∀ x : Int, 1 ≤ x → x ≤ 12 → hasM b x = true → hasM a x = true := by
 constructor
 ·intro h x h1 h2 hx
  have := hasM_or (a := a) (b := b) ⟨h1, h2⟩
  rw [h, hx, Bool.or_true] at this
  exact this
 ·intro h
  refine mset_inj (or_lt ha hb) ha (pickTo_congr fun x h1 h2 => ?_)
  rw [hasM_or ⟨h1, by omega⟩]
  cases hx : hasM b x
  ·rw [Bool.or_false]
  ·rw [h x h1 (by omega) hx]; rfl
theorem clR_sub {m : Nat} (r : RuleD) {x : Int} (h : 1 ≤ x ∧ x ≤ 12) (hx : hasM m x = true) : hasM (clR m r) x = true := by
 unfold clR; split
 ·exact hx
 ·rw [hasM_or h, hx]; rfl
/-- .. of the first k rules. -/
def clTo (rs : List RuleD) (m : Nat) : Nat → Nat
 | 0 => m
 | k + 1 => clR (clTo rs m k) (nth rs k)
theorem clTo_lt {rs : List RuleD} {m : Nat} (h : m < 4096) : ∀ k, clTo rs m k < 4096
 | 0 => h
 | k + 1 => clR_lt _ (clTo_lt h k)
theorem clTo_sub {rs : List RuleD} {m : Nat} {x : Int} (h : 1 ≤ x ∧ x ≤ 12) (hx : hasM m x = true) : ∀ k, hasM (clTo rs m k) x = true
 | 0 => hx
 | k + 1 => clR_sub _ h (clTo_sub h hx k)
theorem clTo_mono {rs : List RuleD} {m : Nat} {x : Int} (h : 1 ≤ x ∧ x ≤ 12) {j : Nat} (hx : hasM (clTo rs m j) x = true) : ∀ k, hasM (clTo rs m (j + k)) x = true
 | 0 => hx
 | k + 1 => clR_sub _ h (clTo_mono h hx k)
def clIt (rs : List RuleD) (m : Nat) : Nat := clTo rs m rs.length
theorem clIt_lt {rs : List RuleD} {m : Nat} (h : m < 4096) : clIt rs m < 4096 := clTo_lt h _
theorem clIt_sub {rs : List RuleD} {m : Nat} : Sub (mset m) (mset (clIt rs m)) := fun x h1 h2 hx => by
 rw [hasB_mset ⟨h1, h2⟩] at hx ⊢
 exact clTo_sub ⟨h1, h2⟩ hx _
/-- Nothing is added just where each rule of which there is a head has all its atoms there. -/
def clB (m : Nat) (r : RuleD) : Bool := decide (m &&& maskOf r.heads = 0) || decide (m ||| evM r = m)
theorem clB_iff {m : Nat} {r : RuleD} : clB m r = true ↔ clR m r = m := by
 unfold clB clR
 rw [Bool.or_eq_true, decide_eq_true_eq, decide_eq_true_eq]
 split
 ·rename_i h; exact ⟨fun _ => rfl, fun _ => .inl h⟩
 ·rename_i h; exact ⟨fun h2 => h2.resolve_left h, fun h2 => .inr h2⟩
theorem clTo_fix {rs : List RuleD} {m : Nat} (h : ∀ r ∈ rs, clB m r = true) : ∀ k, k ≤ rs.length → clTo rs m k = m
 | 0, _ => rfl
 | k + 1, hk => by
  show clR (clTo rs m k) (nth rs k) = m
  rw [clTo_fix h k (by omega)]
  exact clB_iff.1 (h _ (nth_mem hk))
theorem clIt_fix {rs : List RuleD} {m : Nat} (hm : m < 4096) : clIt rs m = m ↔ rs.all (clB m) = true := by
 rw [List.all_eq_true]
 constructor
 ·intro h r hr
  obtain ⟨k, hk, rfl⟩ := List.getElem_of_mem hr
  rw [← nth_eq hk]
  have key : ∀ j, j ≤ rs.length → clTo rs m j = m := fun j hj => by
   refine mset_inj (clTo_lt hm j) hm (pickTo_congr fun x h1 h2 => ?_)
   rw [Bool.eq_iff_iff]
   constructor
   ·intro hx
    have h3 := clTo_mono (rs := rs) (m := m) ⟨h1, by omega⟩ hx (rs.length - j)
    rw [show j + (rs.length - j) = rs.length by omega] at h3
    have h4 : clTo rs m rs.length = m := h
    rwa [h4] at h3
   ·exact fun hx => clTo_sub ⟨h1, by omega⟩ hx j
  have h1 := key (k + 1) hk
  have h2 : clR (clTo rs m k) (nth rs k) = m := h1
  rw [key k (by omega)] at h2
  exact clB_iff.2 h2
 ·exact fun h => clTo_fix h _ (Nat.le_refl _)
/-- .. until nothing is added. -/
def clN (rs : List RuleD) (m : Nat) : Nat → Nat
 | 0 => m
 | n + 1 => clIt rs (clN rs m n)
theorem clN_lt {rs : List RuleD} {m : Nat} (h : m < 4096) : ∀ n, clN rs m n < 4096
 | 0 => h
 | n + 1 => clIt_lt (clN_lt h n)
theorem clN_stay {rs : List RuleD} {m n : Nat} (h : clIt rs (clN rs m n) = clN rs m n) : ∀ k, clN rs m (n + k) = clN rs m n
 | 0 => rfl
 | k + 1 => by show clIt rs (clN rs m (n + k)) = _; rw [clN_stay h k, h]
def clL (rs : List RuleD) (m : Nat) : Nat := clN rs m 13
theorem clL_lt {rs : List RuleD} {m : Nat} (h : m < 4096) : clL rs m < 4096 := clN_lt h 13
theorem clIt_len {rs : List RuleD} {m : Nat} (h : m < 4096) : (mset m).length ≤ (mset (clIt rs m)).length ∧ ((mset m).length = (mset (clIt rs m)).length → clIt rs m = m) := by
 obtain ⟨h1, h2⟩ := (mset_isP m).len (mset_isP (clIt rs m)) clIt_sub
 exact ⟨h1, fun e => (mset_inj h (clIt_lt h) (h2 e)).symm⟩
theorem clIt_less {rs : List RuleD} {m : Nat} (h : m < 4096) (hne : ¬ clIt rs m = m) : (mset m).length < (mset (clIt rs m)).length := by
 obtain ⟨h1, h2⟩ := clIt_len (rs := rs) h
 rcases Nat.lt_or_eq_of_le h1 with h3 | h3
 ·exact h3
 ·exact absurd (h2 h3) hne
theorem mset_len12 (m : Nat) : (mset m).length ≤ 12 := pickTo_len _ _
theorem clL_end {rs : List RuleD} {m n : Nat} (h : m < 4096) (hn : n ≤ (mset (clN rs m n)).length) (he : clIt rs (clN rs m n) = clN rs m n) : clN rs m n = clL rs m := by
 have h12 := mset_len12 (clN rs m n)
 have := clN_stay he (13 - n)
 rw [show n + (13 - n) = 13 by omega] at this
 exact this.symm
theorem clN_grow {rs : List RuleD} {m : Nat} (h : m < 4096) : ∀ n, n ≤ (mset (clN rs m n)).length ∨ clIt rs (clN rs m n) = clN rs m n
 | 0 => .inl (Nat.zero_le _)
 | n + 1 => by
  by_cases he : clIt rs (clN rs m n) = clN rs m n
  ·right
   have e1 : clN rs m (n + 1) = clN rs m n := clN_stay he 1
   rw [e1]; exact he
  ·rcases clN_grow (rs := rs) h n with h1 | h1
   ·left
    have := clIt_less (clN_lt h n) he
    show n + 1 ≤ (mset (clIt rs (clN rs m n))).length
    omega
   ·exact absurd h1 he
theorem clL_fix {rs : List RuleD} {m : Nat} (h : m < 4096) : clIt rs (clL rs m) = clL rs m := by
 rcases clN_grow (rs := rs) h 13 with h1 | h1
 ·have := mset_len12 (clN rs m 13); omega
 ·exact h1
theorem clL_of_fix {rs : List RuleD} {m : Nat} (h : clIt rs m = m) : clL rs m = m := by
 have : clIt rs (clN rs m 0) = clN rs m 0 := h
 have := clN_stay this 13
 rw [Nat.zero_add] at this
 exact this
theorem clL_iff {rs : List RuleD} {m : Nat} (h : m < 4096) : clL rs m = m ↔ rs.all (clB m) = true := by
 rw [← clIt_fix h]
 exact ⟨fun e => by have := clL_fix (rs := rs) h; rwa [e] at this, clL_of_fix⟩
theorem clN_next {rs : List RuleD} {m n : Nat} (h : m < 4096) (hn : n ≤ (mset (clN rs m n)).length) (hne : ¬ clIt rs (clN rs m n) = clN rs m n) : n + 1 ≤ (mset (clN rs m (n + 1))).length := by
 have := clIt_less (clN_lt h n) hne
 show n + 1 ≤ (mset (clIt rs (clN rs m n))).length
 omega
/-- Does a set split the rules? As the model has it. -/
def spR (us : List Int) (r : RuleD) : Bool := ((pickTo (pickM r.heads us) 12).length : Int) == 0 || ((pickTo (pickL (atomsB r) us) 12).length : Int) == 0
def splQ (q : ProgD) (us : List Int) : Bool := setOkB us q.atoms && q.rules.all (spR us)
def splB (p : ProgD) (us : List Int) : Bool := foldB p && splQ (foldD p) us
theorem spR_same {us : List Int} {r : RuleD} (hu : IsP us) (hf : FitsR r) : spR us r = clB (maskOf us) r := by
 have hm := maskOf_lt us
 have e1 : pickTo (pickM r.heads us) 12 = mset (maskOf us &&& maskOf r.heads) := by
  have := mset_meet (a := maskOf us) (xs := r.heads) hm
  rwa [mset_mask hu] at this
 have l1 : maskOf us &&& maskOf r.heads < 4096 := Nat.lt_of_le_of_lt Nat.and_le_left hm
 unfold spR clB
 rw [e1]
 congr 1
 ·rw [Bool.eq_iff_iff, beq_iff_eq, decide_eq_true_eq, ← mset_nil l1]; omega
 ·rw [Bool.eq_iff_iff, beq_iff_eq, decide_eq_true_eq, or_eq_iff hm (evM_lt r)]
  have hl : (pickTo (pickL (atomsB r) us) 12).length = 0 ↔ ∀ x : Int, 1 ≤ x → x ≤ 12 → pickL (atomsB r) us x = false := by
   rw [List.length_eq_zero_iff]
   constructor
   ·intro h x h1 h2
    have h3 := mem_pickTo (pickL (atomsB r) us) x 12
    rw [h] at h3
    cases hx : pickL (atomsB r) us x
    ·rfl
    ·have := h3.2 ⟨h1, by omega, hx⟩
     cases this
   ·intro h
    refine List.eq_nil_iff_forall_not_mem.2 fun x hx => ?_
    obtain ⟨h1, h2, h3⟩ := (mem_pickTo _ x 12).1 hx
    rw [h x h1 (by omega)] at h3
    cases h3
  have hev : ∀ x : Int, 1 ≤ x → x ≤ 12 → hasB (atomsB r) x = hasM (evM r) x := fun x h1 h2 => by rw [← evM_atoms hf, hasB_mset ⟨h1, h2⟩]
  have : (((pickTo (pickL (atomsB r) us) 12).length : Int) = 0) ↔ (pickTo (pickL (atomsB r) us) 12).length = 0 := by omega
  rw [this, hl]
  constructor
  ·intro h x h1 h2 hx
   have h3 := h x h1 h2
   unfold pickL pickF at h3
   rw [hev x h1 h2, hx] at h3
   rw [hasM_maskOf _ _ ⟨h1, h2⟩]
   simpa using h3
  ·intro h x h1 h2
   unfold pickL pickF
   rw [hev x h1 h2]
   cases hx : hasM (evM r) x
   ·cases hasB us x <;> rfl
   ·have := h x h1 h2 hx
    rw [hasM_maskOf _ _ ⟨h1, h2⟩] at this
    rw [this]; rfl
theorem splB_no {p : ProgD} {us : List Int} (h : foldB p = false) : splB p us = false := by simp only [splB, h, Bool.false_and]
theorem splB_yes {p : ProgD} {us : List Int} (h : foldB p = true) : splB p us = splQ (foldD p) us := by simp only [splB, h, Bool.true_and]
theorem splQ_A {q : ProgD} {us : List Int} (h : setOkB us q.atoms = false) : splQ q us = false := by simp only [splQ, h, Bool.false_and]
theorem splQ_B {q : ProgD} {us : List Int} (h : setOkB us q.atoms = true) : splQ q us = q.rules.all (spR us) := by simp only [splQ, h, Bool.true_and]
theorem spl_eq {q : ProgD} {us : List Int} (hu : IsP us) (hf : ∀ r ∈ q.rules, FitsR r) : decide ((clL q.rules (maskOf us) : Int) = (maskOf us : Int)) = q.rules.all (spR us) := by
 rw [Bool.eq_iff_iff, decide_eq_true_eq, show q.rules.all (spR us) = q.rules.all (clB (maskOf us)) from by
  rw [Bool.eq_iff_iff, List.all_eq_true, List.all_eq_true]
  exact ⟨fun h r hr => by rw [← spR_same hu (hf r hr)]; exact h r hr, fun h r hr => by rw [spR_same hu (hf r hr)]; exact h r hr⟩, ← clL_iff (maskOf_lt us)]
 omega
/-- What Closure answers. -/
def clsM (p : ProgD) (us : List Int) : Nat := clL (foldD p).rules (maskOf us &&& (2 ^ (foldD p).atoms.toNat - 1))
def clsR (p : ProgD) (us : List Int) : List Int := if foldB p then mset (clsM p us) else []
theorem clsR_no {p : ProgD} {us : List Int} (h : foldB p = false) : clsR p us = [] := by simp [clsR, h]
theorem clsR_len (p : ProgD) (us : List Int) : (clsR p us).length ≤ 12 := by
 unfold clsR
 split
 ·exact mset_len12 _
 ·simp
theorem clsR_yes {p : ProgD} {us : List Int} (h : foldB p = true) : clsR p us = mset (clsM p us) := by simp [clsR, h]
end Go.Proofs.YthikhkeofcjdfaaGreat
