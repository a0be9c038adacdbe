/-
 The least set that rules make: pure. No condition of its own.
-/
import Derived.Test.YthikhkeofcjdfaaGreatBody
import Derived.Test.YthikhkeofcjdfaaGreatSetsLaw
namespace Go.Proofs.YthikhkeofcjdfaaGreat
set_option linter.unusedVariables false
set_option linter.unusedSimpArgs false
open Go.RowKit
set_option maxRecDepth 100000

/-- Each atom of xs is in ys. -/
def Sub (xs ys : List Int) : Prop := ∀ a, 1 ≤ a → a ≤ 12 → hasB xs a = true → hasB ys a = true
theorem Sub.refl (xs : List Int) : Sub xs xs := fun _ _ _ h => h
theorem Sub.trans {a b c : List Int} (h : Sub a b) (k : Sub b c) : Sub a c := fun x h1 h2 hx => k x h1 h2 (h x h1 h2 hx)
theorem h2B_mono {s t xs : List Int} {p : Int × Int} (h : Sub s t) (hp : h2B s xs p = true) : h2B t xs p = true := by
 by_cases h1 : 0 < p.1
 ·rw [h2B_pos h1] at hp ⊢
  by_cases h2 : p.1 ≤ 12
  ·rw [holdsB_pos ⟨by omega, h2⟩] at hp ⊢
   exact h _ (by omega) h2 hp
  ·rw [holdsB_out (by omega) (by omega)] at hp
   cases hp
 ·by_cases h2 : p.1 < 0
  ·rw [h2B_neg h2] at hp ⊢
   exact hp
  ·have e : p.1 = 0 := by omega
   unfold h2B at hp
   rw [e] at hp
   simp at hp
theorem h2B_anti {s xs ys : List Int} {p : Int × Int} (h : Sub xs ys) (hp : h2B s ys p = true) : h2B s xs p = true := by
 by_cases h1 : 0 < p.1
 ·rw [h2B_pos h1] at hp ⊢
  exact hp
 ·by_cases h2 : p.1 < 0
  ·rw [h2B_neg h2] at hp ⊢
   by_cases h3 : -12 ≤ p.1
   ·rw [holdsB_neg ⟨h3, by omega⟩] at hp ⊢
    cases hx : hasB xs (-p.1)
    ·rfl
    ·rw [h _ (by omega) (by omega) hx] at hp
     cases hp
   ·rw [holdsB_out (by omega) (by omega)] at hp
    cases hp
  ·have e : p.1 = 0 := by omega
   unfold h2B at hp
   rw [e] at hp
   simp at hp
theorem sumH_mono {f g : Int × Int → Bool} : ∀ {l : List (Int × Int)}, (∀ p ∈ l, 0 ≤ p.2) → (∀ p ∈ l, f p = true → g p = true) → sumH f l ≤ sumH g l
 | [], _, _ => Int.le_refl _
 | p :: l, h, k => by
  have ih := sumH_mono (f := f) (g := g) (l := l) (fun q hq => h q (List.mem_cons_of_mem _ hq)) fun q hq => k q (List.mem_cons_of_mem _ hq)
  have hp := h p (List.mem_cons_self ..)
  have kp := k p (List.mem_cons_self ..)
  simp only [sumH]
  cases hf : f p
  ·cases hg : g p
   ·simpa using ih
   ·simp only [Bool.false_eq_true, if_false, if_true]; omega
  ·rw [kp hf]
   simp only [if_true]; omega
theorem reachB_mono {r : RuleD} {f g : Int × Int → Bool} (h : ∀ p ∈ r.body, 0 ≤ p.2) (k : ∀ p ∈ r.body, f p = true → g p = true) (hr : reachB r f = true) : reachB r g = true := by
 cases hw : r.weight
 ·rw [reachB_F hw] at hr ⊢
  rw [List.all_eq_true] at hr ⊢
  exact fun p hp => k p hp (hr p hp)
 ·rw [reachB_T hw, decide_eq_true_eq] at hr ⊢
  have := sumH_mono h k
  omega

/-- A set as it is picked. -/
def IsP (s : List Int) : Prop := s = pickTo (hasB s) 12
theorem isP_pick (f : Int → Bool) : IsP (pickTo f 12) := (pickTo_congr fun x h1 h2 => (hasB_pickTo ⟨h1, by omega⟩).symm)
theorem isP_nil : IsP [] := isP_pick (fun _ => false)
theorem IsP.eq {s t : List Int} (hs : IsP s) (ht : IsP t) (h : Sub s t) (k : Sub t s) : s = t := by
 rw [hs, ht]
 refine pickTo_congr fun x h1 h2 => ?_
 rw [Bool.eq_iff_iff]
 exact ⟨h x h1 (by omega), k x h1 (by omega)⟩
theorem pick_len {f g : Int → Bool} : ∀ {n : Nat}, (∀ x : Int, 1 ≤ x → x ≤ n → f x = true → g x = true) → (pickTo f n).length ≤ (pickTo g n).length ∧ ((pickTo f n).length = (pickTo g n).length → pickTo f n = pickTo g n)
 | 0, _ => ⟨Nat.le_refl _, fun _ => rfl⟩
 | n + 1, h => by
  obtain ⟨i1, i2⟩ := pick_len (f := f) (g := g) (n := n) fun x h1 h2 => h x h1 (by omega)
  have hn := h ((n : Int) + 1) (by omega) (by omega)
  cases hf : f ((n : Int) + 1)
  ·cases hg : g ((n : Int) + 1)
   ·rw [pickTo_no hf, pickTo_no hg]; exact ⟨i1, i2⟩
   ·rw [pickTo_no hf, pickTo_yes hg, List.length_append, List.length_singleton]
    exact ⟨by omega, fun e => absurd e (by omega)⟩
  ·rw [pickTo_yes hf, pickTo_yes (hn hf), List.length_append, List.length_append, List.length_singleton]
   exact ⟨by omega, fun e => by rw [i2 (by omega)]⟩
theorem IsP.len {s t : List Int} (hs : IsP s) (ht : IsP t) (h : Sub s t) : s.length ≤ t.length ∧ (s.length = t.length → s = t) := by
 have := pick_len (f := hasB s) (g := hasB t) (n := 12) fun x h1 h2 => h x h1 (by omega)
 rw [← hs, ← ht] at this
 exact this
theorem IsP.le {s : List Int} (hs : IsP s) : s.length ≤ 12 := by rw [hs]; exact pickTo_len _ _
theorem isP_set {xs : List Int} (h : setOkB xs 12 = true) : IsP xs := set_pick h

/-- What a rule puts there. -/
def putL (all : Bool) (xs : List Int) (r : RuleD) : List Int := if r.choice || all then pickTo (pickM r.heads xs) 12 else r.heads
theorem putL_T {all : Bool} {xs : List Int} {r : RuleD} (h : (r.choice || all) = true) : putL all xs r = pickTo (pickM r.heads xs) 12 := if_pos h
theorem putL_F {all : Bool} {xs : List Int} {r : RuleD} (h : (r.choice || all) = false) : putL all xs r = r.heads := by unfold putL; rw [h]; rfl
/-- One round over the first k rules. -/
def stepTo (rs : List RuleD) (xs : List Int) (all : Bool) (s : List Int) : Nat → List Int
 | 0 => s
 | k + 1 => if reachB (nth rs k) (h2B s xs) then pickTo (pickJ (stepTo rs xs all s k) (putL all xs (nth rs k))) 12 else stepTo rs xs all s k
def iterL (rs : List RuleD) (xs : List Int) (all : Bool) : Nat → List Int
 | 0 => []
 | n + 1 => stepTo rs xs all (iterL rs xs all n) rs.length
/-- The least set that rules make. -/
def leastL (rs : List RuleD) (xs : List Int) (all : Bool) : List Int := iterL rs xs all 13

section
variable {rs : List RuleD} {xs : List Int} {all : Bool}
theorem stepTo_yes {s : List Int} {k : Nat} (h : reachB (nth rs k) (h2B s xs) = true) : stepTo rs xs all s (k + 1) = pickTo (pickJ (stepTo rs xs all s k) (putL all xs (nth rs k))) 12 := if_pos h
theorem stepTo_no {s : List Int} {k : Nat} (h : reachB (nth rs k) (h2B s xs) = false) : stepTo rs xs all s (k + 1) = stepTo rs xs all s k := by
 show (if reachB (nth rs k) (h2B s xs) = true then _ else _) = _
 rw [h]; rfl
theorem stepTo_isP {s : List Int} (hs : IsP s) : ∀ k, IsP (stepTo rs xs all s k)
 | 0 => hs
 | k + 1 => by
  cases h : reachB (nth rs k) (h2B s xs)
  ·rw [stepTo_no h]; exact stepTo_isP hs k
  ·rw [stepTo_yes h]; exact isP_pick _
theorem hasB_join {s t : List Int} {a : Int} (h : 1 ≤ a ∧ a ≤ 12) : hasB (pickTo (pickJ s t) 12) a = (hasB s a || hasB t a) := by
 rw [hasB_pickTo h]
 unfold pickJ pickF
 cases hasB s a <;> cases hasB t a <;> rfl
theorem hasB_meet {s t : List Int} {a : Int} (h : 1 ≤ a ∧ a ≤ 12) : hasB (pickTo (pickM s t) 12) a = (hasB s a && hasB t a) := by
 rw [hasB_pickTo h]
 unfold pickM pickF
 cases hasB s a <;> cases hasB t a <;> rfl
theorem stepTo_has {s : List Int} {a : Int} (h1 : 1 ≤ a) (h2 : a ≤ 12) : ∀ k, hasB (stepTo rs xs all s k) a = true ↔ hasB s a = true ∨ ∃ i, i < k ∧ reachB (nth rs i) (h2B s xs) = true ∧ hasB (putL all xs (nth rs i)) a = true
 | 0 => ⟨.inl, fun h => h.elim id fun ⟨i, hi, _⟩ => absurd hi (by omega)⟩
 | k + 1 => by
  have ih := stepTo_has (s := s) h1 h2 k
  cases h : reachB (nth rs k) (h2B s xs)
  ·rw [stepTo_no h, ih]
   constructor
   ·rintro (h | ⟨i, hi, hh⟩)
    ·exact .inl h
    ·exact .inr ⟨i, by omega, hh⟩
   ·rintro (hh | ⟨i, hi, h3, h4⟩)
    ·exact .inl hh
    ·refine .inr ⟨i, ?_, h3, h4⟩
     rcases Nat.lt_or_ge i k with hik | hik
     ·exact hik
     ·obtain rfl : i = k := by omega
      rw [h] at h3; cases h3
  ·rw [stepTo_yes h, hasB_join ⟨h1, h2⟩, Bool.or_eq_true, ih]
   constructor
   ·rintro ((hh | ⟨i, hi, hh⟩) | hh)
    ·exact .inl hh
    ·exact .inr ⟨i, by omega, hh⟩
    ·exact .inr ⟨k, by omega, h, hh⟩
   ·rintro (hh | ⟨i, hi, h3, h4⟩)
    ·exact .inl (.inl hh)
    ·rcases Nat.lt_or_ge i k with hik | hik
     ·exact .inl (.inr ⟨i, hik, h3, h4⟩)
     ·obtain rfl : i = k := by omega
      exact .inr h4
theorem stepTo_sub (s : List Int) (k : Nat) : Sub s (stepTo rs xs all s k) := fun _ h1 h2 h => (stepTo_has h1 h2 k).2 (.inl h)
theorem iterL_isP : ∀ n, IsP (iterL rs xs all n)
 | 0 => isP_nil
 | n + 1 => stepTo_isP (iterL_isP n) _
theorem iterL_sub (n : Nat) : Sub (iterL rs xs all n) (iterL rs xs all (n + 1)) := stepTo_sub _ _
theorem iterL_len (n : Nat) : (iterL rs xs all n).length ≤ (iterL rs xs all (n + 1)).length ∧ ((iterL rs xs all (n + 1)).length = (iterL rs xs all n).length → iterL rs xs all (n + 1) = iterL rs xs all n) := by
 have := (iterL_isP (rs := rs) (xs := xs) (all := all) n).len (iterL_isP (n + 1)) (iterL_sub n)
 exact ⟨this.1, fun e => (this.2 e.symm).symm⟩
theorem iterL_stay {n : Nat} (h : iterL rs xs all (n + 1) = iterL rs xs all n) : ∀ k, iterL rs xs all (n + k) = iterL rs xs all n
 | 0 => rfl
 | k + 1 => by
  have ih := iterL_stay h k
  show stepTo rs xs all (iterL rs xs all (n + k)) rs.length = _
  rw [ih]
  exact h
theorem iterL_grow : ∀ n, n ≤ (iterL rs xs all n).length ∨ iterL rs xs all (n + 1) = iterL rs xs all n
 | 0 => .inl (Nat.zero_le _)
 | n + 1 => by
  rcases iterL_grow n with h | h
  ·rcases Nat.eq_or_lt_of_le (iterL_len (rs := rs) (xs := xs) (all := all) n).1 with e | e
   ·have h2 := (iterL_len n).2 e.symm
    exact .inr ((iterL_stay h2 2).trans (iterL_stay h2 1).symm)
   ·exact .inl (by omega)
  ·exact .inr ((iterL_stay h 2).trans (iterL_stay h 1).symm)
/-- Where a round changes nothing, it is the least set. -/
theorem iterL_end {n : Nat} (hn : n ≤ 13) (h : (iterL rs xs all (n + 1)).length = (iterL rs xs all n).length) : iterL rs xs all n = leastL rs xs all := by
 have h2 := iterL_stay ((iterL_len n).2 h) (13 - n)
 rw [show n + (13 - n) = 13 by omega] at h2
 exact h2.symm
theorem least_isP : IsP (leastL rs xs all) := iterL_isP 13
theorem least_len : (leastL rs xs all).length ≤ 12 := least_isP.le
theorem least_fix : stepTo rs xs all (leastL rs xs all) rs.length = leastL rs xs all := by
 rcases iterL_grow (rs := rs) (xs := xs) (all := all) 13 with h | h
 ·have := (iterL_isP (rs := rs) (xs := xs) (all := all) 13).le
  omega
 ·exact h
/-- What is put there is there. -/
def Closed (rs : List RuleD) (xs : List Int) (all : Bool) (c : List Int) : Prop := ∀ r ∈ rs, reachB r (h2B c xs) = true → Sub (putL all xs r) c
theorem least_closed : Closed rs xs all (leastL rs xs all) := by
 intro r hr h a h1 h2 ha
 obtain ⟨i, hi, rfl⟩ := List.getElem_of_mem hr
 rw [← nth_eq hi] at h ha
 rw [← least_fix]
 exact (stepTo_has h1 h2 _).2 (.inr ⟨i, hi, h, ha⟩)
/-- No weight is below 0. -/
def Wts (rs : List RuleD) : Prop := ∀ r ∈ rs, ∀ p ∈ r.body, 0 ≤ p.2
theorem stepTo_min (hw : Wts rs) {s c : List Int} (hc : Closed rs xs all c) (hs : Sub s c) {k : Nat} (hk : k ≤ rs.length) : Sub (stepTo rs xs all s k) c := by
 intro a h1 h2 ha
 rcases (stepTo_has h1 h2 _).1 ha with h | ⟨i, hi, h3, h4⟩
 ·exact hs a h1 h2 h
 ·have hm : nth rs i ∈ rs := nth_mem (by omega)
  exact hc _ hm (reachB_mono (hw _ hm) (fun p _ => h2B_mono hs) h3) a h1 h2 h4
theorem iterL_min (hw : Wts rs) {c : List Int} (hc : Closed rs xs all c) : ∀ n, Sub (iterL rs xs all n) c
 | 0 => fun _ _ _ h => by simp [iterL, hasB] at h
 | n + 1 => stepTo_min hw hc (iterL_min hw hc n) (Nat.le_refl _)
theorem least_min (hw : Wts rs) {c : List Int} (hc : Closed rs xs all c) : Sub (leastL rs xs all) c := iterL_min hw hc 13
theorem least_uniq (hw : Wts rs) {c : List Int} (hp : IsP c) (hc : Closed rs xs all c) (h : Sub c (leastL rs xs all)) : c = leastL rs xs all :=
 hp.eq least_isP h (least_min hw hc)
end
/-- Of a greater set the least set is a lesser one. -/
theorem least_anti {rs : List RuleD} {xs ys : List Int} (hw : Wts rs) (hch : ∀ r ∈ rs, r.choice = false) (h : Sub xs ys) : Sub (leastL rs ys false) (leastL rs xs false) := by
 refine least_min hw fun r hr hy => ?_
 have := least_closed (rs := rs) (xs := xs) (all := false) r hr (reachB_mono (hw r hr) (fun p _ => h2B_anti h) hy)
 rw [putL_F (by rw [hch r hr]; rfl)] at this ⊢
 exact this
theorem wts_ok {rs : List RuleD} {n : Int} (h : ∀ r ∈ rs, ruleOkB r n = true) : Wts rs := fun r hr p hp => by
 have := (ruleOk_facts (h r hr)).2.2 p hp
 omega

end Go.Proofs.YthikhkeofcjdfaaGreat
