/-
  BodyHolds: what spec.BodyHolds and impl.BodyHolds answer. No condition of its own.
-/
import Derived.Test.YtmndmhnhcoblnaaGreatImplRule
import Derived.Deep.RegionHeld3
import Derived.Deep.RegionWith
namespace Go.Proofs.YtmndmhnhcoblnaaGreat
open Go.RowKit
set_option maxRecDepth 100000

theorem ruleOk_facts {r : RuleD} {n : Int} (h : ruleOkB r n = true) : r.body.length ≤ 20 ∧ (-100000 ≤ r.bound ∧ r.bound ≤ 100000) ∧ ∀ p ∈ r.body, litB p.1 n = true ∧ 1 ≤ p.2 ∧ p.2 ≤ 1000 ∧ (r.weight = false → p.2 = 1) := by
  simp only [ruleOkB, bodyB, Bool.and_eq_true, decide_eq_true_eq, List.all_eq_true, wlitB, btwB, Bool.or_eq_true, beq_iff_eq] at h
  obtain ⟨_, ⟨⟨h1, _⟩, h2⟩, h3⟩ := h
  refine ⟨h1, h2, fun p hp => ?_⟩
  obtain ⟨⟨h4, h5⟩, h6⟩ := h3 p hp
  refine ⟨h4, h6.1, h6.2, fun hw => ?_⟩
  rcases h5 with h5 | h5
  · rw [hw] at h5; cases h5
  · exact h5
theorem lit12 {l : Int} (h : litB l 12 = true) : (1 ≤ l ∧ l ≤ 12) ∨ (-12 ≤ l ∧ l ≤ -1) := by
  simpa [litB, btwB] using h

/-- The W of the literals for which f is true, together. -/
def sumH (f : Int × Int → Bool) : List (Int × Int) → Int
  | [] => 0
  | p :: l => (if f p then p.2 else 0) + sumH f l
theorem sumH_snoc (f : Int × Int → Bool) (p : Int × Int) : ∀ l, sumH f (l ++ [p]) = sumH f l + (if f p then p.2 else 0)
  | [] => by simp [sumH]
  | q :: l => by simp only [List.cons_append, sumH, sumH_snoc f p l]; omega
theorem sumH_take {f : Int × Int → Bool} {l : List (Int × Int)} {k : Nat} (hk : k < l.length) : sumH f (l.take (k + 1)) = sumH f (l.take k) + (if f (nth l k) then (nth l k).2 else 0) := by
  rw [take_nth hk, sumH_snoc]
theorem sumH_yes {f : Int × Int → Bool} {l : List (Int × Int)} {k : Nat} (hk : k < l.length) (h : f (nth l k) = true) : sumH f (l.take (k + 1)) = sumH f (l.take k) + (nth l k).2 := by
  rw [sumH_take hk, h]; rfl
theorem sumH_no {f : Int × Int → Bool} {l : List (Int × Int)} {k : Nat} (hk : k < l.length) (h : f (nth l k) = false) : sumH f (l.take (k + 1)) = sumH f (l.take k) := by
  rw [sumH_take hk, h]; simp
theorem sumH_end {f : Int × Int → Bool} {l : List (Int × Int)} {k : Nat} (hk : l.length ≤ k) : sumH f (l.take k) = sumH f l := by rw [List.take_of_length_le hk]
theorem sumH_bd {f : Int × Int → Bool} : ∀ {l : List (Int × Int)}, (∀ p ∈ l, 1 ≤ p.2 ∧ p.2 ≤ 1000) → 0 ≤ sumH f l ∧ sumH f l ≤ 1000 * l.length
  | [], _ => by simp [sumH]
  | p :: l, h => by
    have ih := sumH_bd (f := f) (l := l) fun q hq => h q (List.mem_cons_of_mem _ hq)
    have hp := h p (List.mem_cons_self ..)
    simp only [sumH, List.length_cons]
    split <;> omega
theorem sumH_take_bd {f : Int × Int → Bool} {l : List (Int × Int)} (k : Nat) (h : ∀ p ∈ l, 1 ≤ p.2 ∧ p.2 ≤ 1000) (hl : l.length ≤ 20) : 0 ≤ sumH f (l.take k) ∧ sumH f (l.take k) ≤ 20000 := by
  have h1 := sumH_bd (f := f) (l := l.take k) fun q hq => h q (List.mem_of_mem_take hq)
  have h2 : (l.take k).length ≤ l.length := by rw [List.length_take]; omega
  omega
theorem sumH_ones {f : Int × Int → Bool} : ∀ {l : List (Int × Int)}, (∀ p ∈ l, p.2 = 1) → sumH f l ≤ l.length ∧ ((l.length : Int) ≤ sumH f l ↔ l.all f = true)
  | [], _ => by simp [sumH]
  | p :: l, h => by
    have ih := sumH_ones (f := f) (l := l) fun q hq => h q (List.mem_cons_of_mem _ hq)
    have hp := h p (List.mem_cons_self ..)
    obtain ⟨h1, h2⟩ := ih
    cases hf : f p
    · have e1 : sumH f (p :: l) = sumH f l := by simp [sumH, hf]
      have e2 : (p :: l).all f = false := by simp [hf]
      rw [e1, e2, List.length_cons]
      refine ⟨by omega, fun h => by omega, fun h => by cases h⟩
    · have e1 : sumH f (p :: l) = 1 + sumH f l := by simp [sumH, hf, hp]
      have e2 : (p :: l).all f = l.all f := by simp [hf]
      rw [e1, e2, List.length_cons, ← h2]
      refine ⟨by omega, fun h => by omega, fun h => by omega⟩
theorem sumH_congr {f g : Int × Int → Bool} : ∀ {l : List (Int × Int)}, (∀ p ∈ l, f p = g p) → sumH f l = sumH g l
  | [], _ => rfl
  | p :: l, h => by
    simp only [sumH, h p (List.mem_cons_self ..), sumH_congr (l := l) fun q hq => h q (List.mem_cons_of_mem _ hq)]

/-- Does a body hold, told by which of its literals hold? (Of a rule that is ok.) -/
def reachB (r : RuleD) (f : Int × Int → Bool) : Bool := if r.weight then decide (r.bound ≤ sumH f r.body) else r.body.all f
theorem reachB_T {r : RuleD} {f : Int × Int → Bool} (hw : r.weight = true) : reachB r f = decide (r.bound ≤ sumH f r.body) := by simp only [reachB, hw, if_true]
theorem reachB_F {r : RuleD} {f : Int × Int → Bool} (hw : r.weight = false) : reachB r f = r.body.all f := by simp [reachB, hw]
theorem reachB_congr {r : RuleD} {f g : Int × Int → Bool} (h : ∀ p ∈ r.body, f p = g p) : reachB r f = reachB r g := by
  unfold reachB; rw [sumH_congr h, all_congr h]

/-- What is above 0 is asked of xs, what is below 0 of ys. -/
def h2B (xs ys : List Int) (p : Int × Int) : Bool := decide (0 < p.1) && holdsB xs p.1 || decide (p.1 < 0) && holdsB ys p.1
theorem h2B_pos {xs ys : List Int} {p : Int × Int} (h : 0 < p.1) : h2B xs ys p = holdsB xs p.1 := by
  unfold h2B; rw [decide_eq_true h, decide_eq_false (by omega)]; simp
theorem h2B_neg {xs ys : List Int} {p : Int × Int} (h : p.1 < 0) : h2B xs ys p = holdsB ys p.1 := by
  unfold h2B; rw [decide_eq_false (by omega), decide_eq_true h]; simp
theorem h2B_same {xs : List Int} {p : Int × Int} : h2B xs xs p = holdsB xs p.1 := by
  by_cases h : 0 < p.1
  · exact h2B_pos h
  · by_cases h' : p.1 < 0
    · exact h2B_neg h'
    · have e : p.1 = 0 := by omega
      unfold h2B
      rw [e]
      simp [holdsB]

theorem all_take_no {α : Type} [Inhabited α] {f : α → Bool} {xs : List α} {k : Nat} (hk : k < xs.length) (h1 : f (nth xs k) = false) : (xs.take (k + 1)).all f = false := by
  rw [take_nth hk, List.all_append]; simp [h1]
theorem all_take_yes {α : Type} [Inhabited α] {f : α → Bool} {xs : List α} {k : Nat} (hk : k < xs.length) (h1 : f (nth xs k) = true) : (xs.take (k + 1)).all f = (xs.take k).all f := by
  rw [take_nth hk, List.all_append]; simp [h1]

theorem takeD {P : Program} {ops : Array Oper} {Q : Exit → Act → World → Prop} {md : Region.Mode} {S : World → Prop} {i : Nat} {oi : Oper} {v : Value} (d : Option Tmp) {fuel : Nat} {listed : Array Bool} {a : Act} {w : World} (hi : ops[i]? = some oi) (hd : oi.dst = d)
    (hs : Region.noSelect ops = true) (hf : Region.free md ops listed i = true) (hr : (Region.ready md ops listed).contains i = true)
    (hQ : ∀ c a w, Q (.panic c) (a.put oi.dst v) w → Q (.panic c) a w) (hy : YieldsIf P ops S oi v a) (hS : S w)
    (h : wpAnyH P md ops Q S fuel (listed.setIfInBounds i true) (a.put d v) w) : wpAnyH P md ops Q S (fuel + 1) listed a w := by
  subst hd
  exact wpAnyH_take hi hs hf hr hQ hy hS h

/-- BodyHolds. -/
def bodyHoldsB (r : RuleD) (xs : List Int) : Bool := ruleOkB r 12 && reachB r (fun p => holdsB xs p.1)
theorem bodyHoldsB_no {r : RuleD} {xs : List Int} (h : ruleOkB r 12 = false) : bodyHoldsB r xs = false := by simp only [bodyHoldsB, h, Bool.false_and]
theorem bodyHoldsB_yes {r : RuleD} {xs : List Int} (h : ruleOkB r 12 = true) : bodyHoldsB r xs = reachB r (fun p => holdsB xs p.1) := by simp only [bodyHoldsB, h, Bool.true_and]
theorem reach_same (r : RuleD) (xs : List Int) : reachB r (h2B xs xs) = reachB r (fun p => holdsB xs p.1) := reachB_congr fun _ _ => h2B_same

/-- What the code adds up. -/
def needI (r : RuleD) : Int := if r.weight then r.bound else r.body.length
theorem needI_T {r : RuleD} (hw : r.weight = true) : needI r = r.bound := by simp only [needI, hw, if_true]
theorem needI_F {r : RuleD} (hw : r.weight = false) : needI r = r.body.length := by simp [needI, hw]

def reachI (r : RuleD) (m : Nat) : Bool := decide (needI r ≤ sumH (fun p => litM m p.1) r.body)
theorem reachI_same {r : RuleD} {xs : List Int} (hok : ruleOkB r 12 = true) (hf : FitsR r) : reachI r (maskOf xs) = reachB r (fun p => holdsB xs p.1) := by
  have hc : ∀ p ∈ r.body, (fun p : Int × Int => litM (maskOf xs) p.1) p = (fun p => holdsB xs p.1) p := fun p hp => litM_same xs p.1 (hf.2 p hp).1
  unfold reachI
  rw [sumH_congr hc]
  obtain ⟨_, _, hall⟩ := ruleOk_facts hok
  cases hw : r.weight
  · rw [reachB_F hw, needI_F hw]
    have := (sumH_ones (f := fun p => holdsB xs p.1) (l := r.body) fun p hp => (hall p hp).2.2.2 hw).2
    rw [Bool.eq_iff_iff, decide_eq_true_eq]
    exact this
  · rw [reachB_T hw, needI_T hw]

end Go.Proofs.YtmndmhnhcoblnaaGreat
