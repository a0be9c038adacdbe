/-
  What must be: pure. No condition of its own.
-/
import Derived.Test.YtjainjpcpnoikaaValF
import Derived.Test.YtjainjpcpnoikaaValL
import Derived.Test.YtjainjpcpnoikaaSupD
namespace Go.Proofs.Ytjainjpcpnoikaa
set_option linter.unusedVariables false
set_option linter.unusedSimpArgs false
open Go.RowKit
set_option maxRecDepth 100000
set_option linter.unusedVariables false
set_option linter.unusedSimpArgs false

theorem list_ext_el {xs ys : List Int} (hl : xs.length = ys.length) (h : ∀ i, i < xs.length → el xs i = el ys i) : xs = ys := by
  refine List.ext_getElem hl fun i h1 h2 => ?_
  have := h i h1
  rwa [el_eq h1, el_eq h2] at this
def setV (vs : List Int) (a v : Int) : List Int := vs.set (a - 1).toNat v
theorem valB_set {vs : List Int} {a v k x : Int} (ha : 1 ≤ a ∧ a ≤ (vs.length : Int)) : valB (setV vs a v) k x = if x = a then decide (v = k) else valB vs k x := by
  unfold valB setV
  rw [List.length_set, el_set (by omega)]
  by_cases e : x = a
  · subst e
    rw [if_pos rfl, if_pos rfl, decide_eq_decide]
    exact ⟨fun h => h.2.2, fun h => ⟨ha.1, ha.2, h⟩⟩
  · rw [if_neg e, decide_eq_decide]
    constructor
    · rintro ⟨h1, h2, h3⟩
      rw [if_neg (by omega)] at h3
      exact ⟨h1, h2, h3⟩
    · rintro ⟨h1, h2, h3⟩
      exact ⟨h1, h2, by rw [if_neg (by omega)]; exact h3⟩
theorem valB_in {vs : List Int} {k a : Int} (h : valB vs k a = true) : 1 ≤ a ∧ a ≤ (vs.length : Int) := by
  unfold valB at h; rw [decide_eq_true_eq] at h; exact ⟨h.1, h.2.1⟩
theorem valB_two {vs : List Int} {j k a : Int} (h : valB vs j a = true) (hne : j ≠ k) : valB vs k a = false := by
  unfold valB at h ⊢
  rw [decide_eq_true_eq] at h
  rw [decide_eq_false_iff_not]
  rintro ⟨_, _, h3⟩
  exact hne (h.2.2.symm.trans h3)

theorem mask_ext {a b : Nat} (ha : a < 4096) (hb : b < 4096) (h : ∀ x : Int, 1 ≤ x → x ≤ 12 → hasM a x = hasM b x) : a = b := by
  rw [← mask_mset ha, ← mask_mset hb]
  congr 1
  exact pickTo_congr fun x h1 h2 => h x h1 (by omega)
theorem hasM_less {a b : Nat} {x : Int} (ha : a < 4096) (hb : b < 4096) (h : 1 ≤ x ∧ x ≤ 12) : hasM (a &&& (65535 - b)) x = (hasM a x && !hasM b x) := by
  have := less_bit (mset a) (mset b) x h
  rw [mask_mset ha, mask_mset hb, hasB_mset h, hasB_mset h] at this
  exact this
/-- Have two sets no atom together? -/
def apartB (m f : Nat) : Bool := (((m &&& f : Nat) : Int) == 0)
theorem apart_iff {m f : Nat} (hm : m < 4096) : apartB m f = true ↔ ∀ x : Int, 1 ≤ x → x ≤ 12 → hasM m x = true → hasM f x = false := by
  have hl : m &&& f < 4096 := Nat.lt_of_le_of_lt Nat.and_le_left hm
  unfold apartB
  rw [beq_iff_eq]
  constructor
  · intro h x h1 h2 hx
    have h0 : m &&& f = 0 := by omega
    have := hasM_and (a := m) (b := f) (x := x) ⟨h1, h2⟩
    rw [h0, hasM_zero, hx, Bool.true_and] at this
    exact this.symm
  · intro h
    have : m &&& f = 0 := zero_of_bits hl fun x h1 h2 => by
      rw [hasM_and ⟨h1, h2⟩]
      cases hx : hasM m x
      · rfl
      · rw [h x h1 h2 hx]; rfl
    omega
theorem vals_apart (vs : List Int) : apartB (maskOf (withL vs 1)) (maskOf (withL vs 2)) = true := by
  rw [apart_iff (maskOf_lt _)]
  intro x h1 h2 h
  rw [hasM_with ⟨h1, h2⟩] at h ⊢
  exact valB_two h (by omega)

/-- The atoms that are not IsFalse. -/
def notF (vs : List Int) : List Int := pickTo (fun a => !valB vs 2 a) 12
/-- Must a body hold? -/
def mustB (r : RuleD) (vs : List Int) : Bool := reachB r (h2B (withL vs 1) (notF vs))
theorem maskOf_notF (vs : List Int) : 4095 &&& (65535 - maskOf (withL vs 2)) = maskOf (notF vs) := by
  refine mask_ext (Nat.lt_of_le_of_lt Nat.and_le_left (by omega)) (maskOf_lt _) fun x h1 h2 => ?_
  have h : 1 ≤ x ∧ x ≤ 12 := ⟨h1, h2⟩
  rw [hasM_less (by omega) (maskOf_lt _) h, hasM_all h, hasM_with h, hasM_maskOf _ _ h]
  unfold notF
  rw [hasB_pickTo h, Bool.true_and]
/-- As the model has it. -/
def notS (n : Nat) (vs : List Int) : List Int := pickTo (pickL (setOfS ((2 ^ n : Nat) - 1 : Int)) (withL vs 2)) 12
theorem hasB_all {n : Nat} (hn : n ≤ 12) {x : Int} (h : 1 ≤ x ∧ x ≤ 12) : hasB (setOfS ((2 ^ n : Nat) - 1 : Int)) x = decide (x ≤ n) := by
  have h1 : 1 ≤ 2 ^ n := Nat.one_le_two_pow
  have h2 : 2 ^ n ≤ 2 ^ 12 := Nat.pow_le_pow_right (by omega) hn
  rw [← of_same]
  unfold setOf
  rw [if_pos ⟨by omega, by omega⟩, hasB_pickTo h, show (((2 ^ n : Nat) : Int) - 1).toNat = 2 ^ n - 1 by omega, hasM_upTo h]
theorem hasB_notS {n : Nat} (hn : n ≤ 12) {vs : List Int} {x : Int} (h : 1 ≤ x ∧ x ≤ 12) : hasB (notS n vs) x = (decide (x ≤ n) && !valB vs 2 x) := by
  unfold notS
  rw [hasB_pickTo h]
  unfold pickL pickF
  rw [hasB_all hn h, hasB_with h]
  cases decide (x ≤ (n : Int)) <;> cases valB vs 2 x <;> rfl
theorem must_same {r : RuleD} {n : Nat} {vs : List Int} (hn : n ≤ 12) (hok : ruleOkB r (n : Int) = true) : reachB r (h2B (withL vs 1) (notS n vs)) = mustB r vs := by
  refine reachB_congr fun p hp => ?_
  obtain ⟨hl, _⟩ := (ruleOk_facts hok).2.2 p hp
  simp only [litB, btwB, Bool.or_eq_true, decide_eq_true_eq] at hl
  by_cases h1 : 0 < p.1
  · rw [h2B_pos h1, h2B_pos h1]
  · have h2 : p.1 < 0 := by omega
    rw [h2B_neg h2, h2B_neg h2, holdsB_neg ⟨by omega, by omega⟩, holdsB_neg ⟨by omega, by omega⟩]
    have hx : 1 ≤ -p.1 ∧ -p.1 ≤ 12 := ⟨by omega, by omega⟩
    rw [hasB_notS hn hx, decide_eq_true (show -p.1 ≤ (n : Int) by omega), Bool.true_and]
    unfold notF
    rw [hasB_pickTo hx]

/-- What comes of one rule: none where there is a clash. -/
def fOne (r : RuleD) (vs : List Int) : Option (List Int) :=
  if r.choice then some vs else if mustB r vs then (match r.heads with | [] => none | h :: _ => if valB vs 2 h then none else some (setV vs h 1)) else some vs
theorem fOne_ch {r : RuleD} {vs : List Int} (h : r.choice = true) : fOne r vs = some vs := by unfold fOne; rw [h]; rfl
theorem fOne_no {r : RuleD} {vs : List Int} (h : mustB r vs = false) : fOne r vs = some vs := by
  unfold fOne; rw [h]; split <;> rfl
theorem fOne_nil {r : RuleD} {vs : List Int} (hc : r.choice = false) (h : mustB r vs = true) (hh : r.heads = []) : fOne r vs = none := by
  unfold fOne; rw [hc, h, hh]; rfl
theorem fOne_clash {r : RuleD} {vs : List Int} {a : Int} {l : List Int} (hc : r.choice = false) (h : mustB r vs = true) (hh : r.heads = a :: l) (hv : valB vs 2 a = true) : fOne r vs = none := by
  unfold fOne; rw [hc, h, hh]; simp [hv]
theorem fOne_set {r : RuleD} {vs : List Int} {a : Int} {l : List Int} (hc : r.choice = false) (h : mustB r vs = true) (hh : r.heads = a :: l) (hv : valB vs 2 a = false) : fOne r vs = some (setV vs a 1) := by
  unfold fOne; rw [hc, h, hh]; simp [hv]
theorem head_ok {r : RuleD} {n : Int} {a : Int} {l : List Int} (hok : ruleOkB r n = true) (hc : r.choice = false) (hh : r.heads = a :: l) : l = [] ∧ 1 ≤ a ∧ a ≤ n := by
  simp only [ruleOkB, headsB, Bool.and_eq_true] at hok
  obtain ⟨⟨h1, h2⟩, _⟩ := hok
  rw [hc, hh] at h2
  simp at h2
  subst h2
  rw [hh] at h1
  unfold setOkB at h1
  rw [Bool.and_eq_true, decide_eq_true_eq] at h1
  have h3 := h1.2
  simp [okTo, okStep, el] at h3
  exact ⟨rfl, by omega, by omega⟩
/-- Nothing but what is UnKnown changes. -/
def Ext (vs us : List Int) : Prop := us.length = vs.length ∧ ∀ i, i < vs.length → el us i = el vs i ∨ el vs i = 0
theorem Ext.refl (vs : List Int) : Ext vs vs := ⟨rfl, fun _ _ => .inl rfl⟩
theorem Ext.trans {a b c : List Int} (h : Ext a b) (k : Ext b c) : Ext a c := ⟨k.1.trans h.1, fun i hi => by
  rcases h.2 i hi with e | e
  · rcases k.2 i (by rw [h.1]; exact hi) with e2 | e2
    · exact .inl (e2.trans e)
    · exact .inr (e.symm.trans e2)
  · exact .inr e⟩
theorem ext_set {vs : List Int} {i : Nat} {v : Int} (hi : i < vs.length) (h : el vs i = v ∨ el vs i = 0) : Ext vs (vs.set i v) :=
  ⟨List.length_set, fun j hj => by
    rw [el_set hi]
    by_cases e : i = j
    · subst e
      rw [if_pos rfl]
      rcases h with h | h
      · exact .inl h.symm
      · exact .inr h
    · rw [if_neg e]; exact .inl rfl⟩
theorem fOne_ok {r : RuleD} {n : Nat} {vs us : List Int} (hv : VOk n vs) (hok : ruleOkB r (n : Int) = true) (h : fOne r vs = some us) : VOk n us ∧ Ext vs us := by
  cases hc : r.choice
  · cases hm : mustB r vs
    · rw [fOne_no hm] at h; cases h; exact ⟨hv, Ext.refl _⟩
    · cases hh : r.heads with
      | nil => rw [fOne_nil hc hm hh] at h; cases h
      | cons a l =>
        obtain ⟨_, ha⟩ := head_ok hok hc hh
        cases h2 : valB vs 2 a
        · rw [fOne_set hc hm hh h2] at h
          cases h
          refine ⟨hv.set (.inr (.inl rfl)), ext_set (by have := hv.1; omega) ?_⟩
          have hk : (a - 1).toNat < n := by omega
          have hne : ¬ el vs (a - 1).toNat = 2 := by
            intro e
            unfold valB at h2
            rw [decide_eq_false_iff_not] at h2
            exact h2 ⟨ha.1, by rw [hv.1]; exact ha.2, e⟩
          rcases hv.el hk with e | e | e
          · exact .inr e
          · exact .inl e
          · exact absurd e hne
        · rw [fOne_clash hc hm hh h2] at h; cases h
  · rw [fOne_ch hc] at h; cases h; exact ⟨hv, Ext.refl _⟩
/-- Of the first k rules. -/
def fTo (rs : List RuleD) (vs : List Int) : Nat → Option (List Int)
  | 0 => some vs
  | k + 1 => (fTo rs vs k).bind (fOne (nth rs k))
theorem fTo_next {rs : List RuleD} {vs us : List Int} {k : Nat} (h : fTo rs vs k = some us) : fTo rs vs (k + 1) = fOne (nth rs k) us := by
  show (fTo rs vs k).bind _ = _; rw [h]; rfl
theorem fTo_none {rs : List RuleD} {vs : List Int} {k : Nat} (h : fTo rs vs k = none) : ∀ {m : Nat}, k ≤ m → fTo rs vs m = none
  | 0, hm => by rw [show k = 0 by omega] at h; exact h
  | m + 1, hm => by
    by_cases e : k = m + 1
    · rw [e] at h; exact h
    · show (fTo rs vs m).bind _ = _
      rw [fTo_none h (by omega)]; rfl
theorem fTo_ok {rs : List RuleD} {n : Nat} {vs us : List Int} (hv : VOk n vs) (hok : ∀ r ∈ rs, ruleOkB r (n : Int) = true) : ∀ {k : Nat}, k ≤ rs.length → fTo rs vs k = some us → VOk n us ∧ Ext vs us
  | 0, _, h => by cases h; exact ⟨hv, Ext.refl _⟩
  | k + 1, hk, h => by
    cases e : fTo rs vs k with
    | none => rw [fTo_none e (by omega)] at h; cases h
    | some ws =>
      obtain ⟨h1, h2⟩ := fTo_ok hv hok (by omega) e
      rw [fTo_next e] at h
      obtain ⟨h3, h4⟩ := fOne_ok h1 (hok _ (nth_mem (by omega))) h
      exact ⟨h3, h2.trans h4⟩

/-- What may not come is IsFalse. -/
def exOne (s us : List Int) (k : Nat) : Option (List Int) := if hasB s ((k : Int) + 1) then some us else if el us k = 1 then none else some (us.set k 2)
theorem exOne_in {s us : List Int} {k : Nat} (h : hasB s ((k : Int) + 1) = true) : exOne s us k = some us := by unfold exOne; rw [h]; rfl
theorem exOne_clash {s us : List Int} {k : Nat} (h : hasB s ((k : Int) + 1) = false) (h1 : el us k = 1) : exOne s us k = none := by unfold exOne; rw [h, if_pos h1]; rfl
theorem exOne_set {s us : List Int} {k : Nat} (h : hasB s ((k : Int) + 1) = false) (h1 : ¬ el us k = 1) : exOne s us k = some (us.set k 2) := by unfold exOne; rw [h, if_neg h1]; rfl
def exTo (s vs : List Int) : Nat → Option (List Int)
  | 0 => some vs
  | k + 1 => (exTo s vs k).bind fun us => exOne s us k
theorem exTo_next {s vs us : List Int} {k : Nat} (h : exTo s vs k = some us) : exTo s vs (k + 1) = exOne s us k := by
  show (exTo s vs k).bind _ = _; rw [h]; rfl
theorem exTo_none {s vs : List Int} {k : Nat} (h : exTo s vs k = none) : ∀ {m : Nat}, k ≤ m → exTo s vs m = none
  | 0, hm => by rw [show k = 0 by omega] at h; exact h
  | m + 1, hm => by
    by_cases e : k = m + 1
    · rw [e] at h; exact h
    · show (exTo s vs m).bind _ = _
      rw [exTo_none h (by omega)]; rfl
theorem exTo_ok {s vs us : List Int} {n : Nat} (hv : VOk n vs) : ∀ {k : Nat}, k ≤ n → exTo s vs k = some us → VOk n us ∧ Ext vs us
  | 0, _, h => by cases h; exact ⟨hv, Ext.refl _⟩
  | k + 1, hk, h => by
    cases e : exTo s vs k with
    | none => rw [exTo_none e (by omega)] at h; cases h
    | some ws =>
      obtain ⟨h1, h2⟩ := exTo_ok hv (by omega) e
      rw [exTo_next e] at h
      cases hs : hasB s ((k : Int) + 1)
      · by_cases h5 : el ws k = 1
        · rw [exOne_clash hs h5] at h; cases h
        · rw [exOne_set hs h5] at h
          cases h
          refine ⟨h1.set (.inr (.inr rfl)), h2.trans (ext_set (by have := h1.1; omega) ?_)⟩
          rcases h1.el (show k < n by omega) with e | e | e
          · exact .inr e
          · exact absurd e h5
          · exact .inl e
      · rw [exOne_in hs] at h; cases h; exact ⟨h1, h2⟩
/-- Told of all of it: a clash is an atom that is IsTrue and may not come. -/
theorem exTo_val {s vs : List Int} {n : Nat} (hv : VOk n vs) : ∀ {k : Nat}, k ≤ n →
    (∀ us, exTo s vs k = some us → (∀ a : Int, 1 ≤ a → a ≤ k → hasB s a = false → valB vs 1 a = false) ∧ us.length = n ∧
      ∀ x v : Int, valB us v x = if 1 ≤ x ∧ x ≤ k ∧ hasB s x = false then decide (2 = v) else valB vs v x) ∧
    (exTo s vs k = none → ∃ a : Int, 1 ≤ a ∧ a ≤ k ∧ hasB s a = false ∧ valB vs 1 a = true)
  | 0, _ => ⟨fun us h => by
      cases h
      exact ⟨fun a h1 h2 => absurd h2 (by omega), hv.1, fun x v => by rw [if_neg (by omega)]⟩, fun h => by cases h⟩
  | k + 1, hk => by
    obtain ⟨i1, i2⟩ := exTo_val (s := s) hv (show k ≤ n by omega)
    cases e : exTo s vs k with
    | none =>
      refine ⟨fun us h => ?_, fun _ => ?_⟩
      · rw [exTo_none e (by omega)] at h; cases h
      · obtain ⟨a, h1, h2, h3⟩ := i2 e
        exact ⟨a, h1, by omega, h3⟩
    | some ws =>
      obtain ⟨j1, j2, j3⟩ := i1 ws e
      have hel : valB ws 1 ((k : Int) + 1) = valB vs 1 ((k : Int) + 1) := by rw [j3, if_neg (by omega)]
      rw [exTo_next e]
      cases hs : hasB s ((k : Int) + 1)
      · by_cases h5 : el ws k = 1
        · rw [exOne_clash hs h5]
          refine ⟨fun us h => (by cases h), fun _ => ⟨(k : Int) + 1, by omega, by omega, hs, ?_⟩⟩
          rw [← hel]
          exact valB_yes (by omega) h5
        · rw [exOne_set hs h5]
          refine ⟨fun us h => ?_, fun h => (by cases h)⟩
          cases h
          refine ⟨fun a h1 h2 h3 => ?_, by rw [List.length_set]; exact j2, fun x v => ?_⟩
          · by_cases ha : a = (k : Int) + 1
            · subst ha
              rw [← hel]
              exact valB_no (by omega) h5
            · exact j1 a h1 (by omega) h3
          · have := valB_set (vs := ws) (a := (k : Int) + 1) (v := 2) (k := v) (x := x) ⟨by omega, by omega⟩
            unfold setV at this
            rw [show ((k : Int) + 1 - 1).toNat = k by omega] at this
            rw [this]
            by_cases hx : x = (k : Int) + 1
            · subst hx
              rw [if_pos rfl, if_pos ⟨by omega, by omega, hs⟩]
            · rw [if_neg hx, j3]
              by_cases hy : 1 ≤ x ∧ x ≤ k ∧ hasB s x = false
              · rw [if_pos hy, if_pos ⟨hy.1, by omega, hy.2.2⟩]
              · rw [if_neg hy, if_neg (by rintro ⟨y1, y2, y3⟩; exact hy ⟨y1, by omega, y3⟩)]
      · rw [exOne_in hs]
        refine ⟨fun us h => ?_, fun h => (by cases h)⟩
        cases h
        refine ⟨fun a h1 h2 h3 => ?_, j2, fun x v => ?_⟩
        · by_cases ha : a = (k : Int) + 1
          · subst ha; rw [hs] at h3; cases h3
          · exact j1 a h1 (by omega) h3
        · rw [j3]
          by_cases hy : 1 ≤ x ∧ x ≤ k ∧ hasB s x = false
          · rw [if_pos hy, if_pos ⟨hy.1, by omega, hy.2.2⟩]
          · rw [if_neg hy, if_neg]
            rintro ⟨y1, y2, y3⟩
            by_cases hx : x = (k : Int) + 1
            · subst hx; rw [hs] at y3; cases y3
            · exact hy ⟨y1, by omega, y3⟩

/-- A rule whose heads may all come. -/
def comeR (no : List Int) (r : RuleD) : RuleD := { r with choice := false, heads := pickTo (pickL r.heads no) 12 }
/-- The atoms that may come. -/
def comeL (rs : List RuleD) (vs : List Int) : List Int := leastL (rs.map (comeR (withL vs 2))) (withL vs 1) false
theorem moreOk_come (rs : List RuleD) (vs : List Int) : MoreOk rs (withL vs 1) false (comeR (withL vs 2)) 4095 (4095 &&& (65535 - maskOf (withL vs 2))) := by
  refine ⟨fun r _ x h1 h2 => ?_, fun _ _ => rfl, fun _ => rfl⟩
  have h : 1 ≤ x ∧ x ≤ 12 := ⟨h1, h2⟩
  have hg : hasM (givesM r 4095) x = hasB r.heads x := by
    cases hc : r.choice
    · rw [givesM_F hc, hasM_maskOf _ _ h]
    · rw [givesM_T hc, hasM_and h, hasM_all h, Bool.and_true, hasM_maskOf _ _ h]
  unfold moreG
  rw [hasM_and h, hg, hasM_less (by omega) (maskOf_lt _) h, hasM_all h, Bool.true_and, hasM_with h, putL_F rfl]
  show _ = hasB (pickTo (pickL r.heads (withL vs 2)) 12) x
  rw [hasB_pickTo h]
  unfold pickL pickF
  rw [hasB_with h]
  cases hasB r.heads x <;> cases valB vs 2 x <;> rfl
/-- Nothing that may come is IsFalse. -/
theorem come_apart {rs : List RuleD} {no yes : List Int} : ∀ n, pickTo (pickL (iterL (rs.map (comeR no)) yes false n) no) 12 = iterL (rs.map (comeR no)) yes false n := by
  have key : ∀ n, ∀ a : Int, 1 ≤ a → a ≤ 12 → hasB (iterL (rs.map (comeR no)) yes false n) a = true → hasB no a = false := by
    intro n
    induction n with
    | zero => intro a _ _ h; simp [iterL, hasB] at h
    | succ n ih =>
      intro a h1 h2 h
      rcases (stepTo_has h1 h2 _).1 h with h | ⟨i, hi, _, h4⟩
      · exact ih a h1 h2 h
      · rw [nth_map' (by rwa [List.length_map] at hi), putL_F rfl] at h4
        change hasB (pickTo (pickL (nth rs i).heads no) 12) a = true at h4
        rw [hasB_pickTo ⟨h1, h2⟩] at h4
        unfold pickL pickF at h4
        cases hn : hasB no a
        · rfl
        · rw [hn] at h4; cases hasB (nth rs i).heads a <;> simp at h4
  intro n
  refine (isP_pick _).eq (iterL_isP n) (fun a h1 h2 h => ?_) (fun a h1 h2 h => ?_)
  · rw [hasB_pickTo ⟨h1, h2⟩] at h
    unfold pickL pickF at h
    cases hx : hasB (iterL (rs.map (comeR no)) yes false n) a
    · rw [hx] at h; cases hasB no a <;> simp at h
    · rfl
  · rw [hasB_pickTo ⟨h1, h2⟩]
    unfold pickL pickF
    rw [h, key n a h1 h2 h]
    rfl

def exAll (q : ProgD) (vs : List Int) : Option (List Int) := exTo (comeL q.rules vs) vs q.atoms.toNat
/-- One round. -/
def roundV (q : ProgD) (vs : List Int) : Option (List Int) := (fTo q.rules vs q.rules.length).bind (exAll q)
theorem roundV_none {q : ProgD} {vs : List Int} {k : Nat} (hk : k ≤ q.rules.length) (h : fTo q.rules vs k = none) : roundV q vs = none := by
  unfold roundV; rw [fTo_none h hk]; rfl
theorem roundV_some {q : ProgD} {vs us : List Int} (h : fTo q.rules vs q.rules.length = some us) : roundV q vs = exAll q us := by
  unfold roundV; rw [h]; rfl
def goN (q : ProgD) : Nat → List Int → Option (List Int)
  | 0, vs => some vs
  | f + 1, vs => match roundV q vs with | none => none | some us => if us = vs then some vs else goN q f us
theorem goN_none {q : ProgD} {f : Nat} {vs : List Int} (h : roundV q vs = none) : goN q (f + 1) vs = none := by unfold goN; rw [h]
theorem goN_same {q : ProgD} {f : Nat} {vs : List Int} (h : roundV q vs = some vs) : goN q (f + 1) vs = some vs := by unfold goN; rw [h]; simp
theorem goN_next {q : ProgD} {f : Nat} {vs us : List Int} (h : roundV q vs = some us) (hne : ¬ us = vs) : goN q (f + 1) vs = goN q f us := by
  conv => lhs; unfold goN
  rw [h]; simp [hne]
/-- How many are UnKnown. -/
def zer (vs : List Int) : Nat := (withL vs 0).length
theorem zer_le (vs : List Int) : zer vs ≤ 12 := withL_len _ _
theorem zer_less {n : Nat} {vs us : List Int} (hv : VOk n vs) (h : Ext vs us) (hne : ¬ us = vs) : zer us < zer vs := by
  have hlen : us.length = n := h.1.trans hv.1
  have hn := hv.2.1
  have hsub : Sub (withL us 0) (withL vs 0) := fun a h1 h2 ha => by
    rw [hasB_with ⟨h1, h2⟩] at ha ⊢
    have hin := valB_in ha
    unfold valB at ha ⊢
    rw [decide_eq_true_eq] at ha ⊢
    have hi : (a - 1).toNat < vs.length := by have := hv.1; omega
    refine ⟨h1, by have := hv.1; omega, ?_⟩
    rcases h.2 _ hi with e | e
    · rw [← e]; exact ha.2.2
    · exact e
  obtain ⟨l1, l2⟩ := (withL_isP us 0).len (withL_isP vs 0) hsub
  rcases Nat.lt_or_ge (withL us 0).length (withL vs 0).length with hlt | hge
  · exact hlt
  · exfalso
    apply hne
    have he := l2 (by omega)
    refine list_ext_el h.1 fun i hi => ?_
    have hi' : i < vs.length := by rw [← h.1]; exact hi
    rcases h.2 i hi' with e | e
    · exact e
    · have hb : hasB (withL us 0) ((i : Int) + 1) = true := by
        rw [he, hasB_with ⟨by omega, by have := hv.1; omega⟩]
        exact valB_yes hi' e
      rw [hasB_with ⟨by omega, by have := hv.1; omega⟩, valB_at hi, decide_eq_true_eq] at hb
      rw [hb, e]
theorem round_ok {q : ProgD} {n : Nat} {vs us : List Int} (hn : q.atoms.toNat = n) (hv : VOk n vs) (hok : ∀ r ∈ q.rules, ruleOkB r (n : Int) = true) (h : roundV q vs = some us) : VOk n us ∧ Ext vs us := by
  unfold roundV at h
  cases e : fTo q.rules vs q.rules.length with
  | none => rw [e] at h; cases h
  | some ws =>
    rw [e] at h
    obtain ⟨h1, h2⟩ := fTo_ok hv hok (Nat.le_refl _) e
    have h3 : exTo (comeL q.rules ws) ws q.atoms.toNat = some us := h
    rw [hn] at h3
    obtain ⟨h4, h5⟩ := exTo_ok h1 (Nat.le_refl _) h3
    exact ⟨h4, h2.trans h5⟩
/-- What comes of values. -/
def propR (p : ProgD) (vs : List Int) : Option (List Int) := if valsOkR p vs then goN (foldD p) 13 vs else none
theorem propR_no {p : ProgD} {vs : List Int} (h : valsOkR p vs = false) : propR p vs = none := by simp [propR, h]
theorem propR_yes {p : ProgD} {vs : List Int} (h : valsOkR p vs = true) : propR p vs = goN (foldD p) 13 vs := by simp [propR, h]
def propL (p : ProgD) (vs : List Int) : List Int := (propR p vs).getD []
def propO (p : ProgD) (vs : List Int) : Bool := (propR p vs).isSome
theorem goN_ok {q : ProgD} {n : Nat} (hn : q.atoms.toNat = n) (hok : ∀ r ∈ q.rules, ruleOkB r (n : Int) = true) : ∀ {f : Nat} {vs us : List Int}, VOk n vs → goN q f vs = some us → VOk n us
  | 0, vs, us, hv, h => by cases h; exact hv
  | f + 1, vs, us, hv, h => by
    cases e : roundV q vs with
    | none => rw [goN_none e] at h; cases h
    | some ws =>
      by_cases hq : ws = vs
      · subst hq; rw [goN_same e] at h; cases h; exact hv
      · rw [goN_next e hq] at h
        exact goN_ok hn hok (round_ok hn hv hok e).1 h

end Go.Proofs.Ytjainjpcpnoikaa
