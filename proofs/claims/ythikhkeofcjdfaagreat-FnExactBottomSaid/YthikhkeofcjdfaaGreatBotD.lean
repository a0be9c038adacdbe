/-
 The bottom and the top of a program that is split: pure. No condition of its own.
-/
import Derived.Test.YthikhkeofcjdfaaGreatSplD
import Derived.Test.YthikhkeofcjdfaaGreatLeft
namespace Go.Proofs.YthikhkeofcjdfaaGreat
set_option linter.unusedVariables false
set_option linter.unusedSimpArgs false
open Go.RowKit
set_option maxRecDepth 100000

/-- A rule lies below: all its atoms are in the set. -/
def belB (us : List Int) (r : RuleD) : Bool := ((pickTo (pickL (atomsB r) us) 12).length : Int) == 0
theorem bel_same {us : List Int} {r : RuleD} (hf : FitsR r) : belB us r = inM (evM r) (maskOf us) := by
 have hm := maskOf_lt us
 unfold belB
 rw [Bool.eq_iff_iff, beq_iff_eq, inM_iff (evM_lt r) hm]
 have hl : (pickTo (pickL (atomsB r) us) 12).length = 0 ↔ ∀ x : Int, 1 ≤ x → x ≤ 12 → pickL (atomsB r) us x = false := by
  rw [List.length_eq_zero_iff]
  constructor
  ·intro h x h1 h2
   have h3 := mem_pickTo (pickL (atomsB r) us) x 12
   rw [h] at h3
   cases hx : pickL (atomsB r) us x
   ·rfl
   ·have := h3.2 ⟨h1, by omega, hx⟩
    cases this
  ·intro h
   refine List.eq_nil_iff_forall_not_mem.2 fun x hx => ?_
   obtain ⟨h1, h2, h3⟩ := (mem_pickTo _ x 12).1 hx
   rw [h x h1 (by omega)] at h3
   cases h3
 have hev : ∀ x : Int, 1 ≤ x → x ≤ 12 → hasB (atomsB r) x = hasM (evM r) x := fun x h1 h2 => by rw [← evM_atoms hf, hasB_mset ⟨h1, h2⟩]
 have : (((pickTo (pickL (atomsB r) us) 12).length : Int) = 0) ↔ (pickTo (pickL (atomsB r) us) 12).length = 0 := by omega
 rw [this, hl]
 constructor
 ·intro h x h1 h2 hx
  have h3 := h x h1 h2
  unfold pickL pickF at h3
  rw [hev x h1 h2, hx] at h3
  rw [hasM_maskOf _ _ ⟨h1, h2⟩]
  simpa using h3
 ·intro h x h1 h2
  unfold pickL pickF
  rw [hev x h1 h2]
  cases hx : hasM (evM r) x
  ·cases hasB us x <;> rfl
  ·have := h x h1 h2 hx
   rw [hasM_maskOf _ _ ⟨h1, h2⟩] at this
   rw [this]; rfl
/-- A program of as many atoms, and of these rules. -/
def partD (q : ProgD) (rs : List RuleD) : ProgD := ⟨q.atoms, rs, [], false, [], [], [], []⟩
def botS (us : List Int) (r : RuleD) : Option RuleD := if belB us r then some r else none
theorem botS_yes {us : List Int} {r : RuleD} (h : belB us r = true) : botS us r = some r := if_pos h
theorem botS_no {us : List Int} {r : RuleD} (h : belB us r = false) : botS us r = none := by unfold botS; rw [h]; rfl
def botD (p : ProgD) (us : List Int) : ProgD := if splB p us then partD (foldD p) (leftTo (botS us) (foldD p).rules (foldD p).rules.length) else default
theorem botD_no {p : ProgD} {us : List Int} (h : splB p us = false) : botD p us = default := by simp [botD, h]
theorem botD_yes {p : ProgD} {us : List Int} (h : splB p us = true) : botD p us = partD (foldD p) (leftTo (botS us) (foldD p).rules (foldD p).rules.length) := by simp [botD, h]
theorem splB_fold {p : ProgD} {us : List Int} (h : splB p us = true) : foldB p = true := by
 unfold splB at h
 cases hf : foldB p
 ·rw [hf] at h; cases h
 ·rfl

/-- The literals whose atom is below. -/
def inU (us : List Int) (q : Int × Int) : Bool := hasB us q.1 || hasB us (-q.1)
def opnTo (us : List Int) (b : List (Int × Int)) (k : Nat) : List (Int × Int) := (b.take k).filter fun q => !inU us q
def askTo (us : List Int) (b : List (Int × Int)) (k : Nat) : List (Int × Int) := (b.take k).filter (inU us)
section
variable {us : List Int} {b : List (Int × Int)} {k : Nat}
theorem filt_yes {α : Type} [Inhabited α] {f : α → Bool} {xs : List α} {k : Nat} (hk : k < xs.length) (h : f (nth xs k) = true) : (xs.take (k + 1)).filter f = (xs.take k).filter f ++ [nth xs k] := by
 rw [List.take_succ_eq_append_getElem hk, List.filter_append, ← nth_eq hk, List.filter_cons, h]; rfl
theorem filt_no {α : Type} [Inhabited α] {f : α → Bool} {xs : List α} {k : Nat} (hk : k < xs.length) (h : f (nth xs k) = false) : (xs.take (k + 1)).filter f = (xs.take k).filter f := by
 rw [List.take_succ_eq_append_getElem hk, List.filter_append, ← nth_eq hk, List.filter_cons, h]; simp
theorem opn_yes (hk : k < b.length) (h : inU us (nth b k) = false) : opnTo us b (k + 1) = opnTo us b k ++ [nth b k] := filt_yes hk (by rw [h]; rfl)
theorem opn_no (hk : k < b.length) (h : inU us (nth b k) = true) : opnTo us b (k + 1) = opnTo us b k := filt_no hk (by rw [h]; rfl)
theorem ask_yes (hk : k < b.length) (h : inU us (nth b k) = true) : askTo us b (k + 1) = askTo us b k ++ [nth b k] := filt_yes hk h
theorem ask_no (hk : k < b.length) (h : inU us (nth b k) = false) : askTo us b (k + 1) = askTo us b k := filt_no hk h
theorem opn_len : (opnTo us b k).length ≤ k := Nat.le_trans (List.length_filter_le _ _) (by rw [List.length_take]; omega)
theorem ask_len : (askTo us b k).length ≤ k := Nat.le_trans (List.length_filter_le _ _) (by rw [List.length_take]; omega)
theorem ask_mem {p : Int × Int} (h : p ∈ askTo us b k) : p ∈ b := List.mem_of_mem_take (List.mem_filter.1 h).1
theorem opn_mem {p : Int × Int} (h : p ∈ opnTo us b k) : p ∈ b := List.mem_of_mem_take (List.mem_filter.1 h).1
end
/-- What the literals that are asked weigh together that hold. -/
def askS (us xs : List Int) (b : List (Int × Int)) (k : Nat) : Int := sumH (fun p => holdsB xs p.1) (askTo us b k)
/-- Does one of them not hold? -/
def askN (us xs : List Int) (b : List (Int × Int)) (k : Nat) : Bool := (askTo us b k).any fun p => !holdsB xs p.1
section
variable {us xs : List Int} {b : List (Int × Int)} {k : Nat}
theorem askS_out (hk : k < b.length) (h : inU us (nth b k) = false) : askS us xs b (k + 1) = askS us xs b k := by unfold askS; rw [ask_no hk h]
theorem askS_yes (hk : k < b.length) (h : inU us (nth b k) = true) (hh : holdsB xs (nth b k).1 = true) : askS us xs b (k + 1) = askS us xs b k + (nth b k).2 := by
 unfold askS; rw [ask_yes hk h, sumH_snoc, if_pos hh]
theorem askS_no (hk : k < b.length) (h : inU us (nth b k) = true) (hh : holdsB xs (nth b k).1 = false) : askS us xs b (k + 1) = askS us xs b k := by
 unfold askS; rw [ask_yes hk h, sumH_snoc, hh]; simp
theorem askN_out (hk : k < b.length) (h : inU us (nth b k) = false) : askN us xs b (k + 1) = askN us xs b k := by unfold askN; rw [ask_no hk h]
theorem askN_in (hk : k < b.length) (h : inU us (nth b k) = true) : askN us xs b (k + 1) = (askN us xs b k || !holdsB xs (nth b k).1) := by
 unfold askN; rw [ask_yes hk h, List.any_append]; simp
theorem askS_bd (hw : ∀ p ∈ b, 1 ≤ p.2 ∧ p.2 ≤ 1000) (hl : b.length ≤ 20) (hk : k ≤ b.length) : 0 ≤ askS us xs b k ∧ askS us xs b k ≤ 20000 := by
 have h1 := sumH_bd (f := fun p => holdsB xs p.1) (l := askTo us b k) fun p hp => hw p (ask_mem hp)
 have h2 := ask_len (us := us) (b := b) (k := k)
 unfold askS
 omega
end
def topS (us xs : List Int) (r : RuleD) : Option RuleD :=
 if belB us r then none
 else if r.weight then
  (if r.bound ≤ askS us xs r.body r.body.length then some { r with weight := false, bound := 0, body := [] }
  else some { r with bound := r.bound - askS us xs r.body r.body.length, body := opnTo us r.body r.body.length })
 else if askN us xs r.body r.body.length then none
 else some { r with body := opnTo us r.body r.body.length }
section
variable {us xs : List Int} {r : RuleD}
theorem topS_bel (h : belB us r = true) : topS us xs r = none := if_pos h
theorem topS_wY (h : belB us r = false) (hw : r.weight = true) (hb : r.bound ≤ askS us xs r.body r.body.length) : topS us xs r = some { r with weight := false, bound := 0, body := [] } := by
 unfold topS; rw [h, hw, if_neg (by simp), if_pos rfl, if_pos hb]
theorem topS_wN (h : belB us r = false) (hw : r.weight = true) (hb : ¬ r.bound ≤ askS us xs r.body r.body.length) : topS us xs r = some { r with bound := r.bound - askS us xs r.body r.body.length, body := opnTo us r.body r.body.length } := by
 unfold topS; rw [h, hw, if_neg (by simp), if_pos rfl, if_neg hb]
theorem topS_N (h : belB us r = false) (hw : r.weight = false) (hb : askN us xs r.body r.body.length = true) : topS us xs r = none := by
 unfold topS; rw [h, hw, hb]; simp
theorem topS_Y (h : belB us r = false) (hw : r.weight = false) (hb : askN us xs r.body r.body.length = false) : topS us xs r = some { r with body := opnTo us r.body r.body.length } := by
 unfold topS; rw [h, hw, hb]; simp
end
def topD (p : ProgD) (us xs : List Int) : ProgD := if splB p us then partD (foldD p) (leftTo (topS us xs) (foldD p).rules (foldD p).rules.length) else default
theorem topD_no {p : ProgD} {us xs : List Int} (h : splB p us = false) : topD p us xs = default := by simp [topD, h]
theorem topD_yes {p : ProgD} {us xs : List Int} (h : splB p us = true) : topD p us xs = partD (foldD p) (leftTo (topS us xs) (foldD p).rules (foldD p).rules.length) := by simp [topD, h]
/-- What the program asks: the sum of what is asked, by a mask. -/
theorem ask_sum {us xs : List Int} {b : List (Int × Int)} {k : Nat} (hf : ∀ p ∈ b, Fits p.1) : sumH (fun p => litW (maskOf xs) (maskOf xs) p.1) (askTo us b k) = askS us xs b k := by
 refine sumH_congr fun p hp => ?_
 have : litW (maskOf xs) (maskOf xs) p.1 = litM (maskOf xs) p.1 := by unfold litW; split <;> rfl
 rw [this, litM_same xs p.1 (hf p (ask_mem hp))]
theorem ask_all {us xs : List Int} {b : List (Int × Int)} {k : Nat} (hw : ∀ p ∈ b, p.2 = 1) : (askS us xs b k == ((askTo us b k).length : Int)) = !askN us xs b k := by
 obtain ⟨h1, h2⟩ := sumH_ones (f := fun p => holdsB xs p.1) (l := askTo us b k) fun p hp => hw p (ask_mem hp)
 have h3 : askN us xs b k = !(askTo us b k).all fun p => holdsB xs p.1 := by
  unfold askN; rw [List.all_eq_not_any_not, Bool.not_not]
 rw [h3, Bool.not_not, Bool.eq_iff_iff, beq_iff_eq, ← h2]
 unfold askS
 omega
/-- An atom of a literal is below. -/
theorem inU_mask {us : List Int} {q : Int × Int} (h : (1 ≤ q.1 ∧ q.1 ≤ 12) ∨ (-12 ≤ q.1 ∧ q.1 ≤ -1)) (hu : IsP us) : inU us q = hasM (maskOf us) (atomI q.1) := by
 have hn : ∀ x : Int, x < 1 → hasB us x = false := fun x hx => by
  unfold hasB
  rw [decide_eq_false_iff_not]
  intro hm
  rw [hu] at hm
  have := (mem_pickTo _ _ _).1 hm
  omega
 unfold inU
 rcases h with h | h
 ·rw [hn (-q.1) (by omega), Bool.or_false, show atomI q.1 = q.1 by unfold atomI; rw [if_neg (by omega), if_neg (by omega)], hasM_maskOf _ _ h]
 ·rw [hn q.1 (by omega), Bool.false_or, show atomI q.1 = -q.1 by unfold atomI; rw [if_neg (by omega), if_pos (by omega)], hasM_maskOf _ _ (by omega)]
end Go.Proofs.YthikhkeofcjdfaaGreat
