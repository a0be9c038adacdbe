import Derived.Test.YthikhkeofcjdfaaGreatImplSets
import Derived.Test.YthikhkeofcjdfaaGreatSetsB
namespace Go.Proofs.YthikhkeofcjdfaaGreat
set_option linter.unusedVariables false
set_option linter.unusedSimpArgs false

theorem pickTo_congr {f g : Int → Bool} : ∀ {n : Nat}, (∀ x : Int, 1 ≤ x → x ≤ n → f x = g x) → pickTo f n = pickTo g n
 | 0, _ => rfl
 | n + 1, h => by
  have ih := pickTo_congr (n := n) (f := f) (g := g) fun x h1 h2 => h x h1 (by omega)
  unfold pickTo
  rw [ih, h ((n : Int) + 1) (by omega) (by omega)]

theorem hasM_bit (m : Nat) (x : Int) (h : 1 ≤ x ∧ x ≤ 12) : hasM m x = m.testBit (x - 1).toNat := by
 unfold hasM
 rw [bitN_in h, nat_bit, Nat.testBit_eq_decide_div_mod_eq]
 have h2 := Nat.two_pow_pos (x - 1).toNat
 generalize 2 ^ (x - 1).toNat = P at *
 have h3 : m / P % 2 = 0 ∨ m / P % 2 = 1 := by omega
 rcases h3 with h3 | h3
 ·rw [h3]; simp
 ·rw [h3, Nat.one_mul]; simp; omega

theorem testBit_bitN (x : Int) (i : Nat) (hi : i < 12) : (bitN x).testBit i = decide (x = (i : Int) + 1) := by
 by_cases h : 1 ≤ x ∧ x ≤ 12
 ·rw [bitN_in h, Nat.testBit_two_pow]
  rw [decide_eq_decide]
  omega
 ·rw [bitN_out h]
  simp
  omega

theorem testBit_maskOf (xs : List Int) (i : Nat) (hi : i < 12) : (maskOf xs).testBit i = hasB xs ((i : Int) + 1) := by
 have : ∀ (l : List Int) (s : Nat), (l.foldl (fun s x => s ||| bitN x) s).testBit i = (s.testBit i || decide (((i : Int) + 1) ∈ l)) := by
  intro l
  induction l with
  | nil => intro s; simp
  | cons x r ih =>
   intro s
   rw [List.foldl_cons, ih, Nat.testBit_or, testBit_bitN _ _ hi]
   by_cases e : x = (i : Int) + 1
   ·simp [e]
   ·have e' : ¬ (i : Int) + 1 = x := fun h => e h.symm
    simp [e, e']
 unfold maskOf hasB
 rw [this]
 simp

theorem hasM_maskOf (xs : List Int) (x : Int) (h : 1 ≤ x ∧ x ≤ 12) : hasM (maskOf xs) x = hasB xs x := by
 rw [hasM_bit _ _ h, testBit_maskOf _ _ (by omega)]
 congr 1
 omega

theorem join_same (xs ys : List Int) : pickTo (hasM (maskOf xs ||| maskOf ys)) 12 = pickTo (pickJ xs ys) 12 :=
 pickTo_congr fun x h1 h2 => by
  have h : 1 ≤ x ∧ x ≤ 12 := ⟨h1, by omega⟩
  rw [hasM_bit _ _ h, Nat.testBit_or, ← hasM_bit _ _ h, ← hasM_bit _ _ h, hasM_maskOf _ _ h, hasM_maskOf _ _ h]
  unfold pickJ pickF
  cases hasB xs x <;> cases hasB ys x <;> rfl

theorem meet_same (xs ys : List Int) : pickTo (hasM (maskOf xs &&& maskOf ys)) 12 = pickTo (pickM xs ys) 12 :=
 pickTo_congr fun x h1 h2 => by
  have h : 1 ≤ x ∧ x ≤ 12 := ⟨h1, by omega⟩
  rw [hasM_bit _ _ h, Nat.testBit_and, ← hasM_bit _ _ h, ← hasM_bit _ _ h, hasM_maskOf _ _ h, hasM_maskOf _ _ h]
  unfold pickM pickF
  cases hasB xs x <;> cases hasB ys x <;> rfl

theorem less_bit (xs ys : List Int) (x : Int) (h : 1 ≤ x ∧ x ≤ 12) : hasM (maskOf xs &&& (65535 - maskOf ys)) x = (hasB xs x && !hasB ys x) := by
 have e : 65535 - maskOf ys = 2 ^ 16 - (maskOf ys + 1) := by omega
 have hl := maskOf_lt ys
 rw [hasM_bit _ _ h, Nat.testBit_and, e, Nat.testBit_two_pow_sub_succ (by omega), ← hasM_bit _ _ h, ← hasM_bit _ _ h, hasM_maskOf _ _ h, hasM_maskOf _ _ h]
 have : (x - 1).toNat < 16 := by omega
 rw [decide_eq_true this, Bool.true_and]

theorem less_same (xs ys : List Int) : pickTo (hasM (maskOf xs &&& (65535 - maskOf ys))) 12 = pickTo (pickL xs ys) 12 :=
 pickTo_congr fun x h1 h2 => by
  have h : 1 ≤ x ∧ x ≤ 12 := ⟨h1, by omega⟩
  rw [less_bit _ _ _ h]
  unfold pickL pickF
  cases hasB xs x <;> cases hasB ys x <;> rfl

theorem zero_of_bits {m : Nat} (hm : m < 4096) (h : ∀ x : Int, 1 ≤ x → x ≤ 12 → hasM m x = false) : m = 0 := by
 apply Nat.eq_of_testBit_eq
 intro i
 rw [Nat.zero_testBit]
 by_cases hi : i < 12
 ·have := h ((i : Int) + 1) (by omega) (by omega)
  rw [hasM_bit _ _ ⟨by omega, by omega⟩] at this
  rwa [show ((i : Int) + 1 - 1).toNat = i from by omega] at this
 ·exact Nat.testBit_lt_two_pow (Nat.lt_of_lt_of_le hm (Nat.pow_le_pow_right (n := 2) (by omega) (show 12 ≤ i by omega)))

theorem in_same (xs ys : List Int) : ((((maskOf xs &&& (65535 - maskOf ys) : Nat) : Int) == 0)) = (((pickTo (pickL xs ys) 12).length : Int) == 0) := by
 rw [← less_same]
 have hm := SetLess_lt xs ys
 generalize maskOf xs &&& (65535 - maskOf ys) = m at *
 by_cases h : m = 0
 ·subst h
  have : pickTo (hasM 0) 12 = [] := by decide
  rw [this]; rfl
 ·have hne : (pickTo (hasM m) 12).length ≠ 0 := by
   intro hl
   have hnil := List.eq_nil_of_length_eq_zero hl
   apply h
   apply zero_of_bits hm
   intro x h1 h2
   cases e : hasM m x
   ·rfl
   ·have := (mem_pickTo (hasM m) x 12).2 ⟨h1, by omega, e⟩
    rw [hnil] at this; cases this
  rw [Bool.eq_iff_iff, beq_iff_eq, beq_iff_eq]
  omega

theorem sum_bits (m : Nat) : ∀ k, k ≤ 12 → sumTo (hasM m) k = m % 2 ^ k
 | 0, _ => by simp [sumTo, Nat.mod_one]
 | k + 1, h => by
  have ih := sum_bits m k (by omega)
  unfold sumTo
  rw [ih, hasM_bit _ _ ⟨by omega, by omega⟩, show ((k : Int) + 1 - 1).toNat = k from by omega, Nat.testBit_eq_decide_div_mod_eq, Nat.mod_pow_succ]
  have h3 : m / 2 ^ k % 2 = 0 ∨ m / 2 ^ k % 2 = 1 := by omega
  rcases h3 with h3 | h3 <;> rw [h3] <;> simp

theorem sumTo_congr {f g : Int → Bool} : ∀ {n : Nat}, (∀ x : Int, 1 ≤ x → x ≤ n → f x = g x) → sumTo f n = sumTo g n
 | 0, _ => rfl
 | n + 1, h => by
  have ih := sumTo_congr (n := n) (f := f) (g := g) fun x h1 h2 => h x h1 (by omega)
  unfold sumTo
  rw [ih, h ((n : Int) + 1) (by omega) (by omega)]

theorem num_same (xs : List Int) : sumTo (hasB xs) 12 = maskOf xs := by
 rw [← sumTo_congr (f := hasM (maskOf xs)) fun x h1 h2 => hasM_maskOf xs x ⟨h1, by omega⟩, sum_bits _ _ (Nat.le_refl _)]
 exact Nat.mod_eq_of_lt (maskOf_lt xs)

theorem bitB_hasM (N : Nat) (x : Int) (h : 1 ≤ x ∧ x ≤ 12) : bitB N x = hasM N x := by
 rw [hasM_bit _ _ h]
 unfold bitB dv
 rw [Nat.testBit_eq_decide_div_mod_eq, decide_eq_decide]
 omega

theorem of_same (n : Int) : setOf n = setOfS n := by
 unfold setOf setOfS
 split
 ·exact pickTo_congr fun x h1 h2 => (bitB_hasM _ _ ⟨h1, by omega⟩).symm
 ·rfl

open Go.RowKit




theorem setOfS_len (n : Int) : (setOfS n).length ≤ 12 := by
 unfold setOfS; split
 ·exact pickTo_len _ _
 ·simp

end Go.Proofs.YthikhkeofcjdfaaGreat
