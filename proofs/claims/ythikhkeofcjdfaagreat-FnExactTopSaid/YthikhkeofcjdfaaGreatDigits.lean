/-
 Digits of numbers. No condition of its own.
-/
import Derived.Test.YthikhkeofcjdfaaGreatBase
namespace Go.Proofs.YthikhkeofcjdfaaGreat
set_option linter.unusedVariables false
set_option linter.unusedSimpArgs false
open Go.RowKit

/-- The digits of a number, as bytes. -/
def dgs (M : Nat) : List Int :=
 if h : M < 10 then [48 + (M : Int)] else dgs (M / 10) ++ [48 + (M : Int) % 10]
termination_by M
decreasing_by omega
def txt (M : Nat) (D : List Int) : List Int := if M = 0 then D else dgs M ++ D
theorem txt_step {M : Nat} {D : List Int} (h : ¬ M = 0) : txt M D = txt (M / 10) ((48 + (M : Int) % 10) :: D) := by
 unfold txt
 rw [if_neg h]
 by_cases hs : M < 10
 ·rw [if_pos (by omega), dgs, dif_pos hs]
  have : (M : Int) % 10 = M := by omega
  rw [this]; rfl
 ·rw [if_neg (by omega), dgs, dif_neg hs, List.append_assoc]; rfl
theorem txt_zero (D : List Int) : txt 0 D = D := rfl

theorem pow_small {M k N : Nat} (h : M * 10 ^ k ≤ N) (hM : ¬ M = 0) (hN : N ≤ 9223372036854775808) : k ≤ 18 := by
 apply Classical.byContradiction
 intro hk
 have h1 : 10 ^ 19 ≤ 10 ^ k := Nat.pow_le_pow_right (by omega) (by omega)
 have h2 : 10 ^ k ≤ M * 10 ^ k := Nat.le_mul_of_pos_left _ (by omega)
 have : (10 : Nat) ^ 19 = 10000000000000000000 := by decide
 omega
theorem pow_step {M k N : Nat} (h : M * 10 ^ k ≤ N) : M / 10 * 10 ^ (k + 1) ≤ N := by
 have e : M / 10 * 10 ^ (k + 1) = M / 10 * 10 * 10 ^ k := by rw [Nat.pow_succ, Nat.mul_comm (10 ^ k) 10, Nat.mul_assoc]
 rw [e]
 exact Nat.le_trans (Nat.mul_le_mul_right _ (by omega)) h

theorem ret_str {a b : ByteArray} (h : a = b) : Ending.returned (.string a) = .returned (.string b) := by rw [h]

end Go.Proofs.YthikhkeofcjdfaaGreat
