import Derived.Test.YtingnpnnacafbaaSets
namespace Go.Proofs.Ytingnpnnacafbaa
set_option linter.unusedVariables false
set_option linter.unusedSimpArgs false
open Go.RowKit
set_option maxRecDepth 100000

theorem specSetJoin_calls (a a' : Option Addr) (xs ys : List Int) (ca ca' : Nat) (w : World) (h : Ints w a xs) (h' : Ints w a' ys) :
    Calls Try.prog 8 #[.slice a xs.length ca, .slice a' ys.length ca'] w fun e w' => ∃ v, e = .returned v ∧ OwnI w.heap.size w' v (pickTo (pickJ xs ys) 12) ∧ Below w.heap.size w w' := by
  go_enter Try.func8, Try.ntmps8
  go_wp2_with (go_at_call 24; refine (l01PickJ_calls _ _ _ _ _ _ _ h h').mono ?_; rintro e w' ⟨v, rfl, ho, hb⟩)
  go_ret
  exact ⟨_, rfl, ho, hb⟩

theorem specSetMeet_calls (a a' : Option Addr) (xs ys : List Int) (ca ca' : Nat) (w : World) (h : Ints w a xs) (h' : Ints w a' ys) :
    Calls Try.prog 70 #[.slice a xs.length ca, .slice a' ys.length ca'] w fun e w' => ∃ v, e = .returned v ∧ OwnI w.heap.size w' v (pickTo (pickM xs ys) 12) ∧ Below w.heap.size w w' := by
  go_enter Try.func70, Try.ntmps70
  go_wp2_with (go_at_call 24; refine (l01PickM_calls _ _ _ _ _ _ _ h h').mono ?_; rintro e w' ⟨v, rfl, ho, hb⟩)
  go_ret
  exact ⟨_, rfl, ho, hb⟩

theorem specSetLess_calls (a a' : Option Addr) (xs ys : List Int) (ca ca' : Nat) (w : World) (h : Ints w a xs) (h' : Ints w a' ys) :
    Calls Try.prog 31 #[.slice a xs.length ca, .slice a' ys.length ca'] w fun e w' => ∃ v, e = .returned v ∧ OwnI w.heap.size w' v (pickTo (pickL xs ys) 12) ∧ Below w.heap.size w w' := by
  go_enter Try.func31, Try.ntmps31
  go_wp2_with (go_at_call 24; refine (l01PickL_calls _ _ _ _ _ _ _ h h').mono ?_; rintro e w' ⟨v, rfl, ho, hb⟩)
  go_ret
  exact ⟨_, rfl, ho, hb⟩


theorem specSetIn_calls (a a' : Option Addr) (xs ys : List Int) (ca ca' : Nat) (w : World) (h : Ints w a xs) (h' : Ints w a' ys) :
    Calls Try.prog 13 #[.slice a xs.length ca, .slice a' ys.length ca'] w fun e w' => e = .returned (.bool (((pickTo (pickL xs ys) 12).length : Int) == 0)) ∧ Below w.heap.size w w' := by
  go_enter Try.func13, Try.ntmps13
  go_wp2_with fail
  refine (specSetLess_calls _ _ _ _ _ _ _ h h').mono ?_
  rintro e w' ⟨v, rfl, ho, hb⟩
  obtain ⟨p, c, hv, _, _⟩ := ho.open
  rw [hv]
  clear ho hv
  go_wp2
  go_ret
  exact ⟨rfl, hb⟩

/-- The numbers of the atoms up to k for which f holds, added up. -/
def sumTo (f : Int → Bool) : Nat → Nat
  | 0 => 0
  | k + 1 => if f ((k : Int) + 1) then sumTo f k + 2 ^ k else sumTo f k
theorem sumTo_lt (f : Int → Bool) : ∀ k, sumTo f k < 2 ^ k
  | 0 => by simp [sumTo]
  | k + 1 => by have := sumTo_lt f k; unfold sumTo; rw [Nat.pow_succ]; split <;> omega
def pw (k : Nat) : Nat := 2 ^ k
theorem pw_le {k : Nat} (h : k ≤ 12) : pw k ≤ 4096 := by
  unfold pw; exact Nat.pow_le_pow_right (n := 2) (by omega) h
theorem pw_succ (k : Nat) : ((pw (k + 1) : Nat) : Int) = 2 * (pw k : Int) := by unfold pw; rw [Nat.pow_succ]; omega
theorem sumTo_yes {f : Int → Bool} {k : Nat} (h : f ((k : Int) + 1) = true) : ((sumTo f (k + 1) : Nat) : Int) = (sumTo f k : Int) + (pw k : Int) := by simp [sumTo, h, pw]
theorem sumTo_no {f : Int → Bool} {k : Nat} (h : f ((k : Int) + 1) = false) : ((sumTo f (k + 1) : Nat) : Int) = (sumTo f k : Int) := by simp [sumTo, h]
theorem sumTo_small (f : Int → Bool) {k : Nat} (h : k ≤ 12) : sumTo f k ≤ 4096 := by
  have := sumTo_lt f k; have := pw_le h; unfold pw at this; omega

/-- Digit by digit: what is left of a number. -/
def dv (N k : Nat) : Nat := N / 2 ^ k
theorem dv_zero (N : Nat) : dv N 0 = N := by simp [dv]
theorem dv_succ (N k : Nat) : ((dv N (k + 1) : Nat) : Int) = (dv N k : Int) / 2 := by
  unfold dv; rw [Nat.pow_succ, ← Nat.div_div_eq_div_mul]; omega
def bitB (N : Nat) (x : Int) : Bool := decide (((dv N (x - 1).toNat : Nat) : Int) % 2 = 1)
theorem bitB_at (N k : Nat) : bitB N ((k : Int) + 1) = decide ((dv N k : Int) % 2 = 1) := by
  unfold bitB; rw [show ((k : Int) + 1 - 1).toNat = k from by omega]
/-- The set of a number, as the model has it. -/
def setOfS (n : Int) : List Int := if 0 ≤ n ∧ n < 4096 then pickTo (bitB n.toNat) 12 else []

end Go.Proofs.Ytingnpnnacafbaa
