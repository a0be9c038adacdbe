import Derived.Test.YthikhkeofcjdfaaGreatSets
namespace Go.Proofs.YthikhkeofcjdfaaGreat
set_option linter.unusedVariables false
set_option linter.unusedSimpArgs false
open Go.RowKit
set_option maxRecDepth 100000

theorem specSetJoin_calls (a a' : Option Addr) (xs ys : List Int) (ca ca' : Nat) (w : World) (h : Ints w a xs) (h' : Ints w a' ys) :
  Calls Tryz.prog 92 #[.slice a xs.length ca, .slice a' ys.length ca'] w fun e w' => ∃ v, e = .returned v ∧ OwnI w.heap.size w' v (pickTo (pickJ xs ys) 12) ∧ Below w.heap.size w w' := by
 go_enter Tryz.func92, Tryz.ntmps92
 go_wp2_with (go_at_call 179; refine (l01PickJ_calls _ _ _ _ _ _ _ h h').mono ?_; rintro e w' ⟨v, rfl, ho, hb⟩)
 go_ret
 exact ⟨_, rfl, ho, hb⟩

theorem specSetMeet_calls (a a' : Option Addr) (xs ys : List Int) (ca ca' : Nat) (w : World) (h : Ints w a xs) (h' : Ints w a' ys) :
  Calls Tryz.prog 193 #[.slice a xs.length ca, .slice a' ys.length ca'] w fun e w' => ∃ v, e = .returned v ∧ OwnI w.heap.size w' v (pickTo (pickM xs ys) 12) ∧ Below w.heap.size w w' := by
 go_enter Tryz.func193, Tryz.ntmps193
 go_wp2_with (go_at_call 179; refine (l01PickM_calls _ _ _ _ _ _ _ h h').mono ?_; rintro e w' ⟨v, rfl, ho, hb⟩)
 go_ret
 exact ⟨_, rfl, ho, hb⟩

theorem specSetLess_calls (a a' : Option Addr) (xs ys : List Int) (ca ca' : Nat) (w : World) (h : Ints w a xs) (h' : Ints w a' ys) :
  Calls Tryz.prog 172 #[.slice a xs.length ca, .slice a' ys.length ca'] w fun e w' => ∃ v, e = .returned v ∧ OwnI w.heap.size w' v (pickTo (pickL xs ys) 12) ∧ Below w.heap.size w w' := by
 go_enter Tryz.func172, Tryz.ntmps172
 go_wp2_with (go_at_call 179; refine (l01PickL_calls _ _ _ _ _ _ _ h h').mono ?_; rintro e w' ⟨v, rfl, ho, hb⟩)
 go_ret
 exact ⟨_, rfl, ho, hb⟩


theorem specSetIn_calls (a a' : Option Addr) (xs ys : List Int) (ca ca' : Nat) (w : World) (h : Ints w a xs) (h' : Ints w a' ys) :
  Calls Tryz.prog 105 #[.slice a xs.length ca, .slice a' ys.length ca'] w fun e w' => e = .returned (.bool (((pickTo (pickL xs ys) 12).length : Int) == 0)) ∧ Below w.heap.size w w' := by
 go_enter Tryz.func105, Tryz.ntmps105
 go_wp2_with fail
 refine (specSetLess_calls _ _ _ _ _ _ _ h h').mono ?_
 rintro e w' ⟨v, rfl, ho, hb⟩
 obtain ⟨p, c, hv, _, _⟩ := ho.open
 rw [hv]
 clear ho hv
 go_wp2
 go_ret
 exact ⟨rfl, hb⟩

/-- The numbers of the atoms up to k for which f holds, added up. -/
def sumTo (f : Int → Bool) : Nat → Nat
 | 0 => 0
 | k + 1 => if f ((k : Int) + 1) then sumTo f k + 2 ^ k else sumTo f k
theorem sumTo_lt (f : Int → Bool) : ∀ k, sumTo f k < 2 ^ k
 | 0 => by simp [sumTo]
 | k + 1 => by have := sumTo_lt f k; unfold sumTo; rw [Nat.pow_succ]; split <;> omega
def pw (k : Nat) : Nat := 2 ^ k
theorem pw_le {k : Nat} (h : k ≤ 12) : pw k ≤ 4096 := by
 unfold pw; exact Nat.pow_le_pow_right (n := 2) (by omega) h
theorem pw_succ (k : Nat) : ((pw (k + 1) : Nat) : Int) = 2 * (pw k : Int) := by unfold pw; rw [Nat.pow_succ]; omega
theorem sumTo_yes {f : Int → Bool} {k : Nat} (h : f ((k : Int) + 1) = true) : ((sumTo f (k + 1) : Nat) : Int) = (sumTo f k : Int) + (pw k : Int) := by simp [sumTo, h, pw]
theorem sumTo_no {f : Int → Bool} {k : Nat} (h : f ((k : Int) + 1) = false) : ((sumTo f (k + 1) : Nat) : Int) = (sumTo f k : Int) := by simp [sumTo, h]
theorem sumTo_small (f : Int → Bool) {k : Nat} (h : k ≤ 12) : sumTo f k ≤ 4096 := by
 have := sumTo_lt f k; have := pw_le h; unfold pw at this; omega

set_option maxHeartbeats 1000000 in
theorem specSetNum_calls (a : Option Addr) (xs : List Int) (ca : Nat) (w : World) (h : Ints w a xs) :
  Calls Tryz.prog 128 #[.slice a xs.length ca] w fun e w' => e = .returned (.int .i64 (sumTo (hasB xs) 12 : Int)) ∧ w = w' := by
 go_enter Tryz.func128, Tryz.ntmps128
 go_wp2
 go_loop [3, 4, 5] (fun n b i => ∃ k : Nat, k ≤ 12 ∧ i = .int .i64 ((k : Int) + 1) ∧ b = .int .i64 (pw k : Int) ∧ n = .int .i64 (sumTo (hasB xs) k : Int)) (fun _ _ i => 13 - (intOf i).toNat)
 case atStart => exact ⟨0, by omega, rfl, rfl, rfl⟩
 case round =>
  obtain ⟨k, hk, rfl, rfl, rfl⟩ := hrel
  have hp := pw_le hk
  have hs := sumTo_small (hasB xs) hk
  by_cases hlt : k < 12
  ·have hps := Lib.hid (pw_succ k)
   cases h1 : hasB xs ((k : Int) + 1)
   ·have hv := Lib.hid (sumTo_no h1)
    go_wp2_with (go_at_call 88; refine (SetHas_calls _ _ _ _ _ h).mono ?_; rintro e w' ⟨rfl, rfl⟩)
    go_round
    case rel => exact ⟨k + 1, by omega, by go_num, by rw [hps.out], by rw [hv.out]⟩
    case measure => simp [intOf]; omega
   ·have hv := Lib.hid (sumTo_yes h1)
    go_wp2_with (go_at_call 88; refine (SetHas_calls _ _ _ _ _ h).mono ?_; rintro e w' ⟨rfl, rfl⟩)
    go_round
    case rel => exact ⟨k + 1, by omega, by go_num, by rw [hps.out], by rw [hv.out]⟩
    case measure => simp [intOf]; omega
  ·have hk' : k = 12 := by omega
   subst hk'
   go_wp2
   go_ret
   exact ⟨rfl, rfl⟩

/-- Digit by digit: what is left of a number. -/
def dv (N k : Nat) : Nat := N / 2 ^ k
theorem dv_zero (N : Nat) : dv N 0 = N := by simp [dv]
theorem dv_succ (N k : Nat) : ((dv N (k + 1) : Nat) : Int) = (dv N k : Int) / 2 := by
 unfold dv; rw [Nat.pow_succ, ← Nat.div_div_eq_div_mul]; omega
def bitB (N : Nat) (x : Int) : Bool := decide (((dv N (x - 1).toNat : Nat) : Int) % 2 = 1)
theorem bitB_at (N k : Nat) : bitB N ((k : Int) + 1) = decide ((dv N k : Int) % 2 = 1) := by
 unfold bitB; rw [show ((k : Int) + 1 - 1).toNat = k from by omega]
/-- The set of a number, as the model has it. -/
def setOfS (n : Int) : List Int := if 0 ≤ n ∧ n < 4096 then pickTo (bitB n.toNat) 12 else []

set_option maxRecDepth 100000 in
set_option maxHeartbeats 1000000 in
theorem specSetOf_calls (n : Int) (w : World) :
  Calls Tryz.prog 72 #[.int .i64 n] w fun e w' => ∃ v, e = .returned v ∧ OwnI w.heap.size w' v (setOfS n) ∧ Below w.heap.size w w' := by
 by_cases h : 0 ≤ n ∧ n < 4096
 ·have hs := Lib.hid (show setOfS n = pickTo (bitB n.toNat) 12 from if_pos h)
  obtain ⟨N, rfl⟩ := Int.eq_ofNat_of_zero_le h.1
  have hm1 : (N : Int) < 4096 := by omega
  have hz := Lib.hid (dv_zero N)
  rw [Int.toNat_natCast] at hs
  clear h
  go_enter Tryz.func72, Tryz.ntmps72
  go_wp2
  go_loopw [0, 3, 4] (fun r v i wr => ∃ k : Nat, k ≤ 12 ∧ i = .int .i64 ((k : Int) + 1) ∧ r = .int .i64 (dv N k : Int) ∧ OwnI w.heap.size wr v (pickTo (bitB N) k) ∧ Below w.heap.size w wr) (fun _ _ i _ => 13 - (intOf i).toNat)
  case atStart => exact ⟨0, by omega, rfl, by rw [hz.out], OwnI.new _ _ (Nat.le_refl _), (Below.refl _ _).alloc (Nat.le_refl _) _⟩
  case round =>
   obtain ⟨k, hk, rfl, rfl, ho, hb⟩ := hrel
   have hsz := hb.size
   by_cases hlt : k < 12
   ·have hF := fits_small (n := (k : Int) + 1) (by omega) (by omega)
    have hlen := pickTo_len (bitB N) k
    have hd := Lib.hid (dv_succ N k)
    have hb1 := bitB_at N k
    have hd0 : (0 : Int) ≤ (dv N k : Int) := by omega
    have hdl : (dv N k : Int) < 4096 := by have := Nat.div_le_self N (2 ^ k); unfold dv; omega
    by_cases hbit : (dv N k : Int) % 2 = 1
    ·have hv := Lib.hid (show bitB N ((k : Int) + 1) = true by rw [hb1]; simpa using hbit)
     have hbx : ((dv N k : Int) % 2 == 1) = true := by simpa using hbit
     clear hbit hb1
     go_wp2_with (at_builtin; refine wpList_append_int rfl _ _ rfl rfl ho rfl (by omega) hF (by omega) ?_; intro v' w' ho' hb' hg')
     go_roundw
     case rel => exact ⟨k + 1, by omega, by go_num, by rw [hd.out], by rw [pickTo_yes hv.out]; exact ho', hb.trans hb'⟩
     case measure => simp [intOf]; omega
    ·have hv := Lib.hid (show bitB N ((k : Int) + 1) = false by rw [hb1]; simpa using hbit)
     have hbx : ((dv N k : Int) % 2 == 1) = false := by simpa using hbit
     clear hbit hb1
     go_wp2
     go_roundw
     case rel => exact ⟨k + 1, by omega, by go_num, by rw [hd.out], by rw [pickTo_no hv.out]; exact ho, hb⟩
     case measure => simp [intOf]; omega
   ·have hk' : k = 12 := by omega
    subst hk'
    go_wp2
    go_ret
    exact ⟨_, rfl, by rw [hs.out]; exact ho, hb⟩
 ·have hs := Lib.hid (show setOfS n = [] from if_neg h)
  by_cases h0 : n < 0
  ·clear h
   go_enter Tryz.func72, Tryz.ntmps72
   go_wp2
   go_ret
   exact ⟨_, rfl, by rw [hs.out]; exact OwnI.new _ _ (Nat.le_refl _), (Below.refl _ _).alloc (Nat.le_refl _) _⟩
  ·have h1 : 4096 ≤ n := by omega
   have h2 : 0 ≤ n := by omega
   clear h h0
   go_enter Tryz.func72, Tryz.ntmps72
   go_wp2
   go_ret
   exact ⟨_, rfl, by rw [hs.out]; exact OwnI.new _ _ (Nat.le_refl _), (Below.refl _ _).alloc (Nat.le_refl _) _⟩

end Go.Proofs.YthikhkeofcjdfaaGreat
