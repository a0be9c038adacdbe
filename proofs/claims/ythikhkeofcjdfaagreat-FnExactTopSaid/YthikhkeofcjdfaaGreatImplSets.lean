import Derived.Test.YthikhkeofcjdfaaGreatSets
import Derived.Laws.BitsAllLaws
namespace Go.Proofs.YthikhkeofcjdfaaGreat
set_option linter.unusedVariables false
set_option linter.unusedSimpArgs false
open Go.RowKit
set_option maxRecDepth 100000

/-- The bit of an atom. -/
def bitN (x : Int) : Nat := if 1 ≤ x ∧ x ≤ 12 then 2 ^ (x - 1).toNat else 0
theorem bitN_out {x : Int} (h : ¬ (1 ≤ x ∧ x ≤ 12)) : bitN x = 0 := if_neg h
theorem bitN_in {x : Int} (h : 1 ≤ x ∧ x ≤ 12) : bitN x = 2 ^ (x - 1).toNat := if_pos h
theorem bitN_lt (x : Int) : bitN x < 4096 := by
 by_cases h : 1 ≤ x ∧ x ≤ 12
 ·rw [bitN_in h]
  exact Nat.pow_lt_pow_right (by omega) (show (x - 1).toNat < 12 by omega)
 ·rw [bitN_out h]; omega

set_option maxHeartbeats 1000000 in
theorem atomBit_calls (x : Int) (w : World) (hx : Fits x) :
  Calls Tryz.prog 167 #[.int .i64 x] w fun e w' => e = .returned (.int .u16 (bitN x : Int)) ∧ w = w' := by
 unfold Fits at hx
 obtain ⟨hx0, hx1⟩ := hx
 by_cases h : 1 ≤ x ∧ x ≤ 12
 ·obtain ⟨h1, h2⟩ := h
  have hc : x = 1 ∨ x = 2 ∨ x = 3 ∨ x = 4 ∨ x = 5 ∨ x = 6 ∨ x = 7 ∨ x = 8 ∨ x = 9 ∨ x = 10 ∨ x = 11 ∨ x = 12 := by omega
  clear h1 h2 hx0 hx1
  rcases hc with rfl | rfl | rfl | rfl | rfl | rfl | rfl | rfl | rfl | rfl | rfl | rfl
  all_goals
   go_enter Tryz.func167, Tryz.ntmps167
   go_wp2
   go_ret
   exact ⟨ret_int (by decide), rfl⟩
 ·have hb := Lib.hid (bitN_out h)
  by_cases h1 : x < 1
  ·clear h
   go_enter Tryz.func167, Tryz.ntmps167
   go_wp2
   go_ret
   exact ⟨ret_int (by rw [hb.out]; rfl), rfl⟩
  ·have h2 : 12 < x := by omega
   have h3 : 1 ≤ x := by omega
   clear h
   go_enter Tryz.func167, Tryz.ntmps167
   go_wp2
   go_ret
   exact ⟨ret_int (by rw [hb.out]; rfl), rfl⟩

/-- The set of a list as one number. -/
def maskOf (xs : List Int) : Nat := xs.foldl (fun s x => s ||| bitN x) 0
theorem maskOf_nil : maskOf [] = 0 := rfl
theorem maskOf_snoc (xs : List Int) (x : Int) : maskOf (xs ++ [x]) = maskOf xs ||| bitN x := by simp [maskOf]
theorem maskOf_lt (xs : List Int) : maskOf xs < 4096 := by
 have : ∀ (l : List Int) (s : Nat), s < 4096 → l.foldl (fun s x => s ||| bitN x) s < 4096 := by
  intro l
  induction l with
  | nil => intro s hs; exact hs
  | cons x r ih => intro s hs; exact ih _ (Nat.or_lt_two_pow (n := 12) hs (bitN_lt x))
 exact this xs 0 (by omega)
theorem maskOf_step {xs : List Int} {k : Nat} (hk : k < xs.length) : maskOf (xs.take (k + 1)) = maskOf (xs.take k) ||| bitN (el xs k) := by
 rw [take_el hk, maskOf_snoc]

theorem or_u16 (a b : Nat) (ha : a < 4096) (hb : b < 4096) : bits .or .u16 (a : Int) (b : Int) = ((a ||| b : Nat) : Int) := u16_or_nat a b (by omega) (by omega)
theorem and_u16 (a b : Nat) (ha : a < 4096) (hb : b < 4096) : bits .and .u16 (a : Int) (b : Int) = ((a &&& b : Nat) : Int) := u16_and_nat a b (by omega) (by omega)

set_option maxHeartbeats 400000 in
theorem atomsIn_calls (a : Option Addr) (xs : List Int) (cap : Nat) (w : World) (h : Ints w a xs) :
  Calls Tryz.prog 76 #[.slice a xs.length cap] w fun e w' => e = .returned (.int .u16 (maskOf xs : Int)) ∧ w = w' := by
 by_cases hne : 0 < xs.length
 ·obtain ⟨b, off, rfl, hc⟩ := h.at hne
  have hm := h.1
  have hF := h.2.1
  clear h
  go_enter Tryz.func76, Tryz.ntmps76
  go_wp2
  go_loop [3, 8] (fun s i => ∃ k : Nat, k ≤ xs.length ∧ i = .int .i64 k ∧ s = .int .u16 (maskOf (xs.take k) : Int)) (fun _ i => xs.length - (intOf i).toNat)
  case atStart => exact ⟨0, Nat.zero_le _, rfl, rfl⟩
  case round =>
   obtain ⟨k, hk, rfl, rfl⟩ := hrel
   by_cases hlt : k < xs.length
   ·have hck := hc k hlt
    have hfx := hF _ (el_mem hlt)
    have hor := or_u16 _ _ (maskOf_lt (xs.take k)) (bitN_lt (el xs k))
    have hst := Lib.hid (maskOf_step hlt)
    clear hF hc
    go_wp2_with (go_at_call 167; refine (atomBit_calls _ _ hfx).mono ?_; rintro e w' ⟨rfl, rfl⟩)
    go_round
    case rel => exact ⟨k + 1, by omega, by go_num, by rw [hst.out]⟩
    case measure => simp [intOf]; omega
   ·have hst : maskOf (xs.take k) = maskOf xs := by rw [List.take_of_length_le (by omega)]
    have hst := Lib.hid hst
    go_wp2
    go_ret
    exact ⟨ret_int (by first | rfl | rw [hst.out]), rfl⟩
 ·have : xs = [] := by cases xs <;> simp_all
  subst this
  clear h hne
  go_enter Tryz.func76, Tryz.ntmps76
  go_wp2
  refine wp_loop_rounds 1 ?_
  rw [rounds_succ]
  go_wp2
  go_ret
  exact ⟨rfl, rfl⟩

/-- Has a set of this number an atom? -/
def hasM (m : Nat) (x : Int) : Bool := (((m &&& bitN x : Nat) : Int) != 0)

theorem has_calls (m : Nat) (x : Int) (w : World) (hm : m < 4096) (hx : Fits x) :
  Calls Tryz.prog 174 #[.int .u16 (m : Int), .int .i64 x] w fun e w' => e = .returned (.bool (hasM m x)) ∧ w = w' := by
 have hand := and_u16 m (bitN x) hm (bitN_lt x)
 go_enter Tryz.func174, Tryz.ntmps174
 go_wp2_with (go_at_call 167; refine (atomBit_calls _ _ hx).mono ?_; rintro e w' ⟨rfl, rfl⟩)
 go_ret
 exact ⟨rfl, rfl⟩

theorem some_byte (n : Int) {w w' : World} (h : Below w.heap.size w w') : ∃ c : Nat, c ≤ 255 ∧ Ending.returned (.int .i64 (n % 256)) = .returned (.int .i64 (c : Int)) ∧ Below w.heap.size w w' :=
 ⟨(n % 256).toNat, by omega, ret_int (by omega), h⟩

set_option maxRecDepth 100000 in
theorem OnesCount16_calls (m : Nat) (w : World) (hm : m < 4096) :
  Calls Tryz.prog 233 #[.int .u16 (m : Int)] w fun e w' => ∃ c : Nat, c ≤ 255 ∧ e = .returned (.int .i64 (c : Int)) ∧ Below w.heap.size w w' := by
 have h1 : (0 : Int) ≤ (m : Int) / 256 := by omega
 have h2 : (m : Int) / 256 < 256 := by omega
 have hand : bits .and .u16 (m : Int) 255 = (m : Int) % 256 := by
  have := u16_and_nat m 255 (by omega) (by omega)
  rw [nat_mask8] at this; simpa using this
 have h3 : (0 : Int) ≤ (m : Int) % 256 := by omega
 have h4 : (m : Int) % 256 < 256 := by omega
 go_enter Tryz.func233, Tryz.ntmps233
 go_wp2
 go_quiet (fail)
 go_wp2
 go_ret
 exact some_byte _ (below_drewN (Below.refl _ _) _)

theorem size_calls (m : Nat) (w : World) (hm : m < 4096) :
  Calls Tryz.prog 186 #[.int .u16 (m : Int)] w fun e w' => ∃ c : Nat, c ≤ 255 ∧ e = .returned (.int .i64 (c : Int)) ∧ Below w.heap.size w w' := by
 go_enter Tryz.func186, Tryz.ntmps186
 go_wp2_with (go_at_call 233; refine (OnesCount16_calls _ _ hm).mono ?_; rintro e w1 ⟨c, hc, rfl, hb⟩)
 go_ret
 exact ⟨c, hc, rfl, hb⟩

theorem andNot_u16 (a b : Nat) (ha : a < 4096) (hb : b < 4096) : bits .andNot .u16 (a : Int) (b : Int) = ((a &&& (65535 - b) : Nat) : Int) := u16_andNot_nat a b (by omega) (by omega)

theorem SetJoin_lt (xs ys : List Int) : (maskOf xs ||| maskOf ys) < 4096 := by
 have a := maskOf_lt xs
 have b := maskOf_lt ys
 first | exact Nat.or_lt_two_pow (n := 12) a b | exact Nat.and_lt_two_pow (n := 12) _ (maskOf_lt ys) | (rw [Nat.and_comm]; exact Nat.and_lt_two_pow (n := 12) _ (maskOf_lt xs))

theorem SetMeet_lt (xs ys : List Int) : (maskOf xs &&& maskOf ys) < 4096 := by
 have a := maskOf_lt xs
 have b := maskOf_lt ys
 first | exact Nat.or_lt_two_pow (n := 12) a b | exact Nat.and_lt_two_pow (n := 12) _ (maskOf_lt ys) | (rw [Nat.and_comm]; exact Nat.and_lt_two_pow (n := 12) _ (maskOf_lt xs))

theorem SetLess_lt (xs ys : List Int) : (maskOf xs &&& (65535 - maskOf ys)) < 4096 := by
 have a := maskOf_lt xs
 have b := maskOf_lt ys
 first | exact Nat.or_lt_two_pow (n := 12) a b | exact Nat.and_lt_two_pow (n := 12) _ (maskOf_lt ys) | (rw [Nat.and_comm]; exact Nat.and_lt_two_pow (n := 12) _ (maskOf_lt xs))

/-- The set of a number; none of a number that is no set's. -/
def setOf (n : Int) : List Int := if 0 ≤ n ∧ n < 4096 then pickTo (hasM n.toNat) 12 else []

end Go.Proofs.YthikhkeofcjdfaaGreat
