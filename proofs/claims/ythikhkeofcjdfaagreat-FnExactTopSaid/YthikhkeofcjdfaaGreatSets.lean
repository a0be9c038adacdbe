import Derived.Test.YthikhkeofcjdfaaGreatBase
namespace Go.Proofs.YthikhkeofcjdfaaGreat
set_option linter.unusedVariables false
set_option linter.unusedSimpArgs false
open Go.RowKit
set_option maxRecDepth 100000

def hasB (xs : List Int) (x : Int) : Bool := decide (x ∈ xs)
theorem hasB_nil (x : Int) : hasB [] x = false := by simp [hasB]
theorem hasB_yes {xs : List Int} {x : Int} {k : Nat} (hk : k < xs.length) (h : el xs k = x) : hasB xs x = true := by
 simp [hasB]; exact h ▸ el_mem hk
theorem hasB_step {xs : List Int} {x : Int} {k : Nat} (hk : k < xs.length) (h0 : hasB (xs.take k) x = false) (h : ¬ el xs k = x) : hasB (xs.take (k + 1)) x = false := by
 simp only [hasB, decide_eq_false_iff_not] at h0 ⊢
 rw [take_el hk, List.mem_append]
 rintro (h1 | h1)
 ·exact h0 h1
 ·simp at h1; exact h h1.symm

set_option maxHeartbeats 400000 in
theorem SetHas_calls (a : Option Addr) (xs : List Int) (cap : Nat) (x : Int) (w : World) (h : Ints w a xs) :
  Calls Tryz.prog 88 #[.slice a xs.length cap, .int .i64 x] w fun e w' => e = .returned (.bool (hasB xs x)) ∧ w = w' := by
 by_cases hne : 0 < xs.length
 ·obtain ⟨b, off, rfl, hc⟩ := h.at hne
  have hm := h.1
  clear h
  go_enter Tryz.func88, Tryz.ntmps88
  go_wp2
  go_loop [5] (fun i => ∃ k : Nat, k ≤ xs.length ∧ i = .int .i64 k ∧ hasB (xs.take k) x = false) (fun i => xs.length - (intOf i).toNat)
  case atStart => exact ⟨0, Nat.zero_le _, rfl, by simp [hasB]⟩
  case round =>
   obtain ⟨k, hk, rfl, h0⟩ := hrel
   have H0 := Lib.hid h0; clear h0
   by_cases hlt : k < xs.length
   ·have hck := hc k hlt
    by_cases hx : el xs k = x
    ·have hy := Lib.hid (hasB_yes hlt hx)
     have hbx : (el xs k == x) = true := by simpa using hx
     clear hx
     go_wp2
     go_ret
     exact ⟨ret_bool hy.out.symm, rfl⟩
    ·have hy := Lib.hid (hasB_step hlt H0.out hx)
     have hbx : (el xs k == x) = false := by simpa using hx
     clear hx
     go_wp2
     go_round
     case rel => exact ⟨k + 1, by omega, by go_num, hy.out⟩
     case measure => simp [intOf]; omega
   ·have hk' : hasB xs x = false := by have := H0.out; rwa [List.take_of_length_le (by omega)] at this
    have HK := Lib.hid hk'; clear hk'
    go_wp2
    go_ret
    exact ⟨ret_bool HK.out.symm, rfl⟩
 ·have : xs = [] := by cases xs <;> simp_all
  subst this
  clear h hne
  go_enter Tryz.func88, Tryz.ntmps88
  go_wp2
  refine wp_loop_rounds 1 ?_
  rw [rounds_succ]
  go_wp2
  go_ret
  exact ⟨ret_bool (hasB_nil x).symm, rfl⟩

/-- The numbers from 1 to k for which f holds. -/
def pickTo (f : Int → Bool) : Nat → List Int
 | 0 => []
 | k + 1 => if f ((k : Int) + 1) then pickTo f k ++ [(k : Int) + 1] else pickTo f k
theorem pickTo_len (f : Int → Bool) : ∀ k, (pickTo f k).length ≤ k
 | 0 => Nat.le_refl _
 | k + 1 => by have := pickTo_len f k; unfold pickTo; split <;> simp <;> omega
theorem pickTo_yes {f : Int → Bool} {k : Nat} (h : f ((k : Int) + 1) = true) : pickTo f (k + 1) = pickTo f k ++ [(k : Int) + 1] := by simp [pickTo, h]
theorem pickTo_no {f : Int → Bool} {k : Nat} (h : f ((k : Int) + 1) = false) : pickTo f (k + 1) = pickTo f k := by simp [pickTo, h]
theorem mem_pickTo (f : Int → Bool) (x : Int) : ∀ k, x ∈ pickTo f k ↔ 1 ≤ x ∧ x ≤ k ∧ f x = true
 | 0 => by simp [pickTo]; omega
 | k + 1 => by
  have ih := mem_pickTo f x k
  cases h : f ((k : Int) + 1) with
  | true =>
   rw [pickTo_yes h, List.mem_append, ih]
   constructor
   ·rintro (⟨a, b, c⟩ | h1)
    ·exact ⟨a, by omega, c⟩
    ·simp at h1; subst h1; exact ⟨by omega, by omega, h⟩
   ·rintro ⟨a, b, c⟩
    by_cases e : x ≤ k
    ·exact .inl ⟨a, e, c⟩
    ·right; simp; omega
  | false =>
   rw [pickTo_no h, ih]
   constructor
   ·rintro ⟨a, b, c⟩; exact ⟨a, by omega, c⟩
   ·rintro ⟨a, b, c⟩
    by_cases e : x = k + 1
    ·subst e; rw [h] at c; cases c
    ·exact ⟨a, by omega, c⟩

/-- What l01Pick asks of an atom. -/
def pickF (xs ys : List Int) (b l r : Bool) (x : Int) : Bool := hasB xs x && hasB ys x && b || hasB xs x && !hasB ys x && l || !hasB xs x && hasB ys x && r

theorem pickF_val {xs ys : List Int} {b l r hx hy : Bool} {x : Int} (h1 : hasB xs x = hx) (h2 : hasB ys x = hy) : pickF xs ys b l r x = (hx && hy && b || hx && !hy && l || !hx && hy && r) := by
 unfold pickF; rw [h1, h2]

theorem fits_small {n : Int} (h0 : 0 ≤ n) (h1 : n ≤ 4096) : Fits n := ⟨by omega, by omega⟩

def pickJ (xs ys : List Int) (x : Int) : Bool := pickF xs ys true true true x
theorem pickJ_val {xs ys : List Int} {hx hy : Bool} {x : Int} (h1 : hasB xs x = hx) (h2 : hasB ys x = hy) : pickJ xs ys x = (hx && hy && true || hx && !hy && true || !hx && hy && true) := by
 unfold pickJ pickF; rw [h1, h2]

set_option maxHeartbeats 2000000 in
theorem l01PickJ_calls (a a' : Option Addr) (xs ys : List Int) (ca ca' : Nat) (w : World) (h : Ints w a xs) (h' : Ints w a' ys) :
  Calls Tryz.prog 179 #[.slice a xs.length ca, .slice a' ys.length ca', .bool true, .bool true, .bool true] w fun e w' => ∃ v, e = .returned v ∧ OwnI w.heap.size w' v (pickTo (pickJ xs ys) 12) ∧ Below w.heap.size w w' := by
 obtain ⟨i0, hi, hz0, hz1, hz2⟩ := info_parts info_int
 go_enter Tryz.func179, Tryz.ntmps179
 go_wp2
 go_loopw [11, 12] (fun v i wr => ∃ k : Nat, k ≤ 12 ∧ i = .int .i64 ((k : Int) + 1) ∧ OwnI w.heap.size wr v (pickTo (pickJ xs ys) k) ∧ Below w.heap.size w wr) (fun _ i _ => 13 - (intOf i).toNat)
 case atStart => exact ⟨0, by omega, rfl, OwnI.new _ _ (Nat.le_refl _), (Below.refl _ _).alloc (Nat.le_refl _) _⟩
 case round =>
  obtain ⟨k, hk, rfl, ho, hb⟩ := hrel
  have hx := h.later hb
  have hx' := h'.later hb
  have hsz := hb.size
  by_cases hlt : k < 12
  ·have hF := fits_small (n := (k : Int) + 1) (by omega) (by omega)
   have hlen := pickTo_len (pickJ xs ys) k
   cases h1 : hasB xs ((k : Int) + 1) <;> cases h2 : hasB ys ((k : Int) + 1)
   all_goals
    have hv := Lib.hid (pickJ_val h1 h2)
    go_wp2_with (first | (go_at_call 88; refine (SetHas_calls _ _ _ _ _ (by first | exact hx | exact hx')).mono ?_; rintro e w' ⟨rfl, rfl⟩) | (at_builtin; refine wpList_append_int rfl _ _ rfl rfl ho rfl (by omega) hF (by omega) ?_; intro v' w' ho' hb' hg'))
    go_roundw
    case rel => first | exact ⟨k + 1, by omega, by go_num, by rw [pickTo_no hv.out]; exact ho, hb⟩ | exact ⟨k + 1, by omega, by go_num, by rw [pickTo_yes hv.out]; exact ho', hb.trans hb'⟩
    case measure => simp [intOf]; omega
  ·have hk' : k = 12 := by omega
   subst hk'
   go_wp2
   go_ret
   exact ⟨_, rfl, ho, hb⟩

def pickM (xs ys : List Int) (x : Int) : Bool := pickF xs ys true false false x
theorem pickM_val {xs ys : List Int} {hx hy : Bool} {x : Int} (h1 : hasB xs x = hx) (h2 : hasB ys x = hy) : pickM xs ys x = (hx && hy && true || hx && !hy && false || !hx && hy && false) := by
 unfold pickM pickF; rw [h1, h2]

set_option maxHeartbeats 2000000 in
theorem l01PickM_calls (a a' : Option Addr) (xs ys : List Int) (ca ca' : Nat) (w : World) (h : Ints w a xs) (h' : Ints w a' ys) :
  Calls Tryz.prog 179 #[.slice a xs.length ca, .slice a' ys.length ca', .bool true, .bool false, .bool false] w fun e w' => ∃ v, e = .returned v ∧ OwnI w.heap.size w' v (pickTo (pickM xs ys) 12) ∧ Below w.heap.size w w' := by
 obtain ⟨i0, hi, hz0, hz1, hz2⟩ := info_parts info_int
 go_enter Tryz.func179, Tryz.ntmps179
 go_wp2
 go_loopw [11, 12] (fun v i wr => ∃ k : Nat, k ≤ 12 ∧ i = .int .i64 ((k : Int) + 1) ∧ OwnI w.heap.size wr v (pickTo (pickM xs ys) k) ∧ Below w.heap.size w wr) (fun _ i _ => 13 - (intOf i).toNat)
 case atStart => exact ⟨0, by omega, rfl, OwnI.new _ _ (Nat.le_refl _), (Below.refl _ _).alloc (Nat.le_refl _) _⟩
 case round =>
  obtain ⟨k, hk, rfl, ho, hb⟩ := hrel
  have hx := h.later hb
  have hx' := h'.later hb
  have hsz := hb.size
  by_cases hlt : k < 12
  ·have hF := fits_small (n := (k : Int) + 1) (by omega) (by omega)
   have hlen := pickTo_len (pickM xs ys) k
   cases h1 : hasB xs ((k : Int) + 1) <;> cases h2 : hasB ys ((k : Int) + 1)
   all_goals
    have hv := Lib.hid (pickM_val h1 h2)
    go_wp2_with (first | (go_at_call 88; refine (SetHas_calls _ _ _ _ _ (by first | exact hx | exact hx')).mono ?_; rintro e w' ⟨rfl, rfl⟩) | (at_builtin; refine wpList_append_int rfl _ _ rfl rfl ho rfl (by omega) hF (by omega) ?_; intro v' w' ho' hb' hg'))
    go_roundw
    case rel => first | exact ⟨k + 1, by omega, by go_num, by rw [pickTo_no hv.out]; exact ho, hb⟩ | exact ⟨k + 1, by omega, by go_num, by rw [pickTo_yes hv.out]; exact ho', hb.trans hb'⟩
    case measure => simp [intOf]; omega
  ·have hk' : k = 12 := by omega
   subst hk'
   go_wp2
   go_ret
   exact ⟨_, rfl, ho, hb⟩

def pickL (xs ys : List Int) (x : Int) : Bool := pickF xs ys false true false x
theorem pickL_val {xs ys : List Int} {hx hy : Bool} {x : Int} (h1 : hasB xs x = hx) (h2 : hasB ys x = hy) : pickL xs ys x = (hx && hy && false || hx && !hy && true || !hx && hy && false) := by
 unfold pickL pickF; rw [h1, h2]

set_option maxHeartbeats 2000000 in
theorem l01PickL_calls (a a' : Option Addr) (xs ys : List Int) (ca ca' : Nat) (w : World) (h : Ints w a xs) (h' : Ints w a' ys) :
  Calls Tryz.prog 179 #[.slice a xs.length ca, .slice a' ys.length ca', .bool false, .bool true, .bool false] w fun e w' => ∃ v, e = .returned v ∧ OwnI w.heap.size w' v (pickTo (pickL xs ys) 12) ∧ Below w.heap.size w w' := by
 obtain ⟨i0, hi, hz0, hz1, hz2⟩ := info_parts info_int
 go_enter Tryz.func179, Tryz.ntmps179
 go_wp2
 go_loopw [11, 12] (fun v i wr => ∃ k : Nat, k ≤ 12 ∧ i = .int .i64 ((k : Int) + 1) ∧ OwnI w.heap.size wr v (pickTo (pickL xs ys) k) ∧ Below w.heap.size w wr) (fun _ i _ => 13 - (intOf i).toNat)
 case atStart => exact ⟨0, by omega, rfl, OwnI.new _ _ (Nat.le_refl _), (Below.refl _ _).alloc (Nat.le_refl _) _⟩
 case round =>
  obtain ⟨k, hk, rfl, ho, hb⟩ := hrel
  have hx := h.later hb
  have hx' := h'.later hb
  have hsz := hb.size
  by_cases hlt : k < 12
  ·have hF := fits_small (n := (k : Int) + 1) (by omega) (by omega)
   have hlen := pickTo_len (pickL xs ys) k
   cases h1 : hasB xs ((k : Int) + 1) <;> cases h2 : hasB ys ((k : Int) + 1)
   all_goals
    have hv := Lib.hid (pickL_val h1 h2)
    go_wp2_with (first | (go_at_call 88; refine (SetHas_calls _ _ _ _ _ (by first | exact hx | exact hx')).mono ?_; rintro e w' ⟨rfl, rfl⟩) | (at_builtin; refine wpList_append_int rfl _ _ rfl rfl ho rfl (by omega) hF (by omega) ?_; intro v' w' ho' hb' hg'))
    go_roundw
    case rel => first | exact ⟨k + 1, by omega, by go_num, by rw [pickTo_no hv.out]; exact ho, hb⟩ | exact ⟨k + 1, by omega, by go_num, by rw [pickTo_yes hv.out]; exact ho', hb.trans hb'⟩
    case measure => simp [intOf]; omega
  ·have hk' : k = 12 := by omega
   subst hk'
   go_wp2
   go_ret
   exact ⟨_, rfl, ho, hb⟩


end Go.Proofs.YthikhkeofcjdfaaGreat
