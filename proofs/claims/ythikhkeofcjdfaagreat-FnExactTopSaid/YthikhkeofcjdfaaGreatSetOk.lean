import Derived.Test.YthikhkeofcjdfaaGreatSets
namespace Go.Proofs.YthikhkeofcjdfaaGreat
set_option linter.unusedVariables false
set_option linter.unusedSimpArgs false
open Go.RowKit
set_option maxRecDepth 100000

def btwB (n lo hi : Int) : Bool := decide (lo ≤ n ∧ n ≤ hi)
theorem btwB_yes {n lo hi : Int} (h1 : lo ≤ n) (h2 : n ≤ hi) : btwB n lo hi = true := decide_eq_true ⟨h1, h2⟩
theorem btwB_no {n lo hi : Int} (h : ¬ (lo ≤ n ∧ n ≤ hi)) : btwB n lo hi = false := decide_eq_false h

theorem between_calls (n lo hi : Int) (w : World) :
  Calls Tryz.prog 66 #[.int .i64 n, .int .i64 lo, .int .i64 hi] w fun e w' => e = .returned (.bool (btwB n lo hi)) ∧ w = w' := by
 by_cases h1 : lo ≤ n
 ·by_cases h2 : n ≤ hi
  ·have hb := Lib.hid (btwB_yes h1 h2)
   go_enter Tryz.func66, Tryz.ntmps66
   go_wp2
   go_ret
   exact ⟨ret_bool hb.out.symm, rfl⟩
  ·have hb := Lib.hid (btwB_no (lo := lo) fun h => h2 h.2)
   have h2' : decide (n ≤ hi) = false := decide_eq_false h2
   clear h2
   go_enter Tryz.func66, Tryz.ntmps66
   go_wp2
   go_ret
   exact ⟨ret_bool hb.out.symm, rfl⟩
 ·have hb := Lib.hid (btwB_no (hi := hi) fun h => h1 h.1)
  have h1' : n < lo := by omega
  clear h1
  go_enter Tryz.func66, Tryz.ntmps66
  go_wp2
  go_ret
  exact ⟨ret_bool hb.out.symm, rfl⟩

def okStep (xs : List Int) (n : Int) (k : Nat) : Bool := decide (1 ≤ el xs k ∧ el xs k ≤ n ∧ (k = 0 ∨ el xs (k - 1) < el xs k))
def okTo (xs : List Int) (n : Int) : Nat → Bool
 | 0 => true
 | k + 1 => okTo xs n k && okStep xs n k
def setOkB (xs : List Int) (n : Int) : Bool := decide (0 ≤ n ∧ n ≤ 12) && okTo xs n xs.length

theorem okTo_no {xs : List Int} {n : Int} {k : Nat} (h : okStep xs n k = false) : ∀ {m : Nat}, k < m → okTo xs n m = false
 | m + 1, hm => by
  by_cases e : k = m
  ·subst e; simp [okTo, h]
  ·simp [okTo, okTo_no h (show k < m by omega)]
theorem okTo_yes {xs : List Int} {n : Int} {k : Nat} (h0 : okTo xs n k = true) (h : okStep xs n k = true) : okTo xs n (k + 1) = true := by simp [okTo, h0, h]
theorem setOkB_out {xs : List Int} {n : Int} (h : ¬ (0 ≤ n ∧ n ≤ 12)) : setOkB xs n = false := by simp only [setOkB, decide_eq_false h, Bool.false_and]
theorem setOkB_in {xs : List Int} {n : Int} (h : 0 ≤ n ∧ n ≤ 12) : setOkB xs n = okTo xs n xs.length := by simp only [setOkB, decide_eq_true h, Bool.true_and]
theorem okStep_A {xs : List Int} {n : Int} {k : Nat} (h : ¬ (1 ≤ el xs k ∧ el xs k ≤ n)) : okStep xs n k = false := decide_eq_false fun ⟨a, b, _⟩ => h ⟨a, b⟩
theorem okStep_B {xs : List Int} {n : Int} {k : Nat} (h : 1 ≤ el xs k ∧ el xs k ≤ n) (h0 : k = 0) : okStep xs n k = true := decide_eq_true ⟨h.1, h.2, .inl h0⟩
theorem okStep_C {xs : List Int} {n : Int} {k : Nat} (h : 1 ≤ el xs k ∧ el xs k ≤ n) (hl : el xs (k - 1) < el xs k) : okStep xs n k = true := decide_eq_true ⟨h.1, h.2, .inr hl⟩
theorem okStep_D {xs : List Int} {n : Int} {k : Nat} (h0 : ¬ k = 0) (hl : ¬ el xs (k - 1) < el xs k) : okStep xs n k = false := decide_eq_false fun ⟨_, _, h⟩ => h.elim h0 hl

set_option maxHeartbeats 2000000 in
theorem specSetOk_calls (a : Option Addr) (xs : List Int) (cap : Nat) (n : Int) (w : World) (h : Ints w a xs) :
  Calls Tryz.prog 65 #[.slice a xs.length cap, .int .i64 n] w fun e w' => e = .returned (.bool (setOkB xs n)) ∧ Below w.heap.size w w' := by
 by_cases hn : 0 ≤ n ∧ n ≤ 12
 ·have hin := Lib.hid (setOkB_in (xs := xs) hn)
  have hbt := btwB_yes hn.1 hn.2
  clear hn
  by_cases hne : 0 < xs.length
  ·obtain ⟨b, off, rfl, hc⟩ := h.at hne
   have hm := h.1
   clear h
   go_enter Tryz.func65, Tryz.ntmps65
   go_wp2_with (go_at_call 66; refine (between_calls _ _ _ _).mono ?_; rintro e w' ⟨rfl, rfl⟩)
   go_loopw [5] (fun i wr => ∃ k : Nat, k ≤ xs.length ∧ i = .int .i64 k ∧ okTo xs n k = true ∧ Below w.heap.size w wr) (fun i _ => xs.length - (intOf i).toNat)
   case atStart => exact ⟨0, Nat.zero_le _, rfl, rfl, Below.refl _ _⟩
   case round =>
    obtain ⟨k, hk, rfl, h0, hb⟩ := hrel
    have H0 := Lib.hid h0; clear h0
    by_cases hlt : k < xs.length
    ·have hck := cell_kept hb (hc k hlt)
     have hkn : (0 : Int) ≤ (k : Int) := by omega
     have hkl : (k : Int) < (xs.length : Int) := by omega
     by_cases hA : 1 ≤ el xs k ∧ el xs k ≤ n
     ·have hbk := btwB_yes hA.1 hA.2
      by_cases hz : k = 0
      ·have hv := Lib.hid (okTo_yes H0.out (okStep_B hA hz))
       have hzd : decide (0 < k) = false := decide_eq_false (by omega)
       clear hz hA hc
       go_wp2
       go_quiet ((go_at_call 66; exact quietS (between_calls _ _ _ _)))
       go_wp2
       go_roundw
       case rel => exact ⟨k + 1, by omega, by go_num, hv.out, by first | exact hb.drew | exact below_drewN hb _⟩
       case measure => simp [intOf]; omega
      ·have hck1 := cell_kept hb (hc (k - 1) (by omega))
       have hz' : (0 : Int) < (k : Int) := by omega
       have hz1 : (0 : Int) ≤ (k : Int) - 1 := by omega
       have hz2 : (k : Int) - 1 < (xs.length : Int) := by omega
       have hw1 : IntKind.i64.wrap ((k : Int) - 1) = (k : Int) - 1 := IntWalk.i64_in _ (by omega)
       have hn1 : ((k : Int) - 1).toNat = k - 1 := by omega
       have hz3 : 0 < k := by omega
       have hzd : decide (0 < k) = true := decide_eq_true hz3
       by_cases hl : el xs (k - 1) < el xs k
       ·have hv := Lib.hid (okTo_yes H0.out (okStep_C hA hl))
        have hld : decide (el xs k ≤ el xs (k - 1)) = false := decide_eq_false (by omega)
        clear hA hz hc hl
        go_wp2
        go_quiet ((go_at_call 66; exact quietS (between_calls _ _ _ _)))
        go_wp2
        go_roundw
        case rel => exact ⟨k + 1, by omega, by go_num, hv.out, by first | exact hb.drew | exact below_drewN hb _⟩
        case measure => simp [intOf]; omega
       ·have hv := Lib.hid (okTo_no (okStep_D (n := n) hz hl) hlt)
        have hld : decide (el xs k ≤ el xs (k - 1)) = true := decide_eq_true (by omega)
        clear hA hz hc hl
        go_wp2
        go_quiet ((go_at_call 66; exact quietS (between_calls _ _ _ _)))
        go_wp2
        go_ret
        exact ⟨ret_bool (by rw [hin.out, hv.out]), by first | exact hb.drew | exact below_drewN hb _⟩
     ·have hbk := btwB_no hA
      have hv := Lib.hid (okTo_no (okStep_A hA) hlt)
      clear hA hc
      go_wp2
      go_quiet ((go_at_call 66; exact quietS (between_calls _ _ _ _)))
      go_wp2
      go_ret
      exact ⟨ret_bool (by rw [hin.out, hv.out]), by first | exact hb.drew | exact below_drewN hb _⟩
    ·have hk' : okTo xs n xs.length = true := by have := H0.out; rwa [show k = xs.length from by omega] at this
     have HK := Lib.hid hk'; clear hk'
     go_wp2
     go_ret
     exact ⟨ret_bool (by rw [hin.out, HK.out]), hb⟩
  ·have : xs = [] := by cases xs <;> simp_all
   subst this
   clear h hne
   go_enter Tryz.func65, Tryz.ntmps65
   go_wp2_with (go_at_call 66; refine (between_calls _ _ _ _).mono ?_; rintro e w' ⟨rfl, rfl⟩)
   refine wp_loop_rounds 1 ?_
   rw [rounds_succ]
   go_wp2
   go_ret
   exact ⟨ret_bool (by rw [hin.out]; rfl), Below.refl _ _⟩
 ·have hv := Lib.hid (setOkB_out (xs := xs) hn)
  have hbt := btwB_no hn
  clear hn
  go_enter Tryz.func65, Tryz.ntmps65
  go_wp2_with (go_at_call 66; refine (between_calls _ _ _ _).mono ?_; rintro e w' ⟨rfl, rfl⟩)
  go_ret
  exact ⟨ret_bool hv.out.symm, Below.refl _ _⟩

def lastOf (xs : List Int) (k : Nat) : Int := if k = 0 then 0 else el xs (k - 1)
theorem lastOf_succ (xs : List Int) (k : Nat) : lastOf xs (k + 1) = el xs k := by simp [lastOf]
theorem okTo_last {xs : List Int} {n : Int} : ∀ {k : Nat}, okTo xs n k = true → 0 ≤ lastOf xs k
 | 0, _ => by simp [lastOf]
 | k + 1, h => by
  rw [lastOf_succ]
  simp only [okTo, okStep, Bool.and_eq_true, decide_eq_true_eq] at h
  omega
theorem okStep_last {xs : List Int} {n : Int} {k : Nat} (h0 : okTo xs n k = true) : okStep xs n k = decide (lastOf xs k < el xs k ∧ el xs k ≤ n) := by
 have hl := okTo_last h0
 unfold okStep
 rw [decide_eq_decide]
 by_cases hk : k = 0
 ·have e : lastOf xs k = 0 := if_pos hk
  rw [e]; omega
 ·have e : lastOf xs k = el xs (k - 1) := if_neg hk
  rw [e] at hl ⊢; omega

set_option maxHeartbeats 1000000 in
theorem implSetOk_calls (a : Option Addr) (xs : List Int) (cap : Nat) (n : Int) (w : World) (h : Ints w a xs) :
  Calls Tryz.prog 97 #[.slice a xs.length cap, .int .i64 n] w fun e w' => e = .returned (.bool (setOkB xs n)) ∧ w = w' := by
 by_cases hn : 0 ≤ n ∧ n ≤ 12
 ·have hin := Lib.hid (setOkB_in (xs := xs) hn)
  obtain ⟨hn0, hn1⟩ := hn
  by_cases hne : 0 < xs.length
  ·obtain ⟨b, off, rfl, hc⟩ := h.at hne
   have hm := h.1
   clear h
   go_enter Tryz.func97, Tryz.ntmps97
   go_wp2
   go_loop [5, 16] (fun l i => ∃ k : Nat, k ≤ xs.length ∧ i = .int .i64 k ∧ l = .int .i64 (lastOf xs k) ∧ okTo xs n k = true) (fun _ i => xs.length - (intOf i).toNat)
   case atStart => exact ⟨0, Nat.zero_le _, rfl, rfl, rfl⟩
   case round =>
    obtain ⟨k, hk, rfl, rfl, h0⟩ := hrel
    have H0 := Lib.hid h0; clear h0
    by_cases hlt : k < xs.length
    ·have hck := hc k hlt
     have hst := Lib.hid (okStep_last H0.out)
     have hls := Lib.hid (lastOf_succ xs k)
     by_cases h1 : lastOf xs k < el xs k
     ·by_cases h2 : el xs k ≤ n
      ·have hv := Lib.hid (okTo_yes H0.out (by rw [hst.out]; exact decide_eq_true ⟨h1, h2⟩))
       clear hc
       go_wp2
       go_round
       case rel => exact ⟨k + 1, by omega, by go_num, by rw [hls.out], hv.out⟩
       case measure => simp [intOf]; omega
      ·have hv := Lib.hid (okTo_no (by rw [hst.out]; exact decide_eq_false fun h => h2 h.2) hlt)
       have h2' : n < el xs k := by omega
       clear hc h2
       go_wp2
       go_ret
       exact ⟨ret_bool (by rw [hin.out, hv.out]), rfl⟩
     ·have hv := Lib.hid (okTo_no (by rw [hst.out]; exact decide_eq_false fun h => h1 h.1) hlt)
      have h1' : el xs k ≤ lastOf xs k := by omega
      clear hc h1
      go_wp2
      go_ret
      exact ⟨ret_bool (by rw [hin.out, hv.out]), rfl⟩
    ·have hk' : okTo xs n xs.length = true := by have := H0.out; rwa [show k = xs.length from by omega] at this
     have HK := Lib.hid hk'; clear hk'
     go_wp2
     go_ret
     exact ⟨ret_bool (by rw [hin.out, HK.out]), rfl⟩
  ·have : xs = [] := by cases xs <;> simp_all
   subst this
   clear h hne
   go_enter Tryz.func97, Tryz.ntmps97
   go_wp2
   refine wp_loop_rounds 1 ?_
   rw [rounds_succ]
   go_wp2
   go_ret
   exact ⟨ret_bool (by rw [hin.out]; rfl), rfl⟩
 ·have hv := Lib.hid (setOkB_out (xs := xs) hn)
  by_cases h0 : n < 0
  ·clear hn
   go_enter Tryz.func97, Tryz.ntmps97
   go_wp2
   go_ret
   exact ⟨ret_bool hv.out.symm, rfl⟩
  ·have h1 : 12 < n := by omega
   have h2 : 0 ≤ n := by omega
   clear hn h0
   go_enter Tryz.func97, Tryz.ntmps97
   go_wp2
   go_ret
   exact ⟨ret_bool hv.out.symm, rfl⟩

end Go.Proofs.YthikhkeofcjdfaaGreat
