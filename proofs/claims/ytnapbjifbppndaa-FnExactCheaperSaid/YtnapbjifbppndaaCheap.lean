/-
  Two lists of costs held against one another: both sides. No condition of its own.
-/
import Derived.Test.YtnapbjifbppndaaSets
import Derived.Deep.QuietTactic
import Derived.BigQuiet
namespace Go.Proofs.Ytnapbjifbppndaa
set_option linter.unusedVariables false
set_option linter.unusedSimpArgs false
open Go.RowKit
set_option maxRecDepth 100000

/-- -1, 0 or 1: the first difference tells, else the length. -/
def cmpL : List Int → List Int → Int
  | [], [] => 0
  | [], _ :: _ => -1
  | _ :: _, [] => 1
  | x :: r, y :: s => if x < y then -1 else if y < x then 1 else cmpL r s
theorem cmp_step {xs ys : List Int} {k : Nat} (h1 : k < xs.length) (h2 : k < ys.length) :
    cmpL (xs.drop k) (ys.drop k) = if el xs k < el ys k then -1 else if el ys k < el xs k then 1 else cmpL (xs.drop (k + 1)) (ys.drop (k + 1)) := by
  rw [List.drop_eq_getElem_cons h1, List.drop_eq_getElem_cons h2, el_eq h1, el_eq h2]
  rfl
theorem cmp_lt {xs ys : List Int} {k : Nat} (h1 : k < xs.length) (h2 : k < ys.length) (h : el xs k < el ys k) : cmpL (xs.drop k) (ys.drop k) = -1 := by rw [cmp_step h1 h2, if_pos h]
theorem cmp_gt {xs ys : List Int} {k : Nat} (h1 : k < xs.length) (h2 : k < ys.length) (h : el ys k < el xs k) : cmpL (xs.drop k) (ys.drop k) = 1 := by rw [cmp_step h1 h2, if_neg (by omega), if_pos h]
theorem cmp_on {xs ys : List Int} {k : Nat} (h1 : k < xs.length) (h2 : k < ys.length) (h : ¬ el xs k < el ys k) (h' : ¬ el ys k < el xs k) : cmpL (xs.drop k) (ys.drop k) = cmpL (xs.drop (k + 1)) (ys.drop (k + 1)) := by rw [cmp_step h1 h2, if_neg h, if_neg h']
theorem cmp_long {xs ys : List Int} {k : Nat} (h1 : k < xs.length) (h2 : ys.length ≤ k) : cmpL (xs.drop k) (ys.drop k) = 1 := by
  rw [List.drop_eq_getElem_cons h1, List.drop_eq_nil_of_le h2]; rfl
theorem cmp_short {xs ys : List Int} {k : Nat} (h1 : xs.length ≤ k) (h2 : k < ys.length) : cmpL (xs.drop k) (ys.drop k) = -1 := by
  rw [List.drop_eq_getElem_cons h2, List.drop_eq_nil_of_le h1]; rfl
theorem cmp_same {xs ys : List Int} {k : Nat} (h1 : xs.length ≤ k) (h2 : ys.length ≤ k) : cmpL (xs.drop k) (ys.drop k) = 0 := by
  rw [List.drop_eq_nil_of_le h1, List.drop_eq_nil_of_le h2]; rfl
theorem cmpL_self : ∀ xs : List Int, cmpL xs xs = 0
  | [] => rfl
  | x :: r => by show (if x < x then -1 else if x < x then 1 else cmpL r r) = 0; rw [if_neg (by omega), if_neg (by omega), cmpL_self r]

theorem nan_calls (n : Int) (w : World) : Calls Try.prog 95 #[.int .i64 n] w fun e w' => e = .returned (.bool false) ∧ w = w' := by
  have hd : (!(n == n)) = false := by simp
  go_enter Try.func95, Try.ntmps95
  go_wp2
  go_ret
  exact ⟨ret_bool (by simp), rfl⟩
def cmpI (a b : Int) : Int := if a < b then -1 else if b < a then 1 else 0
theorem cmpI_lt {a b : Int} (h : a < b) : cmpI a b = -1 := if_pos h
theorem cmpI_gt {a b : Int} (h : b < a) : cmpI a b = 1 := by unfold cmpI; rw [if_neg (by omega), if_pos h]
theorem cmpI_on {a b : Int} (h : ¬ a < b) (h' : ¬ b < a) : cmpI a b = 0 := by unfold cmpI; rw [if_neg h, if_neg h']
theorem compare_calls (a b : Int) (w : World) : Calls Try.prog 58 #[.int .i64 a, .int .i64 b] w fun e w' => e = .returned (.int .i64 (cmpI a b)) ∧ w = w' := by
  by_cases h1 : a < b
  · have hv := Lib.hid (cmpI_lt h1)
    go_enter Try.func58, Try.ntmps58
    go_wp2_with (go_at_call 95; refine (nan_calls _ _).mono ?_; rintro e w' ⟨rfl, rfl⟩)
    go_ret
    exact ⟨ret_int hv.out.symm, rfl⟩
  · by_cases h2 : b < a
    · have hv := Lib.hid (cmpI_gt h2)
      go_enter Try.func58, Try.ntmps58
      go_wp2_with (go_at_call 95; refine (nan_calls _ _).mono ?_; rintro e w' ⟨rfl, rfl⟩)
      go_ret
      exact ⟨ret_int hv.out.symm, rfl⟩
    · have hv := Lib.hid (cmpI_on h1 h2)
      have h1' : b ≤ a := by omega
      have h2' : a ≤ b := by omega
      go_enter Try.func58, Try.ntmps58
      go_wp2_with (go_at_call 95; refine (nan_calls _ _).mono ?_; rintro e w' ⟨rfl, rfl⟩)
      go_ret
      exact ⟨ret_int hv.out.symm, rfl⟩

set_option maxHeartbeats 1000000 in
theorem slicesCompare_calls (a a' : Option Addr) (xs ys : List Int) (ca ca' : Nat) (w : World) (h : Ints w a xs) (h' : Ints w a' ys) :
    Calls Try.prog 25 #[.slice a xs.length ca, .slice a' ys.length ca'] w fun e w' => e = .returned (.int .i64 (cmpL xs ys)) ∧ w = w' := by
  have hm := h.1
  have hm' := h'.1
  have H0 : Hid (cmpL xs ys = cmpL (xs.drop 0) (ys.drop 0)) := rfl
  go_enter Try.func25, Try.ntmps25
  go_wp2
  go_loop [11] (fun i => ∃ k : Nat, k ≤ xs.length ∧ k ≤ ys.length ∧ i = .int .i64 k ∧ Hid (cmpL xs ys = cmpL (xs.drop k) (ys.drop k))) (fun i => xs.length - (intOf i).toNat)
  case atStart => exact ⟨0, by omega, by omega, rfl, H0⟩
  case round =>
    obtain ⟨k, hk, hk', rfl, HE⟩ := hrel
    by_cases hlt : k < xs.length
    · obtain ⟨b, off, rfl, c1⟩ := h.2.2 k hlt
      by_cases hlt' : k < ys.length
      · obtain ⟨b', off', rfl, c2⟩ := h'.2.2 k hlt'
        have hlt2 : (k : Int) < (ys.length : Int) := by omega
        by_cases e1 : el xs k < el ys k
        · have hv := Lib.hid (cmpI_lt e1)
          have hr : Hid (cmpL xs ys = -1) := HE.out.trans (cmp_lt hlt hlt' e1)
          clear e1
          generalize el xs k = x at *
          generalize el ys k = y at *
          go_wp2_with (go_at_call 58; refine (compare_calls _ _ _).mono ?_; rintro e w' ⟨rfl, rfl⟩; rw [hv.out])
          go_ret
          exact ⟨ret_int hr.out.symm, rfl⟩
        · by_cases e2 : el ys k < el xs k
          · have hv := Lib.hid (cmpI_gt e2)
            have hr : Hid (cmpL xs ys = 1) := HE.out.trans (cmp_gt hlt hlt' e2)
            clear e1 e2
            generalize el xs k = x at *
            generalize el ys k = y at *
            go_wp2_with (go_at_call 58; refine (compare_calls _ _ _).mono ?_; rintro e w' ⟨rfl, rfl⟩; rw [hv.out])
            go_ret
            exact ⟨ret_int hr.out.symm, rfl⟩
          · have hv := Lib.hid (cmpI_on e1 e2)
            have hr : Hid (cmpL xs ys = cmpL (xs.drop (k + 1)) (ys.drop (k + 1))) := HE.out.trans (cmp_on hlt hlt' e1 e2)
            clear e1 e2
            generalize el xs k = x at *
            generalize el ys k = y at *
            go_wp2_with (go_at_call 58; refine (compare_calls _ _ _).mono ?_; rintro e w' ⟨rfl, rfl⟩; rw [hv.out])
            go_round
            case rel => exact ⟨k + 1, by omega, by omega, by go_num, hr⟩
            case measure => simp [intOf]; omega
      · have hr : Hid (cmpL xs ys = 1) := HE.out.trans (cmp_long hlt (by omega))
        have hge : (ys.length : Int) ≤ (k : Int) := by omega
        go_wp2
        go_ret
        exact ⟨ret_int hr.out.symm, rfl⟩
    · have hkx : k = xs.length := by omega
      subst hkx
      by_cases hlt' : xs.length < ys.length
      · have hr : Hid (cmpL xs ys = -1) := HE.out.trans (cmp_short (Nat.le_refl _) hlt')
        have hlt2 : (xs.length : Int) < (ys.length : Int) := by omega
        go_wp2
        go_ret
        exact ⟨ret_int hr.out.symm, rfl⟩
      · have hr : Hid (cmpL xs ys = 0) := HE.out.trans (cmp_same (Nat.le_refl _) (by omega))
        have hlt2 : (ys.length : Int) ≤ (xs.length : Int) := by omega
        go_wp2
        go_ret
        exact ⟨ret_int hr.out.symm, rfl⟩

theorem implCheaper_calls (a a' : Option Addr) (xs ys : List Int) (ca ca' : Nat) (w : World) (h : Ints w a xs) (h' : Ints w a' ys) :
    Calls Try.prog 8 #[.slice a xs.length ca, .slice a' ys.length ca'] w fun e w' => e = .returned (.int .i64 (cmpL xs ys)) ∧ w = w' := by
  go_enter Try.func8, Try.ntmps8
  go_wp2_with (go_at_call 25; refine (slicesCompare_calls _ _ _ _ _ _ _ h h').mono ?_; rintro e w' ⟨rfl, rfl⟩)
  go_ret
  exact ⟨rfl, rfl⟩

set_option maxHeartbeats 2000000 in
theorem specCheaper_calls (a a' : Option Addr) (xs ys : List Int) (ca ca' : Nat) (w : World) (h : Ints w a xs) (h' : Ints w a' ys) :
    Calls Try.prog 6 #[.slice a xs.length ca, .slice a' ys.length ca'] w fun e w' => e = .returned (.int .i64 (cmpL xs ys)) ∧ Below w.heap.size w w' := by
  have hm := h.1
  have hm' := h'.1
  have H0 : Hid (cmpL xs ys = cmpL (xs.drop 0) (ys.drop 0)) := rfl
  go_enter Try.func6, Try.ntmps6
  go_wp2
  go_loopw [5] (fun i wr => ∃ k : Nat, k ≤ xs.length ∧ k ≤ ys.length ∧ i = .int .i64 k ∧ Hid (cmpL xs ys = cmpL (xs.drop k) (ys.drop k)) ∧ Below w.heap.size w wr) (fun i _ => xs.length - (intOf i).toNat)
  case atStart => exact ⟨0, by omega, by omega, rfl, H0, Below.refl _ _⟩
  case round =>
    obtain ⟨k, hk, hk', rfl, HE, hB⟩ := hrel
    have h := h.later hB
    have h' := h'.later hB
    by_cases hlt : k < xs.length
    · obtain ⟨b, off, rfl, c1⟩ := h.2.2 k hlt
      have hlt1 : (k : Int) < (xs.length : Int) := by omega
      by_cases hlt' : k < ys.length
      · obtain ⟨b', off', rfl, c2⟩ := h'.2.2 k hlt'
        have hlt2 : (k : Int) < (ys.length : Int) := by omega
        by_cases e1 : el xs k < el ys k
        · have hr : Hid (cmpL xs ys = -1) := HE.out.trans (cmp_lt hlt hlt' e1)
          generalize el xs k = x at *
          generalize el ys k = y at *
          go_wp2_with fail
          go_quiet (fail)
          go_wp2
          go_ret
          exact ⟨ret_int hr.out.symm, by first | exact hB.drew | exact below_drewN hB _⟩
        · by_cases e2 : el ys k < el xs k
          · have hr : Hid (cmpL xs ys = 1) := HE.out.trans (cmp_gt hlt hlt' e2)
            generalize el xs k = x at *
            generalize el ys k = y at *
            have e3 : decide (x < y) = false := decide_eq_false (by omega)
            go_wp2_with fail
            go_quiet (fail)
            go_wp2_with fail
            go_quiet (fail)
            go_wp2
            go_ret
            exact ⟨ret_int hr.out.symm, by first | exact hB.drew.drew | exact below_drewN hB _ | exact below_drewN (below_drewN hB _) _⟩
          · have hr : Hid (cmpL xs ys = cmpL (xs.drop (k + 1)) (ys.drop (k + 1))) := HE.out.trans (cmp_on hlt hlt' e1 e2)
            generalize el xs k = x at *
            generalize el ys k = y at *
            have e3 : decide (x < y) = false := decide_eq_false (by omega)
            have e4 : decide (y < x) = false := decide_eq_false (by omega)
            go_wp2_with fail
            go_quiet (fail)
            go_wp2_with fail
            go_quiet (fail)
            go_wp2
            go_roundw
            case rel => exact ⟨k + 1, by omega, by omega, by go_num, hr, by first | exact hB.drew.drew | exact below_drewN hB _ | exact below_drewN (below_drewN hB _) _⟩
            case measure => simp [intOf]; omega
      · have hr : Hid (cmpL xs ys = 1) := HE.out.trans (cmp_long hlt (by omega))
        have hge : (ys.length : Int) ≤ (k : Int) := by omega
        have hgt : (ys.length : Int) < (xs.length : Int) := by omega
        have hge2 : (ys.length : Int) ≤ (xs.length : Int) := by omega
        go_wp2
        go_ret
        exact ⟨ret_int hr.out.symm, hB⟩
    · have hkx : k = xs.length := by omega
      subst hkx
      by_cases hlt' : xs.length < ys.length
      · have hr : Hid (cmpL xs ys = -1) := HE.out.trans (cmp_short (Nat.le_refl _) hlt')
        have hlt2 : (xs.length : Int) < (ys.length : Int) := by omega
        go_wp2
        go_ret
        exact ⟨ret_int hr.out.symm, hB⟩
      · have hr : Hid (cmpL xs ys = 0) := HE.out.trans (cmp_same (Nat.le_refl _) (by omega))
        have hlt2 : (ys.length : Int) ≤ (xs.length : Int) := by omega
        have hlt3 : xs.length = ys.length := by omega
        go_wp2
        go_ret
        exact ⟨ret_int hr.out.symm, hB⟩

end Go.Proofs.Ytnapbjifbppndaa
