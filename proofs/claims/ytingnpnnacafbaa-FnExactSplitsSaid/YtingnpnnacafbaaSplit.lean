/-
  Search: which atom is asked next. No condition of its own.
-/
import Derived.Test.YtingnpnnacafbaaPropD
import Derived.BigQuiet
import Derived.Deep.RegionHeld3
import Derived.StillTailTactics
namespace Go.Proofs.Ytingnpnnacafbaa
set_option linter.unusedVariables false
set_option linter.unusedSimpArgs false
open Go.RowKit
set_option maxRecDepth 100000
set_option linter.unusedVariables false
set_option linter.unusedSimpArgs false

/-- The least number from 1 to n for which p holds, 0 where there is none. -/
def leastA (p : Int → Bool) : Nat → Int
  | 0 => 0
  | n + 1 => if leastA p n = 0 then (if p ((n : Int) + 1) then (n : Int) + 1 else 0) else leastA p n
theorem leastA_hit {p : Int → Bool} {n : Nat} (h0 : leastA p n = 0) (h : p ((n : Int) + 1) = true) : ∀ {m : Nat}, n + 1 ≤ m → leastA p m = (n : Int) + 1
  | 0, hm => by omega
  | m + 1, hm => by
    by_cases e : n = m
    · subst e; unfold leastA; rw [if_pos h0, if_pos h]
    · have ih := leastA_hit h0 h (m := m) (by omega)
      unfold leastA
      rw [if_neg (by omega)]
      exact ih
theorem leastA_no {p : Int → Bool} {n : Nat} (h0 : leastA p n = 0) (h : p ((n : Int) + 1) = false) : leastA p (n + 1) = 0 := by
  unfold leastA; rw [if_pos h0, h]; rfl
theorem leastA_stop {p : Int → Bool} {n : Nat} (h0 : leastA p n = 0) (h : ∀ a : Int, (n : Int) < a → p a = false) : ∀ {m : Nat}, n ≤ m → leastA p m = 0
  | 0, hm => by rw [show n = 0 by omega] at h0; exact h0
  | m + 1, hm => by
    by_cases e : n = m + 1
    · rw [e] at h0; exact h0
    · exact leastA_no (leastA_stop h0 h (by omega)) (h _ (by omega))
theorem leastA_in {p : Int → Bool} : ∀ n : Nat, 0 ≤ leastA p n ∧ leastA p n ≤ n
  | 0 => ⟨Int.le_refl _, Int.le_refl _⟩
  | n + 1 => by
    have ih := leastA_in (p := p) n
    unfold leastA
    split
    · split <;> omega
    · omega
theorem leastA_congr {p q : Int → Bool} : ∀ {n : Nat}, (∀ a : Int, 1 ≤ a → a ≤ n → p a = q a) → leastA p n = leastA q n
  | 0, _ => rfl
  | n + 1, h => by
    have ih := leastA_congr (n := n) (p := p) (q := q) fun a h1 h2 => h a h1 (by omega)
    unfold leastA
    rw [ih, h _ (by omega) (by omega)]
/-- The literal that is asked next. -/
def splitL (vs os : List Int) : Int := (os.find? fun l => valB vs 0 (atomI l)).getD (leastA (valB vs 0) 12)
/-- None of the first k literals is open. -/
def noneOf (vs os : List Int) (k : Nat) : Prop := ∀ i, i < k → valB vs 0 (atomI (el os i)) = false
theorem noneOf_zero (vs os : List Int) : noneOf vs os 0 := fun i hi => absurd hi (by omega)
theorem noneOf_next {vs os : List Int} {k : Nat} (h : noneOf vs os k) (h0 : valB vs 0 (atomI (el os k)) = false) : noneOf vs os (k + 1) := fun i hi => by
  rcases Nat.lt_or_ge i k with h1 | h1
  · exact h i h1
  · rw [show i = k by omega]; exact h0
theorem splitL_hit {vs os : List Int} {k : Nat} (hk : k < os.length) (h : noneOf vs os k) (h0 : valB vs 0 (atomI (el os k)) = true) : splitL vs os = el os k := by
  have : os.find? (fun l => valB vs 0 (atomI l)) = some (el os k) := by
    rw [el_eq hk]
    rw [List.find?_eq_some_iff_getElem]
    refine ⟨by rw [← el_eq hk]; exact h0, k, hk, rfl, fun j hj => ?_⟩
    have := h j hj
    rw [el_eq (by omega)] at this
    rw [this]; rfl
  unfold splitL; rw [this]; rfl
theorem splitL_none {vs os : List Int} (h : noneOf vs os os.length) : splitL vs os = leastA (valB vs 0) 12 := by
  have : os.find? (fun l => valB vs 0 (atomI l)) = none := by
    rw [List.find?_eq_none]
    intro x hx
    obtain ⟨i, hi, rfl⟩ := List.mem_iff_getElem.1 hx
    have := h i hi
    rw [el_eq hi] at this
    rw [this]; exact Bool.false_ne_true
  unfold splitL; rw [this]; rfl
theorem atomI_nn {l : Int} (h : 0 ≤ l) : atomI l = l := by
  unfold atomI; rw [if_neg (by omega), if_neg (by omega)]
theorem atomI_neg {l : Int} (h : l < 0) (h2 : ¬ l = -9223372036854775808) : atomI l = -l := by
  unfold atomI; rw [if_neg h2, if_pos h]
theorem valB_lo {vs : List Int} {k a : Int} (h : a < 1) : valB vs k a = false := by
  unfold valB; rw [decide_eq_false_iff_not]; omega
theorem valsOk_V {p : ProgD} {vs : List Int} (h : valsOkR p vs = true) : (foldD p).atoms = (vs.length : Int) ∧ VOk vs.length vs := by
  unfold valsOkR at h
  rw [Bool.and_eq_true, Bool.and_eq_true, decide_eq_true_eq, List.all_eq_true] at h
  obtain ⟨h1, h2, h3⟩ := h
  have hok : progOkB (foldD p) = true := foldR_ok h1
  obtain ⟨a0, a1⟩ := progOk_atoms hok
  refine ⟨h2.symm, ⟨rfl, by omega, fun v hv => ?_⟩⟩
  have := h3 v hv
  unfold valB2 btwB at this
  rw [decide_eq_true_eq] at this
  omega

/-! ### the model -/
set_option maxHeartbeats 4000000 in
theorem l09Split_calls (a a' : Option Addr) (os vs : List Int) (cap cap' : Nat) (w : World) (h : Ints w a os) (hv : Ints w a' vs) (hl12 : vs.length ≤ 12) :
    Calls Try.prog 38 #[.slice a os.length cap, .slice a' vs.length cap'] w fun e w' => e = .returned (.tuple #[.int .i64 (atomI (splitL vs os)), .bool (decide (0 < splitL vs os))]) ∧ Below w.heap.size w w' := by
  have hm := h.1
  have HV := Lib.hid hv
  go_enter Try.func38, Try.ntmps38
  go_wp2
  go_loopw [6] (fun i wr => ∃ k : Nat, k ≤ os.length ∧ i = .int .i64 k ∧ Hid (noneOf vs os k) ∧ Below w.heap.size w wr) (fun i _ => os.length - (intOf i).toNat)
  case atStart => exact ⟨0, Nat.zero_le _, rfl, noneOf_zero _ _, Below.refl _ _⟩
  case round =>
    obtain ⟨k, hk, rfl, H0, hb⟩ := hrel
    have h := h.later hb
    have hv := hv.later hb
    by_cases hlt : k < os.length
    · obtain ⟨b, off, rfl, hc⟩ := h.at (by omega)
      have hcs := hc k hlt
      have hfl : Fits (el os k) := h.2.1 _ (el_mem hlt)
      obtain ⟨hf1, hf2⟩ := hfl
      by_cases hmin : el os k = -9223372036854775808
      · have ha : atomI (el os k) = el os k := if_pos hmin
        have hwm : wrap64 (-(el os k)) = el os k := by rw [hmin]; kernel_rfl
        have hneg : el os k < 0 := by omega
        have HB : Hid (btwB (el os k) 1 (vs.length : Int) = false) := btwB_no (by omega)
        have HN : Hid (noneOf vs os (k + 1)) := noneOf_next H0.out (by rw [ha]; exact valB_lo (by omega))
        clear hmin ha hf1 hf2
        go_wp2_with (go_at_call 74; refine (between_calls _ _ _ _).mono ?_; rintro e w' ⟨he, rfl⟩; rw [HB.out] at he; subst he)
        go_roundw
        case rel => exact ⟨k + 1, by omega, by go_num, HN, hb⟩
        case measure => simp [intOf]; omega
      · by_cases hneg : el os k < 0
        · have ha := atomI_neg hneg hmin
          have hlo : -9223372036854775807 ≤ el os k := by omega
          by_cases hin : -(el os k) ≤ (vs.length : Int)
          · skip
            obtain ⟨j, hj⟩ : ∃ j : Nat, -(el os k) = (j : Int) + 1 := ⟨(-(el os k) - 1).toNat, by omega⟩
            have hjl : j < vs.length := by omega
            obtain ⟨bv, ov, rfl, hcv⟩ := hv.at (by omega)
            have hcj := hcv j hjl
            have hj2 : el os k = -((j : Int) + 1) := by omega
            have HA : Hid (atomI (el os k) = (j : Int) + 1) := by show _ = _; rw [ha, hj]
            have HL : Hid (el os k = -((j : Int) + 1)) := hj2
            have HB : Hid (btwB ((j : Int) + 1) 1 (vs.length : Int) = true) := btwB_yes (by omega) (by omega)
            rw [hj2] at hcs
            clear hc
            by_cases hz : el vs j = 0
            · have hzb : (el vs j == 0) = true := by simpa using hz
              have HS : Hid (splitL vs os = el os k) := splitL_hit hlt H0.out (by rw [HA.out, valB_at hjl]; exact decide_eq_true hz)
              clear hmin hneg ha hlo hin hj hj2 hz hf1 hf2
              go_wp2_with (go_at_call 74; refine (between_calls _ _ _ _).mono ?_; rintro e w' ⟨he, rfl⟩; rw [HB.out] at he; subst he)
              go_quiet (fail)
              go_wp2
              refine bodyPost_ret (v := .tuple #[.int .i64 ((j : Int) + 1), .bool (decide ((j : Int) + 1 < 0))]) (by simp [results, Try.results38, go_sem]) rfl ⟨?_, below_drewN hb _⟩
              rw [HS.out, HA.out, decide_eq_false (show ¬ ((j : Int) + 1 < 0) by omega), decide_eq_false (show ¬ (0 < el os k) by rw [HL.out]; omega)]
            · have hzb : (el vs j == 0) = false := by simpa using hz
              have HN : Hid (noneOf vs os (k + 1)) := noneOf_next H0.out (by rw [HA.out, valB_at hjl]; exact decide_eq_false hz)
              clear hmin hneg ha hlo hin hj hj2 hz hf1 hf2
              go_wp2_with (go_at_call 74; refine (between_calls _ _ _ _).mono ?_; rintro e w' ⟨he, rfl⟩; rw [HB.out] at he; subst he)
              go_roundw
              case rel => exact ⟨k + 1, by omega, by go_num, HN, hb⟩
              case measure => simp [intOf]; omega
          · have HB : Hid (btwB (-(el os k)) 1 (vs.length : Int) = false) := btwB_no (by omega)
            have HN : Hid (noneOf vs os (k + 1)) := noneOf_next H0.out (by rw [ha]; exact valB_out (by omega))
            clear hmin ha hf1 hf2
            go_wp2_with (go_at_call 74; refine (between_calls _ _ _ _).mono ?_; rintro e w' ⟨he, rfl⟩; rw [HB.out] at he; subst he)
            go_roundw
            case rel => exact ⟨k + 1, by omega, by go_num, HN, hb⟩
            case measure => simp [intOf]; omega
        · have ha := atomI_nn (l := el os k) (by omega)
          by_cases hin : 1 ≤ el os k ∧ el os k ≤ (vs.length : Int)
          · skip
            obtain ⟨j, hj⟩ : ∃ j : Nat, el os k = (j : Int) + 1 := ⟨(el os k - 1).toNat, by omega⟩
            have hjl : j < vs.length := by omega
            obtain ⟨bv, ov, rfl, hcv⟩ := hv.at (by omega)
            have hcj := hcv j hjl
            have HA : Hid (atomI (el os k) = (j : Int) + 1) := by show _ = _; rw [ha, hj]
            have HL : Hid (el os k = (j : Int) + 1) := hj
            have HB : Hid (btwB ((j : Int) + 1) 1 (vs.length : Int) = true) := btwB_yes (by omega) (by omega)
            rw [hj] at hcs
            clear hc
            by_cases hz : el vs j = 0
            · have hzb : (el vs j == 0) = true := by simpa using hz
              have HS : Hid (splitL vs os = el os k) := splitL_hit hlt H0.out (by rw [HA.out, valB_at hjl]; exact decide_eq_true hz)
              clear hmin hneg ha hin hj hz hf1 hf2
              go_wp2_with (go_at_call 74; refine (between_calls _ _ _ _).mono ?_; rintro e w' ⟨he, rfl⟩; rw [HB.out] at he; subst he)
              go_quiet (fail)
              go_wp2
              refine bodyPost_ret (v := .tuple #[.int .i64 ((j : Int) + 1), .bool true]) (by simp [results, Try.results38, go_sem]) rfl ⟨?_, below_drewN hb _⟩
              rw [HS.out, HA.out, decide_eq_true (show 0 < el os k by rw [HL.out]; omega)]
            · have hzb : (el vs j == 0) = false := by simpa using hz
              have HN : Hid (noneOf vs os (k + 1)) := noneOf_next H0.out (by rw [HA.out, valB_at hjl]; exact decide_eq_false hz)
              clear hmin hneg ha hin hj hz hf1 hf2
              go_wp2_with (go_at_call 74; refine (between_calls _ _ _ _).mono ?_; rintro e w' ⟨he, rfl⟩; rw [HB.out] at he; subst he)
              go_roundw
              case rel => exact ⟨k + 1, by omega, by go_num, HN, hb⟩
              case measure => simp [intOf]; omega
          · have hge : 0 ≤ el os k := by omega
            have HB : Hid (btwB (el os k) 1 (vs.length : Int) = false) := btwB_no (by omega)
            have HN : Hid (noneOf vs os (k + 1)) := noneOf_next H0.out (by
              rw [ha]
              by_cases h1 : el os k < 1
              · exact valB_lo h1
              · exact valB_out (by omega))
            clear hmin hneg ha hin hf1 hf2
            go_wp2_with (go_at_call 74; refine (between_calls _ _ _ _).mono ?_; rintro e w' ⟨he, rfl⟩; rw [HB.out] at he; subst he)
            go_roundw
            case rel => exact ⟨k + 1, by omega, by go_num, HN, hb⟩
            case measure => simp [intOf]; omega
    · obtain rfl : k = os.length := by omega
      have HS := Lib.hid (splitL_none H0.out)
      go_wp2
      go_loopw [8] (fun i wr => ∃ a : Nat, a ≤ vs.length ∧ i = .int .i64 ((a : Int) + 1) ∧ Hid (leastA (valB vs 0) a = 0) ∧ Below w.heap.size w wr) (fun i _ => vs.length + 1 - (intOf i).toNat)
      case atStart => exact ⟨0, Nat.zero_le _, rfl, rfl, hb⟩
      case round =>
        obtain ⟨j, hj, rfl, HZ, hb⟩ := hrel
        have hv := HV.out.later hb
        by_cases hjl : j < vs.length
        · have hle : ((j : Int) + 1 ≤ (vs.length : Int)) := by omega
          obtain ⟨bv, ov, rfl, hcv⟩ := hv.at (by omega)
          have hcj := hcv j hjl
          by_cases hz : el vs j = 0
          · have hzb : (el vs j == 0) = true := by simpa using hz
            have HL : Hid (leastA (valB vs 0) 12 = (j : Int) + 1) := leastA_hit HZ.out (by rw [valB_at hjl]; exact decide_eq_true hz) (by omega)
            clear hz
            go_wp2
            refine bodyPost_ret (v := .tuple #[.int .i64 ((j : Int) + 1), .bool true]) (by simp [results, Try.results38, go_sem]) rfl ⟨?_, hb⟩
            rw [HS.out, HL.out, atomI_nn (by omega), decide_eq_true (show (0 : Int) < (j : Int) + 1 by omega)]
          · have hzb : (el vs j == 0) = false := by simpa using hz
            have HN : Hid (leastA (valB vs 0) (j + 1) = 0) := leastA_no HZ.out (by rw [valB_at hjl]; exact decide_eq_false hz)
            clear hz
            go_wp2
            go_roundw
            case rel => exact ⟨j + 1, by omega, by go_num, HN, hb⟩
            case measure => simp [intOf]; omega
        · obtain rfl : j = vs.length := by omega
          have HL : Hid (leastA (valB vs 0) 12 = 0) := leastA_stop HZ.out (fun a ha => valB_out (by omega)) (by omega)
          go_wp2
          refine bodyPost_ret (v := .tuple #[.int .i64 0, .bool false]) (by simp [results, Try.results38, go_sem]) rfl ⟨?_, hb⟩
          rw [HS.out, HL.out]; rfl

/-! ### the program -/
theorem joinS_calls (a b : Nat) (w : World) (ha : a < 4096) (hb : b < 4096) :
    Calls Try.prog 80 #[.int .u16 (a : Int), .int .u16 (b : Int)] w fun e w' => e = .returned (.int .u16 ((a ||| b : Nat) : Int)) ∧ w = w' := by
  have hor := or_u16 a b ha hb
  go_enter Try.func80, Try.ntmps80
  go_wp2
  go_ret
  exact ⟨rfl, rfl⟩
/-- What is open: neither of both. -/
def openM (n m f : Nat) : Nat := (2 ^ n - 1) &&& (65535 - (m ||| f))
theorem openM_lt {n m f : Nat} (hn : n ≤ 12) : openM n m f < 4096 := by
  have h2 : 2 ^ n ≤ 2 ^ 12 := Nat.pow_le_pow_right (by omega) hn
  exact Nat.lt_of_le_of_lt Nat.and_le_left (by omega)
theorem hasM_outS {m : Nat} {x : Int} (h : ¬ (1 ≤ x ∧ x ≤ 12)) : hasM m x = false := by
  unfold hasM bitN; rw [if_neg h, Nat.and_zero]; rfl
theorem hasM_open {vs : List Int} (hv : VOk vs.length vs) (x : Int) : hasM (openM vs.length (maskOf (withL vs 1)) (maskOf (withL vs 2))) x = valB vs 0 x := by
  have hl := hv.2.1
  by_cases h : 1 ≤ x ∧ x ≤ 12
  · have h2 : 2 ^ vs.length ≤ 2 ^ 12 := Nat.pow_le_pow_right (by omega) hl
    unfold openM
    rw [hasM_less (by omega) (Nat.or_lt_two_pow (n := 12) (maskOf_lt _) (maskOf_lt _)) h, hasM_upTo h, hasM_or h, hasM_with h, hasM_with h]
    by_cases hx : x ≤ (vs.length : Int)
    · obtain ⟨i, rfl⟩ : ∃ i : Nat, x = (i : Int) + 1 := ⟨(x - 1).toNat, by omega⟩
      have hi : i < vs.length := by omega
      rw [decide_eq_true hx, valB_at hi, valB_at hi, valB_at hi]
      rcases hv.el hi with e | e | e <;> (rw [e]; rfl)
    · rw [decide_eq_false hx, Bool.false_and]; exact (valB_out (by omega)).symm
  · rw [hasM_outS h]
    rcases Int.lt_or_le x 1 with h1 | h1
    · rw [valB_lo h1]
    · rw [valB_out (by omega)]
theorem unknown_calls (n m f : Nat) (w : World) (hn : n ≤ 12) (hm : m < 4096) (hf : f < 4096) :
    Calls Try.prog 81 #[.agg #[.int .u16 (m : Int), .int .u16 (f : Int)], .int .u16 ((2 ^ n - 1 : Nat) : Int)] w fun e w' => e = .returned (.int .u16 (openM n m f : Int)) ∧ Below w.heap.size w w' := by
  have h2 : 2 ^ n ≤ 2 ^ 12 := Nat.pow_le_pow_right (by omega) hn
  have HO : Hid (openM n m f = (2 ^ n - 1) &&& (65535 - (m ||| f))) := rfl
  obtain ⟨P, hP⟩ : ∃ P, P = 2 ^ n - 1 := ⟨_, rfl⟩
  have hPl : P < 4096 := by omega
  rw [← hP] at HO ⊢
  clear hP h2
  have hmf : m ||| f < 4096 := Nat.or_lt_two_pow (n := 12) hm hf
  have tb := (Below.refl w.heap.size w).alloc (Nat.le_refl _) (.cells #[.int .u16 (m : Int), .int .u16 (f : Int)] 82)
  have CX := Cells.new w [.int .u16 (m : Int), .int .u16 (f : Int)] 82
  obtain ⟨v0, v1⟩ := cells2 CX
  go_enter Try.func81, Try.ntmps81
  go_wp2_with (first | (go_at_call 80; refine (joinS_calls _ _ _ hm hf).mono ?_; rintro e w' ⟨rfl, rfl⟩) | (go_at_call 119; refine (lessN_calls _ _ _ hPl hmf).mono ?_; rintro e w' ⟨rfl, rfl⟩))
  go_ret
  exact ⟨by rw [HO.out]; rfl, tb⟩
/-- The least bit of a word. -/
def lowN (s : Nat) : Nat := s &&& ((65536 - s) % 65536)
def lowOk (s : Nat) : Bool := lowN s == bitN (leastA (hasM s) 12)
theorem low_all : (List.range 4096).all lowOk = true := by kernel_rfl
theorem low_bit {s : Nat} (hs : s < 4096) : lowN s = bitN (leastA (hasM s) 12) := by
  have := List.all_eq_true.1 low_all s (List.mem_range.2 hs)
  exact eq_of_beq this
set_option maxHeartbeats 4000000 in
theorem len16_0 (w : World) : Calls Try.prog 120 #[.int .u16 0] w fun e w' => e = .returned (.int .i64 0) ∧ w = w' := by
  go_enter Try.func120, Try.ntmps120
  go_wp2
  go_ret
  exact ⟨by first | rfl | kernel_rfl, rfl⟩
set_option maxHeartbeats 4000000 in
theorem len16_1 (w : World) : Calls Try.prog 120 #[.int .u16 1] w fun e w' => e = .returned (.int .i64 1) ∧ w = w' := by
  go_enter Try.func120, Try.ntmps120
  go_wp2
  go_ret
  exact ⟨by first | rfl | kernel_rfl, rfl⟩
set_option maxHeartbeats 4000000 in
theorem len16_2 (w : World) : Calls Try.prog 120 #[.int .u16 2] w fun e w' => e = .returned (.int .i64 2) ∧ w = w' := by
  go_enter Try.func120, Try.ntmps120
  go_wp2
  go_ret
  exact ⟨by first | rfl | kernel_rfl, rfl⟩
set_option maxHeartbeats 4000000 in
theorem len16_3 (w : World) : Calls Try.prog 120 #[.int .u16 4] w fun e w' => e = .returned (.int .i64 3) ∧ w = w' := by
  go_enter Try.func120, Try.ntmps120
  go_wp2
  go_ret
  exact ⟨by first | rfl | kernel_rfl, rfl⟩
set_option maxHeartbeats 4000000 in
theorem len16_4 (w : World) : Calls Try.prog 120 #[.int .u16 8] w fun e w' => e = .returned (.int .i64 4) ∧ w = w' := by
  go_enter Try.func120, Try.ntmps120
  go_wp2
  go_ret
  exact ⟨by first | rfl | kernel_rfl, rfl⟩
set_option maxHeartbeats 4000000 in
theorem len16_5 (w : World) : Calls Try.prog 120 #[.int .u16 16] w fun e w' => e = .returned (.int .i64 5) ∧ w = w' := by
  go_enter Try.func120, Try.ntmps120
  go_wp2
  go_ret
  exact ⟨by first | rfl | kernel_rfl, rfl⟩
set_option maxHeartbeats 4000000 in
theorem len16_6 (w : World) : Calls Try.prog 120 #[.int .u16 32] w fun e w' => e = .returned (.int .i64 6) ∧ w = w' := by
  go_enter Try.func120, Try.ntmps120
  go_wp2
  go_ret
  exact ⟨by first | rfl | kernel_rfl, rfl⟩
set_option maxHeartbeats 4000000 in
theorem len16_7 (w : World) : Calls Try.prog 120 #[.int .u16 64] w fun e w' => e = .returned (.int .i64 7) ∧ w = w' := by
  go_enter Try.func120, Try.ntmps120
  go_wp2
  go_ret
  exact ⟨by first | rfl | kernel_rfl, rfl⟩
set_option maxHeartbeats 4000000 in
theorem len16_8 (w : World) : Calls Try.prog 120 #[.int .u16 128] w fun e w' => e = .returned (.int .i64 8) ∧ w = w' := by
  go_enter Try.func120, Try.ntmps120
  go_wp2
  go_ret
  exact ⟨by first | rfl | kernel_rfl, rfl⟩
set_option maxHeartbeats 4000000 in
theorem len16_9 (w : World) : Calls Try.prog 120 #[.int .u16 256] w fun e w' => e = .returned (.int .i64 9) ∧ w = w' := by
  go_enter Try.func120, Try.ntmps120
  go_wp2
  go_ret
  exact ⟨by first | rfl | kernel_rfl, rfl⟩
set_option maxHeartbeats 4000000 in
theorem len16_10 (w : World) : Calls Try.prog 120 #[.int .u16 512] w fun e w' => e = .returned (.int .i64 10) ∧ w = w' := by
  go_enter Try.func120, Try.ntmps120
  go_wp2
  go_ret
  exact ⟨by first | rfl | kernel_rfl, rfl⟩
set_option maxHeartbeats 4000000 in
theorem len16_11 (w : World) : Calls Try.prog 120 #[.int .u16 1024] w fun e w' => e = .returned (.int .i64 11) ∧ w = w' := by
  go_enter Try.func120, Try.ntmps120
  go_wp2
  go_ret
  exact ⟨by first | rfl | kernel_rfl, rfl⟩
set_option maxHeartbeats 4000000 in
theorem len16_12 (w : World) : Calls Try.prog 120 #[.int .u16 2048] w fun e w' => e = .returned (.int .i64 12) ∧ w = w' := by
  go_enter Try.func120, Try.ntmps120
  go_wp2
  go_ret
  exact ⟨by first | rfl | kernel_rfl, rfl⟩
theorem len16_calls (a : Int) (w : World) (h : 0 ≤ a ∧ a ≤ 12) :
    Calls Try.prog 120 #[.int .u16 (bitN a : Int)] w fun e w' => e = .returned (.int .i64 a) ∧ w = w' := by
  have hc : a = 0 ∨ a = 1 ∨ a = 2 ∨ a = 3 ∨ a = 4 ∨ a = 5 ∨ a = 6 ∨ a = 7 ∨ a = 8 ∨ a = 9 ∨ a = 10 ∨ a = 11 ∨ a = 12 := by omega
  clear h
  rcases hc with rfl | rfl | rfl | rfl | rfl | rfl | rfl | rfl | rfl | rfl | rfl | rfl | rfl
  · exact len16_0 w
  · exact len16_1 w
  · exact len16_2 w
  · exact len16_3 w
  · exact len16_4 w
  · exact len16_5 w
  · exact len16_6 w
  · exact len16_7 w
  · exact len16_8 w
  · exact len16_9 w
  · exact len16_10 w
  · exact len16_11 w
  · exact len16_12 w
set_option maxHeartbeats 4000000 in
theorem first_calls (s : Nat) (w : World) (hs : s < 4096) :
    Calls Try.prog 83 #[.int .u16 (s : Int)] w fun e w' => e = .returned (.int .i64 (leastA (hasM s) 12)) ∧ w = w' := by
  have hb := low_bit hs
  have hl := leastA_in (p := hasM s) 12
  obtain ⟨A, hA⟩ : ∃ A, A = leastA (hasM s) 12 := ⟨_, rfl⟩
  rw [← hA] at hb hl ⊢
  clear hA
  obtain ⟨NS, hNS⟩ : ∃ NS : Nat, NS = (65536 - s) % 65536 := ⟨_, rfl⟩
  obtain ⟨L, hL⟩ : ∃ L : Int, L = (bitN A : Int) := ⟨_, rfl⟩
  have hand : bits .and .u16 (s : Int) (NS : Int) = L := by
    rw [u16_and_nat s _ (by omega) (by omega), hL, ← hb, hNS]
    rfl
  have hng : IntKind.u16.wrap (-(s : Int)) = (NS : Int) := by rw [IntKind.wrap_u16]; omega
  have HC := fun w => Lib.hid (len16_calls A w ⟨hl.1, hl.2⟩)
  rw [← hL] at HC
  clear hb hNS hL hl
  go_enter Try.func83, Try.ntmps83
  go_wp2_with (go_at_call 120; refine ((HC _).out).mono ?_; rintro e w' ⟨rfl, rfl⟩)
  go_ret
  exact ⟨rfl, rfl⟩

set_option maxHeartbeats 4000000 in
theorem split_calls (a : Option Addr) (os vs : List Int) (cap : Nat) (w : World) (h : Ints w a os) (hv : VOk vs.length vs) :
    Calls Try.prog 45 #[.agg #[.int .u16 (maskOf (withL vs 1) : Int), .int .u16 (maskOf (withL vs 2) : Int)], .slice a os.length cap, .int .u16 ((2 ^ vs.length - 1 : Nat) : Int)] w fun e w' => e = .returned (.int .i64 (splitL vs os)) ∧ Below w.heap.size w w' := by
  have hm := h.1
  have hO := hasM_open hv
  have hOl := openM_lt (n := vs.length) (m := maskOf (withL vs 1)) (f := maskOf (withL vs 2)) hv.2.1
  have HU := fun w => Lib.hid (unknown_calls vs.length (maskOf (withL vs 1)) (maskOf (withL vs 2)) w hv.2.1 (maskOf_lt _) (maskOf_lt _))
  obtain ⟨U, hU⟩ : ∃ U, U = openM vs.length (maskOf (withL vs 1)) (maskOf (withL vs 2)) := ⟨_, rfl⟩
  rw [← hU] at hO hOl HU
  have HO := Lib.hid hO
  obtain ⟨P, hP⟩ : ∃ P : Nat, P = 2 ^ vs.length - 1 := ⟨_, rfl⟩
  obtain ⟨m, hM⟩ : ∃ m : Nat, m = maskOf (withL vs 1) := ⟨_, rfl⟩
  obtain ⟨f, hF⟩ : ∃ f : Nat, f = maskOf (withL vs 2) := ⟨_, rfl⟩
  rw [← hP, ← hM, ← hF] at HU ⊢
  clear hU hO hP hM hF
  have tb := (Below.refl w.heap.size w).alloc (Nat.le_refl _) (.cells #[.int .u16 (m : Int), .int .u16 (f : Int)] 82)
  go_enter Try.func45, Try.ntmps45
  go_wp2_with fail
  refine ((HU _).out).mono ?_
  rintro e w1 ⟨rfl, b1⟩
  have t1 := tb.step b1
  have h := h.later t1
  go_wp2
  go_loop [15] (fun i => ∃ k : Nat, k ≤ os.length ∧ i = .int .i64 k ∧ Hid (noneOf vs os k)) (fun i => os.length - (intOf i).toNat)
  case atStart => exact ⟨0, Nat.zero_le _, rfl, noneOf_zero _ _⟩
  case round =>
    obtain ⟨k, hk, rfl, H0⟩ := hrel
    by_cases hlt : k < os.length
    · obtain ⟨b, off, rfl, hc⟩ := h.at (by omega)
      have hcs := hc k hlt
      have hfl : Fits (el os k) := h.2.1 _ (el_mem hlt)
      have hfa := atomI_fits hfl
      cases hx : valB vs 0 (atomI (el os k))
      · have HX : Hid (hasM U (atomI (el os k)) = false) := by show _ = _; rw [HO.out, hx]
        have HN : Hid (noneOf vs os (k + 1)) := noneOf_next H0.out hx
        clear hx
        go_wp2_with (first | (go_at_call 47; refine (atom_calls _ _ hfl).mono ?_; rintro e w' ⟨rfl, rfl⟩) | (go_at_call 82; refine (has_calls _ _ _ hOl hfa).mono ?_; rintro e w' ⟨he, rfl⟩; rw [HX.out] at he; subst he))
        go_round
        case rel => exact ⟨k + 1, by omega, by go_num, HN⟩
        case measure => simp [intOf]; omega
      · have HX : Hid (hasM U (atomI (el os k)) = true) := by show _ = _; rw [HO.out, hx]
        have HS := Lib.hid (splitL_hit hlt H0.out hx)
        clear hx
        go_wp2_with (first | (go_at_call 47; refine (atom_calls _ _ hfl).mono ?_; rintro e w' ⟨rfl, rfl⟩) | (go_at_call 82; refine (has_calls _ _ _ hOl hfa).mono ?_; rintro e w' ⟨he, rfl⟩; rw [HX.out] at he; subst he))
        go_ret
        exact ⟨by rw [HS.out]; rfl, t1⟩
    · obtain rfl : k = os.length := by omega
      have HS := Lib.hid (splitL_none H0.out)
      have HE : Hid (leastA (hasM U) 12 = leastA (valB vs 0) 12) := leastA_congr fun a _ _ => HO.out a
      go_wp2_with (go_at_call 83; refine (first_calls _ _ hOl).mono ?_; rintro e w' ⟨rfl, rfl⟩)
      go_ret
      exact ⟨by rw [HS.out, ← HE.out]; rfl, t1⟩


end Go.Proofs.Ytingnpnnacafbaa
