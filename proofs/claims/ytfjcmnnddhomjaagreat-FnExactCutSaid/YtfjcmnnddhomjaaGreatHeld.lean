/-
  The laws' own reading of marks. No condition of its own.
-/
import Derived.Test.YtfjcmnnddhomjaaGreatMarkQ
import Derived.Deep.RegionHeld3
namespace Go.Proofs.YtfjcmnnddhomjaaGreat
set_option linter.unusedVariables false
set_option linter.unusedSimpArgs false
open Go.RowKit
set_option maxRecDepth 100000

theorem mkd_len {α : Type} [Inhabited α] [Mk α] (k : Int) (xs : List α) : (Mk.mkd k xs).length = xs.length := seqTo_len k xs _
theorem mkd_nth {α : Type} [Inhabited α] [Mk α] (k : Int) (xs : List α) {j : Nat} (h : j < xs.length) : nth (Mk.mkd k xs) j = Mk.mkd (k + (cntTo xs j : Nat)) (nth xs j) := seqTo_nth k xs h
/-- A slice that was marked, opened at an element. -/
theorem rd_mkd {α : Type} [Rd α] [Mk α] {w : World} {a : Option Addr} {k : Int} {xs : List α} (h : Row w a (Mk.mkd k xs)) {j : Nat} (hj : j < xs.length) :
    ∃ b off cs, a = some ⟨b, off, none⟩ ∧ Cells w b (off + j * Rd.k α) cs ∧ Rd.R w cs (Mk.mkd (k + (cntTo xs j : Nat)) (nth xs j)) := by
  obtain ⟨b, off, cs, h1, h2, h3⟩ := h.2 j (by rw [mkd_len]; exact hj)
  rw [mkd_nth k xs hj] at h3
  exact ⟨b, off, cs, h1, h2, h3⟩

set_option maxHeartbeats 1000000 in
theorem heldWLitS_calls {v : Value} {xs : List (Int × Int)} {w : World} (k : Int) (h : RdL w [v] (Mk.mkd k xs)) (h0 : 0 ≤ k) (h1 : k + 2 * xs.length ≤ 1152921504606846976) :
    Calls Tryz.prog 154 #[v, .int .i64 k] w fun e w' => e = .returned (.int .i64 (k + (cntTo xs xs.length : Nat))) ∧ w = w' := by
  obtain ⟨a, cap, rfl, _, hr⟩ := h.sl
  rw [mkd_len]
  have HE : Hid (k + (cntTo xs xs.length : Nat) = k + 2 * (xs.length : Int)) := by show _ = _; rw [cntTo_pair]; omega
  have hcap : xs.length ≤ 9223372036854775807 := by omega
  clear h
  go_enter Tryz.func154, Tryz.ntmps154
  go_wp2
  go_loop [1, 5] (fun q i => ∃ j : Nat, j ≤ xs.length ∧ i = .int .i64 j ∧ q = .int .i64 (k + 2 * (j : Int))) (fun _ i => xs.length - (intOf i).toNat)
  case atStart => exact ⟨0, Nat.zero_le _, rfl, by simp⟩
  case round =>
    obtain ⟨j, hj, rfl, rfl⟩ := hrel
    by_cases hlt : j < xs.length
    · obtain ⟨b, off, cs, rfl, hC, hR⟩ := rd_mkd hr hlt
      obtain ⟨rfl, hF, hF'⟩ := hR
      rw [cntTo_pair] at hC
      obtain ⟨K, hK⟩ : ∃ K : Int, K = k + 2 * (j : Int) := ⟨_, rfl⟩
      have hm : Mk.mkd (k + ((2 * j : Nat) : Int)) (nth xs j) = (K, K + 1) := by show (_, _) = _; rw [hK]; congr 1; all_goals omega
      rw [hm] at hC
      rw [← hK]
      have c0 := hC.c0
      have c1 := hC.c1
      rw [show Rd.k (Int × Int) = 2 from rfl] at c0 c1
      have hKn := Lib.hid (show K + 1 + 1 = k + 2 * ((j : Int) + 1) by omega)
      have hK0 : 0 ≤ K := by omega
      have hK1 : K + 2 ≤ 1152921504606846976 := by omega
      clear hC hm hK hF hF' hr
      go_wp2
      go_round
      case rel => exact ⟨j + 1, by omega, by go_num, by rw [hKn.out]; go_num⟩
      case measure => simp [intOf]; omega
    · have hjj : j = xs.length := by omega
      have HJ := Lib.hid hjj
      clear hjj
      go_wp2
      go_ret
      exact ⟨ret_int (by rw [HE.out, HJ.out]), rfl⟩

set_option maxHeartbeats 1000000 in
theorem heldExtS_calls {v : Value} {xs : List (Int × Int)} {w : World} (k : Int) (h : RdL w [v] (Mk.mkd k xs)) (h0 : 0 ≤ k) (h1 : k + 2 * xs.length ≤ 1152921504606846976) :
    Calls Tryz.prog 91 #[v, .int .i64 k] w fun e w' => e = .returned (.int .i64 (k + (cntTo xs xs.length : Nat))) ∧ w = w' := by
  obtain ⟨a, cap, rfl, _, hr⟩ := h.sl
  rw [mkd_len]
  have HE : Hid (k + (cntTo xs xs.length : Nat) = k + 2 * (xs.length : Int)) := by show _ = _; rw [cntTo_pair]; omega
  have hcap : xs.length ≤ 9223372036854775807 := by omega
  clear h
  go_enter Tryz.func91, Tryz.ntmps91
  go_wp2
  go_loop [1, 5] (fun q i => ∃ j : Nat, j ≤ xs.length ∧ i = .int .i64 j ∧ q = .int .i64 (k + 2 * (j : Int))) (fun _ i => xs.length - (intOf i).toNat)
  case atStart => exact ⟨0, Nat.zero_le _, rfl, by simp⟩
  case round =>
    obtain ⟨j, hj, rfl, rfl⟩ := hrel
    by_cases hlt : j < xs.length
    · obtain ⟨b, off, cs, rfl, hC, hR⟩ := rd_mkd hr hlt
      obtain ⟨rfl, hF, hF'⟩ := hR
      rw [cntTo_pair] at hC
      obtain ⟨K, hK⟩ : ∃ K : Int, K = k + 2 * (j : Int) := ⟨_, rfl⟩
      have hm : Mk.mkd (k + ((2 * j : Nat) : Int)) (nth xs j) = (K, K + 1) := by show (_, _) = _; rw [hK]; congr 1; all_goals omega
      rw [hm] at hC
      rw [← hK]
      have c0 := hC.c0
      have c1 := hC.c1
      rw [show Rd.k (Int × Int) = 2 from rfl] at c0 c1
      have hKn := Lib.hid (show K + 1 + 1 = k + 2 * ((j : Int) + 1) by omega)
      have hK0 : 0 ≤ K := by omega
      have hK1 : K + 2 ≤ 1152921504606846976 := by omega
      clear hC hm hK hF hF' hr
      go_wp2
      go_round
      case rel => exact ⟨j + 1, by omega, by go_num, by rw [hKn.out]; go_num⟩
      case measure => simp [intOf]; omega
    · have hjj : j = xs.length := by omega
      have HJ := Lib.hid hjj
      clear hjj
      go_wp2
      go_ret
      exact ⟨ret_int (by rw [HE.out, HJ.out]), rfl⟩


set_option maxHeartbeats 1000000 in
theorem heldLevelS_calls {v : Value} {xs : List LevelD} {w : World} (k : Int) (h : RdL w [v] (Mk.mkd k xs)) (h0 : 0 ≤ k) (h1 : k + (cntTo xs xs.length : Nat) ≤ 1152921504606846976) :
    Calls Tryz.prog 89 #[v, .int .i64 k] w fun e w' => e = .returned (.int .i64 (k + (cntTo xs xs.length : Nat))) ∧ w = w' := by
  obtain ⟨a, cap, rfl, hcp, hr⟩ := h.sl
  have hcap : xs.length ≤ 9223372036854775807 := by rw [mkd_len] at hcp; omega
  rw [mkd_len]
  clear h hcp
  go_enter Tryz.func89, Tryz.ntmps89
  go_wp2
  go_loop [1, 5] (fun q i => ∃ j : Nat, j ≤ xs.length ∧ i = .int .i64 j ∧ q = .int .i64 (k + (cntTo xs j : Nat))) (fun _ i => xs.length - (intOf i).toNat)
  case atStart => exact ⟨0, Nat.zero_le _, rfl, by simp [cntTo]⟩
  case round =>
    obtain ⟨j, hj, rfl, rfl⟩ := hrel
    by_cases hlt : j < xs.length
    · obtain ⟨b, off, cs, rfl, hC, hR⟩ := rd_mkd hr hlt
      obtain ⟨d1, rfl, hf, hR1⟩ := hR
      obtain ⟨K, hK⟩ : ∃ K : Int, K = k + (cntTo xs j : Nat) := ⟨_, rfl⟩
      have hcj := cntTo_mono xs (show j + 1 ≤ xs.length from hlt)
      have hc1 : cntTo xs (j + 1) = cntTo xs j + (1 + cntTo (nth xs j).lits (nth xs j).lits.length) := rfl
      rw [← hK] at hC hR1 ⊢
      have hC : Cells w b (off + j * 2) [.int .i64 K, d1] := hC
      have hR1 : RdL w [d1] (Mk.mkd (K + 1) (nth xs j).lits) := hR1
      have c0 := hC.c0
      have c1 := hC.c1
      have hKn := Lib.hid (show K + 1 + (cntTo (nth xs j).lits (nth xs j).lits.length : Nat) = k + (cntTo xs (j + 1) : Nat) by omega)
      have hK0 : 0 ≤ K := by omega
      have hip := cntTo_pair (nth xs j).lits (nth xs j).lits.length
      have hK1 : K + 1 + 2 * (nth xs j).lits.length ≤ 1152921504606846976 := by omega
      have hK2 : (0 : Int) ≤ K + 1 + (cntTo (nth xs j).lits (nth xs j).lits.length : Nat) := by omega
      have hK3 : K + 1 + (cntTo (nth xs j).lits (nth xs j).lits.length : Nat) ≤ 1152921504606846976 := by omega
      have hK4 : K + 1 ≤ 1152921504606846976 := by omega
      clear hC hK hf hr hc1 hcj hip
      go_wp2_with (go_at_call 154; refine (heldWLitS_calls (K + 1) hR1 (by omega) hK1).mono ?_; rintro e w' ⟨rfl, rfl⟩)
      go_round
      case rel => exact ⟨j + 1, by omega, by go_num, by rw [hKn.out]⟩
      case measure => simp [intOf]; omega
    · have hjj : j = xs.length := by omega
      subst hjj
      go_wp2
      go_ret
      exact ⟨rfl, rfl⟩

end Go.Proofs.YtfjcmnnddhomjaaGreat
