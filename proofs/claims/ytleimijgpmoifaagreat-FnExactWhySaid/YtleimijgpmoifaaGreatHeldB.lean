/-
  Reading the marks of what a program holds. No condition of its own.
-/
import Derived.Test.YtleimijgpmoifaaGreatMarkC
import Derived.Deep.RegionHeld3
namespace Go.Proofs.YtleimijgpmoifaaGreat
set_option linter.unusedVariables false
set_option linter.unusedSimpArgs false
open Go.RowKit
set_option maxRecDepth 100000

/-! ### Held -/
theorem mkd_len {α : Type} [Inhabited α] [Mk α] (k : Int) (xs : List α) : (Mk.mkd k xs).length = xs.length := seqTo_len k xs _
theorem mkd_nth {α : Type} [Inhabited α] [Mk α] (k : Int) (xs : List α) {j : Nat} (h : j < xs.length) : nth (Mk.mkd k xs) j = Mk.mkd (k + (cntTo xs j : Nat)) (nth xs j) := seqTo_nth k xs h
/-- A slice that was marked, opened at an element. -/
theorem rd_mkd {α : Type} [Rd α] [Mk α] {w : World} {a : Option Addr} {k : Int} {xs : List α} (h : Row w a (Mk.mkd k xs)) {j : Nat} (hj : j < xs.length) :
    ∃ b off cs, a = some ⟨b, off, none⟩ ∧ Cells w b (off + j * Rd.k α) cs ∧ Rd.R w cs (Mk.mkd (k + (cntTo xs j : Nat)) (nth xs j)) := by
  obtain ⟨b, off, cs, h1, h2, h3⟩ := h.2 j (by rw [mkd_len]; exact hj)
  rw [mkd_nth k xs hj] at h3
  exact ⟨b, off, cs, h1, h2, h3⟩



set_option maxHeartbeats 1000000 in
theorem heldReasonS_calls {v : Value} {xs : List (Int × Int)} {w : World} (k : Int) (h : RdL w [v] (Mk.mkd k xs)) (h0 : 0 ≤ k) (h1 : k + 2 * xs.length ≤ 1152921504606846976) :
    Calls Tryz.prog 31 #[v, .int .i64 k] w fun e w' => e = .returned (.int .i64 (k + (cntTo xs xs.length : Nat))) ∧ w = w' := by
  obtain ⟨a, cap, rfl, _, hr⟩ := h.sl
  rw [mkd_len]
  have HE : Hid (k + (cntTo xs xs.length : Nat) = k + 2 * (xs.length : Int)) := by show _ = _; rw [cntTo_pair]; omega
  have hcap : xs.length ≤ 9223372036854775807 := by omega
  clear h
  go_enter Tryz.func31, Tryz.ntmps31
  go_wp2
  go_loop [1, 5] (fun q i => ∃ j : Nat, j ≤ xs.length ∧ i = .int .i64 j ∧ q = .int .i64 (k + 2 * (j : Int))) (fun _ i => xs.length - (intOf i).toNat)
  case atStart => exact ⟨0, Nat.zero_le _, rfl, by simp⟩
  case round =>
    obtain ⟨j, hj, rfl, rfl⟩ := hrel
    by_cases hlt : j < xs.length
    · obtain ⟨b, off, cs, rfl, hC, hR⟩ := rd_mkd hr hlt
      obtain ⟨rfl, hF, hF'⟩ := hR
      rw [cntTo_pair] at hC
      obtain ⟨K, hK⟩ : ∃ K : Int, K = k + 2 * (j : Int) := ⟨_, rfl⟩
      have hm : Mk.mkd (k + ((2 * j : Nat) : Int)) (nth xs j) = (K, K + 1) := by show (_, _) = _; rw [hK]; congr 1; all_goals omega
      rw [hm] at hC
      rw [← hK]
      have c0 := hC.c0
      have c1 := hC.c1
      rw [show Rd.k (Int × Int) = 2 from rfl] at c0 c1
      have hKn := Lib.hid (show K + 1 + 1 = k + 2 * ((j : Int) + 1) by omega)
      have hK0 : 0 ≤ K := by omega
      have hK1 : K + 2 ≤ 1152921504606846976 := by omega
      clear hC hm hK hF hF' hr
      go_wp2
      go_round
      case rel => exact ⟨j + 1, by omega, by go_num, by rw [hKn.out]; go_num⟩
      case measure => simp [intOf]; omega
    · have hjj : j = xs.length := by omega
      have HJ := Lib.hid hjj
      clear hjj
      go_wp2
      go_ret
      exact ⟨ret_int (by rw [HE.out, HJ.out]), rfl⟩



/-! ### HeldP -/



end Go.Proofs.YtleimijgpmoifaaGreat
