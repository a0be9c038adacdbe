/-
  Reading the marks of what a program holds. No condition of its own.
-/
import Derived.Test.YthikhkeofcjdfaaGreatMarkC
import Derived.Deep.RegionHeld3
namespace Go.Proofs.YthikhkeofcjdfaaGreat
set_option linter.unusedVariables false
set_option linter.unusedSimpArgs false
open Go.RowKit
set_option maxRecDepth 100000

/-! ### Held -/
theorem mkd_len {α : Type} [Inhabited α] [Mk α] (k : Int) (xs : List α) : (Mk.mkd k xs).length = xs.length := seqTo_len k xs _
theorem mkd_nth {α : Type} [Inhabited α] [Mk α] (k : Int) (xs : List α) {j : Nat} (h : j < xs.length) : nth (Mk.mkd k xs) j = Mk.mkd (k + (cntTo xs j : Nat)) (nth xs j) := seqTo_nth k xs h
/-- A slice that was marked, opened at an element. -/
theorem rd_mkd {α : Type} [Rd α] [Mk α] {w : World} {a : Option Addr} {k : Int} {xs : List α} (h : Row w a (Mk.mkd k xs)) {j : Nat} (hj : j < xs.length) :
    ∃ b off cs, a = some ⟨b, off, none⟩ ∧ Cells w b (off + j * Rd.k α) cs ∧ Rd.R w cs (Mk.mkd (k + (cntTo xs j : Nat)) (nth xs j)) := by
  obtain ⟨b, off, cs, h1, h2, h3⟩ := h.2 j (by rw [mkd_len]; exact hj)
  rw [mkd_nth k xs hj] at h3
  exact ⟨b, off, cs, h1, h2, h3⟩

set_option maxHeartbeats 1000000 in
theorem heldWLitS_calls {v : Value} {xs : List (Int × Int)} {w : World} (k : Int) (h : RdL w [v] (Mk.mkd k xs)) (h0 : 0 ≤ k) (h1 : k + 2 * xs.length ≤ 1152921504606846976) :
    Calls Tryz.prog 207 #[v, .int .i64 k] w fun e w' => e = .returned (.int .i64 (k + (cntTo xs xs.length : Nat))) ∧ w = w' := by
  obtain ⟨a, cap, rfl, _, hr⟩ := h.sl
  rw [mkd_len]
  have HE : Hid (k + (cntTo xs xs.length : Nat) = k + 2 * (xs.length : Int)) := by show _ = _; rw [cntTo_pair]; omega
  have hcap : xs.length ≤ 9223372036854775807 := by omega
  clear h
  go_enter Tryz.func207, Tryz.ntmps207
  go_wp2
  go_loop [1, 5] (fun q i => ∃ j : Nat, j ≤ xs.length ∧ i = .int .i64 j ∧ q = .int .i64 (k + 2 * (j : Int))) (fun _ i => xs.length - (intOf i).toNat)
  case atStart => exact ⟨0, Nat.zero_le _, rfl, by simp⟩
  case round =>
    obtain ⟨j, hj, rfl, rfl⟩ := hrel
    by_cases hlt : j < xs.length
    · obtain ⟨b, off, cs, rfl, hC, hR⟩ := rd_mkd hr hlt
      obtain ⟨rfl, hF, hF'⟩ := hR
      rw [cntTo_pair] at hC
      obtain ⟨K, hK⟩ : ∃ K : Int, K = k + 2 * (j : Int) := ⟨_, rfl⟩
      have hm : Mk.mkd (k + ((2 * j : Nat) : Int)) (nth xs j) = (K, K + 1) := by show (_, _) = _; rw [hK]; congr 1; all_goals omega
      rw [hm] at hC
      rw [← hK]
      have c0 := hC.c0
      have c1 := hC.c1
      rw [show Rd.k (Int × Int) = 2 from rfl] at c0 c1
      have hKn := Lib.hid (show K + 1 + 1 = k + 2 * ((j : Int) + 1) by omega)
      have hK0 : 0 ≤ K := by omega
      have hK1 : K + 2 ≤ 1152921504606846976 := by omega
      clear hC hm hK hF hF' hr
      go_wp2
      go_round
      case rel => exact ⟨j + 1, by omega, by go_num, by rw [hKn.out]; go_num⟩
      case measure => simp [intOf]; omega
    · have hjj : j = xs.length := by omega
      have HJ := Lib.hid hjj
      clear hjj
      go_wp2
      go_ret
      exact ⟨ret_int (by rw [HE.out, HJ.out]), rfl⟩

set_option maxHeartbeats 1000000 in
theorem heldExtS_calls {v : Value} {xs : List (Int × Int)} {w : World} (k : Int) (h : RdL w [v] (Mk.mkd k xs)) (h0 : 0 ≤ k) (h1 : k + 2 * xs.length ≤ 1152921504606846976) :
    Calls Tryz.prog 125 #[v, .int .i64 k] w fun e w' => e = .returned (.int .i64 (k + (cntTo xs xs.length : Nat))) ∧ w = w' := by
  obtain ⟨a, cap, rfl, _, hr⟩ := h.sl
  rw [mkd_len]
  have HE : Hid (k + (cntTo xs xs.length : Nat) = k + 2 * (xs.length : Int)) := by show _ = _; rw [cntTo_pair]; omega
  have hcap : xs.length ≤ 9223372036854775807 := by omega
  clear h
  go_enter Tryz.func125, Tryz.ntmps125
  go_wp2
  go_loop [1, 5] (fun q i => ∃ j : Nat, j ≤ xs.length ∧ i = .int .i64 j ∧ q = .int .i64 (k + 2 * (j : Int))) (fun _ i => xs.length - (intOf i).toNat)
  case atStart => exact ⟨0, Nat.zero_le _, rfl, by simp⟩
  case round =>
    obtain ⟨j, hj, rfl, rfl⟩ := hrel
    by_cases hlt : j < xs.length
    · obtain ⟨b, off, cs, rfl, hC, hR⟩ := rd_mkd hr hlt
      obtain ⟨rfl, hF, hF'⟩ := hR
      rw [cntTo_pair] at hC
      obtain ⟨K, hK⟩ : ∃ K : Int, K = k + 2 * (j : Int) := ⟨_, rfl⟩
      have hm : Mk.mkd (k + ((2 * j : Nat) : Int)) (nth xs j) = (K, K + 1) := by show (_, _) = _; rw [hK]; congr 1; all_goals omega
      rw [hm] at hC
      rw [← hK]
      have c0 := hC.c0
      have c1 := hC.c1
      rw [show Rd.k (Int × Int) = 2 from rfl] at c0 c1
      have hKn := Lib.hid (show K + 1 + 1 = k + 2 * ((j : Int) + 1) by omega)
      have hK0 : 0 ≤ K := by omega
      have hK1 : K + 2 ≤ 1152921504606846976 := by omega
      clear hC hm hK hF hF' hr
      go_wp2
      go_round
      case rel => exact ⟨j + 1, by omega, by go_num, by rw [hKn.out]; go_num⟩
      case measure => simp [intOf]; omega
    · have hjj : j = xs.length := by omega
      have HJ := Lib.hid hjj
      clear hjj
      go_wp2
      go_ret
      exact ⟨ret_int (by rw [HE.out, HJ.out]), rfl⟩



set_option maxHeartbeats 1000000 in
theorem heldLevelS_calls {v : Value} {xs : List LevelD} {w : World} (k : Int) (h : RdL w [v] (Mk.mkd k xs)) (h0 : 0 ≤ k) (h1 : k + (cntTo xs xs.length : Nat) ≤ 1152921504606846976) :
    Calls Tryz.prog 122 #[v, .int .i64 k] w fun e w' => e = .returned (.int .i64 (k + (cntTo xs xs.length : Nat))) ∧ w = w' := by
  obtain ⟨a, cap, rfl, hcp, hr⟩ := h.sl
  have hcap : xs.length ≤ 9223372036854775807 := by rw [mkd_len] at hcp; omega
  rw [mkd_len]
  clear h hcp
  go_enter Tryz.func122, Tryz.ntmps122
  go_wp2
  go_loop [1, 5] (fun q i => ∃ j : Nat, j ≤ xs.length ∧ i = .int .i64 j ∧ q = .int .i64 (k + (cntTo xs j : Nat))) (fun _ i => xs.length - (intOf i).toNat)
  case atStart => exact ⟨0, Nat.zero_le _, rfl, by simp [cntTo]⟩
  case round =>
    obtain ⟨j, hj, rfl, rfl⟩ := hrel
    by_cases hlt : j < xs.length
    · obtain ⟨b, off, cs, rfl, hC, hR⟩ := rd_mkd hr hlt
      obtain ⟨d1, rfl, hf, hR1⟩ := hR
      obtain ⟨K, hK⟩ : ∃ K : Int, K = k + (cntTo xs j : Nat) := ⟨_, rfl⟩
      have hcj := cntTo_mono xs (show j + 1 ≤ xs.length from hlt)
      have hc1 : cntTo xs (j + 1) = cntTo xs j + (1 + cntTo (nth xs j).lits (nth xs j).lits.length) := rfl
      rw [← hK] at hC hR1 ⊢
      have hC : Cells w b (off + j * 2) [.int .i64 K, d1] := hC
      have hR1 : RdL w [d1] (Mk.mkd (K + 1) (nth xs j).lits) := hR1
      have c0 := hC.c0
      have c1 := hC.c1
      have hKn := Lib.hid (show K + 1 + (cntTo (nth xs j).lits (nth xs j).lits.length : Nat) = k + (cntTo xs (j + 1) : Nat) by omega)
      have hK0 : 0 ≤ K := by omega
      have hip := cntTo_pair (nth xs j).lits (nth xs j).lits.length
      have hK1 : K + 1 + 2 * (nth xs j).lits.length ≤ 1152921504606846976 := by omega
      have hK2 : (0 : Int) ≤ K + 1 + (cntTo (nth xs j).lits (nth xs j).lits.length : Nat) := by omega
      have hK3 : K + 1 + (cntTo (nth xs j).lits (nth xs j).lits.length : Nat) ≤ 1152921504606846976 := by omega
      have hK4 : K + 1 ≤ 1152921504606846976 := by omega
      clear hC hK hf hr hc1 hcj hip
      go_wp2_with (go_at_call 207; refine (heldWLitS_calls (K + 1) hR1 (by omega) hK1).mono ?_; rintro e w' ⟨rfl, rfl⟩)
      go_round
      case rel => exact ⟨j + 1, by omega, by go_num, by rw [hKn.out]⟩
      case measure => simp [intOf]; omega
    · have hjj : j = xs.length := by omega
      subst hjj
      go_wp2
      go_ret
      exact ⟨rfl, rfl⟩

/-! ### HeldP -/
set_option maxHeartbeats 1000000 in
theorem heldRuleS_calls {v : Value} {xs : List RuleD} {w : World} (k : Int) (h : RdL w [v] (Mk.mkd k xs)) (h0 : 0 ≤ k) (h1 : k + (cntTo xs xs.length : Nat) ≤ 1152921504606846976) :
    Calls Tryz.prog 121 #[v, .int .i64 k] w fun e w' => e = .returned (.int .i64 (k + (cntTo xs xs.length : Nat))) ∧ w = w' := by
  obtain ⟨a, cap, rfl, hcp, hr⟩ := h.sl
  have hcap : xs.length ≤ 9223372036854775807 := by rw [mkd_len] at hcp; omega
  rw [mkd_len]
  clear h hcp
  go_enter Tryz.func121, Tryz.ntmps121
  go_wp2
  go_loop [1, 5] (fun q i => ∃ j : Nat, j ≤ xs.length ∧ i = .int .i64 j ∧ q = .int .i64 (k + (cntTo xs j : Nat))) (fun _ i => xs.length - (intOf i).toNat)
  case atStart => exact ⟨0, Nat.zero_le _, rfl, by simp [cntTo]⟩
  case round =>
    obtain ⟨j, hj, rfl, rfl⟩ := hrel
    by_cases hlt : j < xs.length
    · obtain ⟨b, off, cs, rfl, hC, hR⟩ := rd_mkd hr hlt
      obtain ⟨d1, d4, rfl, hf, hR1, hR4⟩ := hR
      obtain ⟨K, hK⟩ : ∃ K : Int, K = k + (cntTo xs j : Nat) := ⟨_, rfl⟩
      obtain ⟨L, hL⟩ : ∃ L : Int, L = K + 1 + (cntTo (nth xs j).heads (nth xs j).heads.length : Nat) := ⟨_, rfl⟩
      have hcj := cntTo_mono xs (show j + 1 ≤ xs.length from hlt)
      have hc1 : cntTo xs (j + 1) = cntTo xs j + (3 + cntTo (nth xs j).heads (nth xs j).heads.length + cntTo (nth xs j).body (nth xs j).body.length) := rfl
      rw [← hK] at hC hR1 hR4 ⊢
      have hC : Cells w b (off + j * 5) [.bool (K % 3 == 0), d1, .bool ((K + 1 + (cntTo (nth xs j).heads (nth xs j).heads.length : Nat)) % 3 == 0), .int .i64 (K + 2 + (cntTo (nth xs j).heads (nth xs j).heads.length : Nat)), d4] := hC
      have hR1 : RdL w [d1] (Mk.mkd (K + 1) (nth xs j).heads) := hR1
      have hR4 : RdL w [d4] (Mk.mkd (K + 3 + (cntTo (nth xs j).heads (nth xs j).heads.length : Nat)) (nth xs j).body) := hR4
      rw [← hL, show K + 2 + (cntTo (nth xs j).heads (nth xs j).heads.length : Nat) = L + 1 by omega] at hC
      rw [show K + 3 + (cntTo (nth xs j).heads (nth xs j).heads.length : Nat) = L + 1 + 1 by omega] at hR4
      have c0 := hC.c0
      have c1 := hC.c1
      have c2 := hC.c2
      have c3 := hC.c3
      have c4 := hC.c4
      have hKn := Lib.hid (show L + 1 + 1 + (cntTo (nth xs j).body (nth xs j).body.length : Nat) = k + (cntTo xs (j + 1) : Nat) by omega)
      have hii := cntTo_int (nth xs j).heads (nth xs j).heads.length
      have hip := cntTo_pair (nth xs j).body (nth xs j).body.length
      have hK0 : 0 ≤ K := by omega
      have hL0 : 0 ≤ L := by omega
      have hK1 : K + 1 + (nth xs j).heads.length ≤ 1152921504606846976 := by omega
      have hL1 : L + 1 + 1 + 2 * (nth xs j).body.length ≤ 1152921504606846976 := by omega
      have hL2 : (0 : Int) ≤ L + 1 + 1 + (cntTo (nth xs j).body (nth xs j).body.length : Nat) := by omega
      have hL3 : L + 1 + 1 + (cntTo (nth xs j).body (nth xs j).body.length : Nat) ≤ 1152921504606846976 := by omega
      have hL4 : L + 1 + 1 ≤ 1152921504606846976 := by omega
      have hK4 : K + 1 ≤ 1152921504606846976 := by omega
      have HL := Lib.hid hL
      clear hC hK hf hr hc1 hcj hip hii hL
      go_wp2_with (first | (go_at_call 123; refine (heldIntSO_calls (K + 1) hR1 (by omega) hK1).mono ?_; rintro e w' ⟨he, rfl⟩; rw [← HL.out] at he; subst he) | (go_at_call 207; refine (heldWLitS_calls (L + 1 + 1) hR4 (by omega) hL1).mono ?_; rintro e w' ⟨rfl, rfl⟩))
      go_round
      case rel => exact ⟨j + 1, by omega, by go_num, by rw [hKn.out]⟩
      case measure => simp [intOf]; omega
    · have hjj : j = xs.length := by omega
      subst hjj
      go_wp2
      go_ret
      exact ⟨rfl, rfl⟩

set_option maxHeartbeats 1000000 in
theorem heldShowS_calls {v : Value} {xs : List ShowD} {w : World} (k : Int) (h : RdL w [v] (Mk.mkd k xs)) (h0 : 0 ≤ k) (h1 : k + (cntTo xs xs.length : Nat) ≤ 1152921504606846976) :
    Calls Tryz.prog 124 #[v, .int .i64 k] w fun e w' => e = .returned (.int .i64 (k + (cntTo xs xs.length : Nat))) ∧ Below w.heap.size w w' := by
  obtain ⟨a, cap, rfl, hcp, hr⟩ := h.sl
  have hcap : xs.length ≤ 9223372036854775807 := by rw [mkd_len] at hcp; omega
  rw [mkd_len]
  clear h hcp
  go_enter Tryz.func124, Tryz.ntmps124
  go_wp2
  go_loopw [1, 5] (fun q i wr => ∃ j : Nat, j ≤ xs.length ∧ i = .int .i64 j ∧ q = .int .i64 (k + (cntTo xs j : Nat)) ∧ Below w.heap.size w wr) (fun _ i _ => xs.length - (intOf i).toNat)
  case atStart => exact ⟨0, Nat.zero_le _, rfl, by simp [cntTo], Below.refl _ _⟩
  case round =>
    obtain ⟨j, hj, rfl, rfl, hb⟩ := hrel
    by_cases hlt : j < xs.length
    · obtain ⟨b, off, cs, rfl, hC, hR⟩ := rd_mkd hr hlt
      have hC := hC.later hb
      have hR := Rd.mono hb hR
      obtain ⟨d1, rfl, hf, hR1⟩ := hR
      obtain ⟨K, hK⟩ : ∃ K : Int, K = k + (cntTo xs j : Nat) := ⟨_, rfl⟩
      have hcj := cntTo_mono xs (show j + 1 ≤ xs.length from hlt)
      have hc1 : cntTo xs (j + 1) = cntTo xs j + (1 + cntTo (nth xs j).cond (nth xs j).cond.length) := rfl
      rw [← hK] at hC hR1 ⊢
      have hC : Cells wr b (off + j * 2) [.string (markT K), d1] := hC
      have hR1 : RdL wr [d1] (Mk.mkd (K + 1) (nth xs j).cond) := hR1
      have c0 := hC.c0
      have hKn := Lib.hid (show K + 1 + (cntTo (nth xs j).cond (nth xs j).cond.length : Nat) = k + (cntTo xs (j + 1) : Nat) by omega)
      have hK0 : 0 ≤ K := by omega
      have hip := cntTo_int (nth xs j).cond (nth xs j).cond.length
      have hK1 : K + 1 + (nth xs j).cond.length ≤ 1152921504606846976 := by omega
      have hK2 : (0 : Int) ≤ K + 1 + (cntTo (nth xs j).cond (nth xs j).cond.length : Nat) := by omega
      have hK3 : K + 1 + (cntTo (nth xs j).cond (nth xs j).cond.length : Nat) ≤ 1152921504606846976 := by omega
      have hK4 : K + 1 ≤ 1152921504606846976 := by omega
      have hj0 : (0 : Int) ≤ (j : Int) := by omega
      have hj1 : (j : Int) < (xs.length : Int) := by omega
      clear hK hf hr hc1 hcj hip
      go_wp2
      go_region_held3 (fun w' => w'.cell? ⟨b, off + j * 2, none⟩ = some (.string (markT K)))
        (first | exact c0 | exact (hC.drew.later b1).c0)
        (first | (go_at_call 206; refine (markText_calls K _ (by omega)).mono ?_; rintro e w1 ⟨rfl, b1⟩))
      have hR2 := Rd.mono (α := List Int) (show Below wr.heap.size wr w1 from (Below.refl _ _).drew.step b1) hR1
      have c1 := (hC.drew.later b1).c1
      have hb1 := hb.drew.step b1
      go_wp2_with (go_at_call 123; refine (heldIntSO_calls (K + 1) hR2 (by omega) hK1).mono ?_; rintro e w' ⟨rfl, rfl⟩)
      go_roundw
      case rel => exact ⟨j + 1, by omega, by go_num, by rw [hKn.out], hb1⟩
      case measure => simp [intOf]; omega
    · have hjj : j = xs.length := by omega
      subst hjj
      go_wp2
      go_ret
      exact ⟨rfl, hb⟩

set_option maxHeartbeats 2000000 in
theorem heldProg_calls {cs : List Value} {p : ProgD} {w : World} (k : Int) (h : Rd.R w cs (mkProgV k p)) (h0 : 0 ≤ k) (h1 : k + (cntProgV p : Nat) ≤ 1152921504606846976) :
    Calls Tryz.prog 37 #[.agg cs.toArray, .int .i64 k] w fun e w' => e = .returned (.int .i64 (k + (cntProgV p : Nat))) ∧ Below w.heap.size w w' := by
  obtain ⟨c1, c2, c4, c5, c6, c7, rfl, hf, r1, r2, r4, r5, r6, r7⟩ := h
  have HC : Hid (cntProgV p = cntTo p.rules p.rules.length + cntTo p.levels p.levels.length + cntTo p.project p.project.length + cntTo p.shows p.shows.length + cntTo p.exts p.exts.length + cntTo p.assume p.assume.length) := rfl
  have i4 := Lib.hid (cntTo_int p.project p.project.length)
  have i6 := Lib.hid (cntTo_pair p.exts p.exts.length)
  have i7 := Lib.hid (cntTo_int p.assume p.assume.length)
  rw [HC.out] at h1 ⊢
  obtain ⟨k2, hk2⟩ : ∃ k2 : Int, k2 = k + (cntTo p.rules p.rules.length : Nat) := ⟨_, rfl⟩
  obtain ⟨k4, hk4⟩ : ∃ k4 : Int, k4 = k2 + (cntTo p.levels p.levels.length : Nat) := ⟨_, rfl⟩
  obtain ⟨k5, hk5⟩ : ∃ k5 : Int, k5 = k4 + (cntTo p.project p.project.length : Nat) := ⟨_, rfl⟩
  obtain ⟨k6, hk6⟩ : ∃ k6 : Int, k6 = k5 + (cntTo p.shows p.shows.length : Nat) := ⟨_, rfl⟩
  obtain ⟨k7, hk7⟩ : ∃ k7 : Int, k7 = k6 + (cntTo p.exts p.exts.length : Nat) := ⟨_, rfl⟩
  have a1 : 0 ≤ k2 ∧ 0 ≤ k4 ∧ 0 ≤ k5 ∧ 0 ≤ k6 ∧ 0 ≤ k7 := by omega
  obtain ⟨a2, a4, a5, a6, a7⟩ := a1
  have b1 : k + (cntTo p.rules p.rules.length : Nat) ≤ 1152921504606846976 ∧ k2 + (cntTo p.levels p.levels.length : Nat) ≤ 1152921504606846976 ∧ k4 + p.project.length ≤ 1152921504606846976 ∧ k5 + (cntTo p.shows p.shows.length : Nat) ≤ 1152921504606846976 ∧ k6 + 2 * p.exts.length ≤ 1152921504606846976 ∧ k7 + p.assume.length ≤ 1152921504606846976 := by
    have := i4.out
    have := i6.out
    have := i7.out
    omega
  obtain ⟨b1, b2, b4, b5, b6, b7⟩ := b1
  have HE : Hid (k7 + (cntTo p.assume p.assume.length : Nat) = k + ((cntTo p.rules p.rules.length + cntTo p.levels p.levels.length + cntTo p.project p.project.length + cntTo p.shows p.shows.length + cntTo p.exts p.exts.length + cntTo p.assume p.assume.length : Nat) : Int)) := by show _ = _; omega
  have H2 := Lib.hid hk2
  have H4 := Lib.hid hk4
  have H5 := Lib.hid hk5
  have H6 := Lib.hid hk6
  have H7 := Lib.hid hk7
  clear hk2 hk4 hk5 hk6 hk7 h1
  have r1 : RdL w [c1] (Mk.mkd k p.rules) := r1
  have r2 : RdL w [c2] (Mk.mkd k2 p.levels) := by rw [H2.out]; exact r2
  have r4 : RdL w [c4] (Mk.mkd k4 p.project) := by rw [H4.out, H2.out]; exact r4
  have r5 : RdL w [c5] (Mk.mkd k5 p.shows) := by rw [H5.out, H4.out, H2.out]; exact r5
  have r6 : RdL w [c6] (Mk.mkd k6 p.exts) := by rw [H6.out, H5.out, H4.out, H2.out]; exact r6
  have r7 : RdL w [c7] (Mk.mkd k7 p.assume) := by rw [H7.out, H6.out, H5.out, H4.out, H2.out]; exact r7
  have tb := (Below.refl w.heap.size w).alloc (Nat.le_refl _) (.cells #[.int .i64 (mkProgV k p).atoms, c1, c2, .bool (mkProgV k p).projOn, c4, c5, c6, c7] 30)
  have X := Cells.new w [.int .i64 (mkProgV k p).atoms, c1, c2, .bool (mkProgV k p).projOn, c4, c5, c6, c7] 30
  have a8 : (0 : Int) ≤ k + (cntProgV p : Nat) := by omega
  rw [HC.out] at a8
  go_enter Tryz.func37, Tryz.ntmps37
  go_wp2_with fail
  refine (heldRuleS_calls k (Rd.mono (α := List RuleD) tb r1) h0 b1).mono ?_
  rintro e w' ⟨he, rfl⟩
  rw [← H2.out] at he
  subst he
  go_wp2_with fail
  refine (heldLevelS_calls k2 (Rd.mono (α := List LevelD) tb r2) a2 b2).mono ?_
  rintro e w' ⟨he, rfl⟩
  rw [← H4.out] at he
  subst he
  go_wp2_with fail
  refine (heldIntSO_calls k4 (Rd.mono (α := List Int) tb r4) a4 b4).mono ?_
  rintro e w' ⟨he, rfl⟩
  rw [← H5.out] at he
  subst he
  go_wp2_with fail
  refine (heldShowS_calls k5 (Rd.mono (α := List ShowD) tb r5) a5 b5).mono ?_
  rintro e w1 ⟨he, hb1⟩
  rw [← H6.out] at he
  subst he
  have X1 := X.later hb1
  have t1 := tb.step hb1
  obtain ⟨x0, x1, x2, x3, x4, x5, x6, x7⟩ := cells8 X1
  go_wp2_with fail
  refine (heldExtS_calls k6 (Rd.mono (α := List (Int × Int)) t1 r6) a6 b6).mono ?_
  rintro e w' ⟨he, rfl⟩
  rw [← H7.out] at he
  subst he
  go_wp2_with fail
  refine (heldIntSO_calls k7 (Rd.mono (α := List Int) t1 r7) a7 b7).mono ?_
  rintro e w' ⟨he, rfl⟩
  rw [HE.out] at he
  subst he
  go_wp2
  go_ret
  exact ⟨rfl, t1⟩

end Go.Proofs.YthikhkeofcjdfaaGreat
