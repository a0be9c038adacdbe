/-
  Support and unfounded sets: what the program answers. No condition of its own.
-/
import Derived.Test.YtjainjpcpnoikaaAnsI
import Derived.Test.YtjainjpcpnoikaaSeq
import Derived.Test.YtjainjpcpnoikaaSupD
namespace Go.Proofs.Ytjainjpcpnoikaa
set_option linter.unusedVariables false
set_option linter.unusedSimpArgs false
open Go.RowKit
set_option maxRecDepth 100000


theorem lessN_calls (a b : Nat) (w : World) (ha : a < 4096) (hb : b < 4096) :
    Calls Try.prog 150 #[.int .u16 (a : Int), .int .u16 (b : Int)] w fun e w' => e = .returned (.int .u16 ((a &&& (65535 - b) : Nat) : Int)) ∧ w = w' := by
  have hlaw := andNot_u16 a b ha hb
  go_enter Try.func150, Try.ntmps150
  go_wp2
  go_ret
  exact ⟨rfl, rfl⟩

theorem upTo_pow {n : Nat} (hn : n ≤ 12) : ((2 : Int) ^ n) = ((2 ^ n : Nat) : Int) ∧ 1 ≤ 2 ^ n ∧ 2 ^ n ≤ 4096 := by
  have h1 : 2 ^ n ≤ 2 ^ 12 := Nat.pow_le_pow_right (by omega) hn
  have h2 : 0 < 2 ^ n := Nat.two_pow_pos n
  exact ⟨by simp, h2, h1⟩
theorem atomsUpTo_calls (n : Nat) (w : World) (hn : n ≤ 12) :
    Calls Try.prog 59 #[.int .i64 (n : Int)] w fun e w' => e = .returned (.int .u16 ((2 ^ n - 1 : Nat) : Int)) ∧ w = w' := by
  obtain ⟨hp, h1, h2⟩ := upTo_pow hn
  obtain ⟨P, hP⟩ : ∃ P : Nat, P = 2 ^ n := ⟨_, rfl⟩
  rw [← hP] at hp h1 h2
  have hv : Hid (2 ^ n = P) := hP.symm
  clear hP
  go_enter Try.func59, Try.ntmps59
  go_wp2
  go_ret
  refine ⟨ret_int ?_, rfl⟩
  rw [hv.out]
  first | omega | (unfold IntKind.wrap; simp; omega) | skip


end Go.Proofs.Ytjainjpcpnoikaa
