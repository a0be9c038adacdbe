/-
  What is seen of a set. No condition of its own.
-/
import Derived.Test.YtjainjpcpnoikaaImplProg
import Derived.Test.YtjainjpcpnoikaaSpecProg
import Derived.Test.YtjainjpcpnoikaaSetsB
import Derived.Test.YtjainjpcpnoikaaSetsPure
import Derived.Test.YtjainjpcpnoikaaMadeD
import Derived.Test.YtjainjpcpnoikaaSeq
import Derived.Deep.RegionHeld3
namespace Go.Proofs.Ytjainjpcpnoikaa
set_option linter.unusedVariables false
set_option linter.unusedSimpArgs false
open Go.RowKit
set_option maxRecDepth 100000
set_option linter.unusedVariables false
set_option linter.unusedSimpArgs false

theorem progOk_atV {p : ProgD} (h : progOkB p = true) : 0 ≤ p.atoms ∧ p.atoms ≤ 12 := by
  simp only [progOkB, Bool.and_eq_true, btwB, decide_eq_true_eq] at h
  exact h.1
/-- The atoms that a program shows. -/
def visL (p : ProgD) : List Int := if p.projOn then p.project else setOfS (((2 ^ p.atoms.toNat : Nat) : Int) - 1)
theorem visL_on {p : ProgD} (h : p.projOn = true) : visL p = p.project := by simp [visL, h]
theorem visL_all {p : ProgD} (h : p.projOn = false) : visL p = setOfS (((2 ^ p.atoms.toNat : Nat) : Int) - 1) := by simp [visL, h]
def seenS (p : ProgD) (xs : List Int) : List Int := pickTo (pickM xs (visL p)) 12
def seenR (p : ProgD) (xs : List Int) : List Int := if progOkB p then seenS p xs else []
theorem seenR_no {p : ProgD} {xs : List Int} (h : progOkB p = false) : seenR p xs = [] := by simp [seenR, h]
theorem seenR_yes {p : ProgD} {xs : List Int} (h : progOkB p = true) : seenR p xs = seenS p xs := by simp [seenR, h]
theorem seenR_len (p : ProgD) (xs : List Int) : (seenR p xs).length ≤ 12 := by
  unfold seenR; split
  · exact pickTo_len _ _
  · simp
theorem powV {n : Int} (h0 : 0 ≤ n) (h1 : n ≤ 12) : ((2 : Int) ^ n.toNat) = ((2 ^ n.toNat : Nat) : Int) ∧ 1 ≤ 2 ^ n.toNat ∧ 2 ^ n.toNat ≤ 4096 := by
  have h1 : 2 ^ n.toNat ≤ 2 ^ 12 := Nat.pow_le_pow_right (by omega) (by omega)
  have h2 : 0 < 2 ^ n.toNat := Nat.two_pow_pos _
  exact ⟨by simp, h2, h1⟩
theorem vis_mask {p : ProgD} (hp : p.projOn = false) (h0 : 0 ≤ p.atoms) (h1 : p.atoms ≤ 12) : maskOf (visL p) = 2 ^ p.atoms.toNat - 1 := by
  obtain ⟨_, h2, h3⟩ := powV h0 h1
  rw [visL_all hp, show (((2 ^ p.atoms.toNat : Nat) : Int) - 1) = ((2 ^ p.atoms.toNat - 1 : Nat) : Int) by omega]
  have : setOfS ((2 ^ p.atoms.toNat - 1 : Nat) : Int) = mset (2 ^ p.atoms.toNat - 1) := by
    rw [← of_same]
    unfold setOf mset
    rw [if_pos (by omega)]
    rfl
  rw [this, mask_mset (by omega)]
theorem seen_mset (p : ProgD) (xs : List Int) : mset (maskOf xs &&& maskOf (visL p)) = seenS p xs := meet_same xs (visL p)




end Go.Proofs.Ytjainjpcpnoikaa
