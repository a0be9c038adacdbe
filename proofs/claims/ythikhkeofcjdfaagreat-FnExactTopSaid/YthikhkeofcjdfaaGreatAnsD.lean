/-
 Answers: pure. No condition of its own.
-/
import Derived.Test.YthikhkeofcjdfaaGreatLeastD
import Derived.Test.YthikhkeofcjdfaaGreatFoldD
import Derived.Test.YthikhkeofcjdfaaGreatModel
namespace Go.Proofs.YthikhkeofcjdfaaGreat
set_option linter.unusedVariables false
set_option linter.unusedSimpArgs false
open Go.RowKit
set_option maxRecDepth 100000

/-- Is a set an answer of a folded program? -/
def ansB (q : ProgD) (xs : List Int) : Bool := setOkB xs q.atoms && (modelB q xs && decide (leastL q.rules xs false = xs))
theorem ansB_A {q : ProgD} {xs : List Int} (h : setOkB xs q.atoms = false) : ansB q xs = false := by simp only [ansB, h, Bool.false_and]
theorem ansB_B {q : ProgD} {xs : List Int} (h : modelB q xs = false) : ansB q xs = false := by simp only [ansB, h, Bool.false_and, Bool.and_false]
theorem ansB_C {q : ProgD} {xs : List Int} (h1 : setOkB xs q.atoms = true) (h2 : modelB q xs = true) : ansB q xs = decide (leastL q.rules xs false = xs) := by simp only [ansB, h1, h2, Bool.true_and]
def setN (n : Nat) : List Int := setOfS (n : Int)
/-- The answers of a folded program whose numbers are below n. -/
def ansTo (q : ProgD) : Nat → List (List Int)
 | 0 => []
 | n + 1 => if ansB q (setN n) then ansTo q n ++ [setN n] else ansTo q n
theorem ansTo_yes {q : ProgD} {n : Nat} (h : ansB q (setN n) = true) : ansTo q (n + 1) = ansTo q n ++ [setN n] := by simp [ansTo, h]
theorem ansTo_no {q : ProgD} {n : Nat} (h : ansB q (setN n) = false) : ansTo q (n + 1) = ansTo q n := by simp [ansTo, h]
theorem ansTo_len (q : ProgD) : ∀ n, (ansTo q n).length ≤ n
 | 0 => by simp [ansTo]
 | n + 1 => by
  have ih := ansTo_len q n
  cases h : ansB q (setN n)
  ·rw [ansTo_no h]; omega
  ·rw [ansTo_yes h, List.length_append, List.length_singleton]; omega
theorem mem_ansTo {q : ProgD} {x : List Int} : ∀ {n : Nat}, x ∈ ansTo q n ↔ ∃ k, k < n ∧ x = setN k ∧ ansB q (setN k) = true
 | 0 => by simp [ansTo]
 | n + 1 => by
  cases h : ansB q (setN n)
  ·rw [ansTo_no h, mem_ansTo]
   constructor
   ·rintro ⟨k, hk, e⟩; exact ⟨k, by omega, e⟩
   ·rintro ⟨k, hk, e, hh⟩
    rcases Nat.lt_or_ge k n with hkn | hkn
    ·exact ⟨k, hkn, e, hh⟩
    ·obtain rfl : k = n := by omega
     rw [h] at hh; cases hh
  ·rw [ansTo_yes h, List.mem_append, mem_ansTo, List.mem_singleton]
   constructor
   ·rintro (⟨k, hk, e⟩ | e)
    ·exact ⟨k, by omega, e⟩
    ·exact ⟨n, by omega, e, h⟩
   ·rintro ⟨k, hk, e, hh⟩
    rcases Nat.lt_or_ge k n with hkn | hkn
    ·exact .inl ⟨k, hkn, e, hh⟩
    ·obtain rfl : k = n := by omega
     exact .inr e
theorem ansTo_congr {q r : ProgD} : ∀ {n : Nat}, (∀ k, k < n → ansB q (setN k) = ansB r (setN k)) → ansTo q n = ansTo r n
 | 0, _ => rfl
 | n + 1, h => by
  have ih := ansTo_congr (n := n) fun k hk => h k (by omega)
  unfold ansTo
  rw [ih, h n (by omega)]
/-- The answers of a program. -/
def answersL (p : ProgD) : List (List Int) := if foldB p then ansTo (foldD p) (2 ^ p.atoms.toNat) else []
theorem answersL_no {p : ProgD} (h : foldB p = false) : answersL p = [] := by simp [answersL, h]
theorem answersL_yes {p : ProgD} (h : foldB p = true) : answersL p = ansTo (foldD p) (2 ^ p.atoms.toNat) := by simp [answersL, h]
def leastR (p : ProgD) (xs : List Int) (all : Bool) : List Int := if foldB p then leastL (foldD p).rules xs all else []
theorem leastR_no {p : ProgD} {xs : List Int} {all : Bool} (h : foldB p = false) : leastR p xs all = [] := by simp [leastR, h]
theorem leastR_yes {p : ProgD} {xs : List Int} {all : Bool} (h : foldB p = true) : leastR p xs all = leastL (foldD p).rules xs all := by simp [leastR, h]
def answerR (p : ProgD) (xs : List Int) : Bool := foldB p && ansB (foldD p) xs
theorem answerR_no {p : ProgD} {xs : List Int} (h : foldB p = false) : answerR p xs = false := by simp [answerR, h]
theorem answerR_yes {p : ProgD} {xs : List Int} (h : foldB p = true) : answerR p xs = ansB (foldD p) xs := by simp [answerR, h]
theorem foldD_wts {p : ProgD} (h : foldB p = true) : Wts (foldD p).rules := wts_ok (progOk_rules (foldR_ok h)).2
/-- What is folded is folded already. -/
theorem foldD_twice (p : ProgD) : foldD (foldD p) = foldD p := by
 unfold foldD extR asmR asmTo extTo
 simp
theorem foldB_twice {p : ProgD} (h : foldB p = true) : foldB (foldD p) = true := by
 have h1 := foldR_ok h
 rw [foldB_yes h1]
 have h2 := (progOk_rules h1).1
 have e1 : (extR (foldD p)).length = 0 := rfl
 have e2 : (foldD p).assume.length = 0 := rfl
 rw [e1, e2]
 exact decide_eq_true h2
theorem answersL_fold {p : ProgD} (h : foldB p = true) : answersL (foldD p) = answersL p := by
 rw [answersL_yes h, answersL_yes (foldB_twice h), foldD_twice]
 rfl
theorem progOk_len {p : ProgD} {xs : List Int} (h : setOkB xs p.atoms = true) (hp : 0 ≤ p.atoms ∧ p.atoms ≤ 12) : IsP xs := isP_set (setOkB_mono h hp.2 (by omega))

theorem rules12 {q : ProgD} (h : progOkB q = true) : ∀ r ∈ q.rules, ruleOkB r 12 = true := fun r hr => ruleOkB_mono ((progOk_rules h).2 r hr) (progOk_atoms h).2 (by omega)

end Go.Proofs.YthikhkeofcjdfaaGreat
