/-
 impl.Both: what it answers. No condition of its own.
-/
import Derived.Test.YthikhkeofcjdfaaGreatCopyProg
import Derived.Test.YthikhkeofcjdfaaGreatImplProg
import Derived.Test.YthikhkeofcjdfaaGreatModel
namespace Go.Proofs.YthikhkeofcjdfaaGreat
set_option linter.unusedVariables false
set_option linter.unusedSimpArgs false
open Go.RowKit
set_option maxRecDepth 100000

/-- p with q's rules behind its own. -/
def bothD (p q : ProgD) : ProgD := { p with atoms := max p.atoms q.atoms, rules := p.rules ++ q.rules }
def bothB (p q : ProgD) : Bool := progOkB p && progOkB q && decide (p.rules.length + q.rules.length ≤ 60)
def bothR (p q : ProgD) : ProgD := if bothB p q then bothD p q else default

theorem toB_mono {f g : Nat → Bool} : ∀ {k : Nat}, (∀ i, i < k → f i = true → g i = true) → toB f k = true → toB g k = true
 | 0, _, _ => rfl
 | k + 1, h, h1 => by
  simp only [toB, Bool.and_eq_true] at h1 ⊢
  exact ⟨toB_mono (fun i hi => h i (by omega)) h1.1, h k (by omega) h1.2⟩
theorem szP_ok {p : ProgD} (h : progOkB p = true) : SzP p := by
 have hr := progOk_rules h
 simp only [progOkB, Bool.and_eq_true, rulesB, levelsB, projB, showsB, extsB, List.all_eq_true, decide_eq_true_eq] at h
 obtain ⟨a0, ⟨a1, a2⟩, ⟨a3, a4⟩, ⟨a5, a6⟩, ⟨a7, a8⟩, ⟨a9, a10⟩, a11⟩ := h
 have rr : ∀ x ∈ p.rules, x.heads.length ≤ 1048576 ∧ x.body.length ≤ 1048576 := by
  intro x hx
  have := a2 x hx
  simp only [ruleOkB, headsB, bodyB, Bool.and_eq_true, decide_eq_true_eq] at this
  obtain ⟨⟨_, c2⟩, ⟨⟨c3, _⟩, _⟩, _⟩ := this
  refine ⟨?_, by omega⟩
  split at c2
  ·simp only [btwB, decide_eq_true_eq] at c2; omega
  ·simp only [decide_eq_true_eq] at c2; omega
 have setLen : ∀ {xs : List Int} {n : Int}, setOkB xs n = true → xs.length ≤ 1048576 := by
  intro xs n hx
  have hn := setOkB_n hx
  rw [setOkB_in hn] at hx
  have : ∀ k, okTo xs n k = true → k ≤ xs.length → 0 < k → (k : Int) ≤ el xs (k - 1) ∧ el xs (k - 1) ≤ n := by
   intro k
   induction k with
   | zero => intro _ _ h; omega
   | succ k ih =>
    intro h1 h2 _
    simp only [okTo, okStep, Bool.and_eq_true, decide_eq_true_eq] at h1
    rcases Nat.eq_zero_or_pos k with hz | hz
    ·subst hz
     obtain ⟨_, h3, h4, _⟩ := h1
     simp only [Nat.zero_add, Nat.sub_self]
     omega
    ·have := ih h1.1 (by omega) hz
     obtain ⟨_, h3, h4, h5⟩ := h1
     simp only [Nat.add_sub_cancel]
     rcases h5 with h5 | h5 <;> omega
  rcases Nat.eq_zero_or_pos xs.length with hz | hz
  ·omega
  ·have := this _ hx (Nat.le_refl _) hz
   omega
 refine ⟨⟨by omega, rr⟩, ⟨by omega, fun x hx => ?_⟩, setLen a5, ⟨by omega, fun x hx => ?_⟩, by omega, ?_⟩
 ·obtain ⟨i, hi, rfl⟩ := List.getElem_of_mem hx
  have := toB_at a4 hi
  simp only [levelB, Bool.and_eq_true, decide_eq_true_eq, nth_eq hi] at this
  omega
 ·have := a8 x hx
  simp only [showB, Bool.and_eq_true, litsB, decide_eq_true_eq] at this
  omega
 ·simp only [litsB, Bool.and_eq_true, decide_eq_true_eq] at a11
  omega

theorem own_zero (lo : Nat) (w : World) : Own (α := ProgD) lo w [.int .i64 0, .slice none 0 0, .slice none 0 0, .bool false, .slice none 0 0, .slice none 0 0, .slice none 0 0, .slice none 0 0] default := by
 have hn : ∀ {β : Type} [Ow β], OwL (α := β) w [.slice none 0 0] [] [] := fun {β} _ => ⟨none, 0, rfl, Nat.le_refl _, by omega, .inl ⟨rfl, rfl, rfl⟩⟩
 exact ⟨[], ⟨_, _, _, _, _, _, [], [], [], [], [], [], rfl, by show Fits 0; unfold Fits; omega, hn, hn, hn, hn, hn, hn, rfl, List.nodup_nil⟩, by simp⟩


end Go.Proofs.YthikhkeofcjdfaaGreat
