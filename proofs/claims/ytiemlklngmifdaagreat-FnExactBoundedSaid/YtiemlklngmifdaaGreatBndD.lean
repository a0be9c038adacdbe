/-
  A program whose costs are bounded: what is asked and what is added, told of lists. No condition of its own.
-/
import Derived.Test.YtiemlklngmifdaaGreatCosts
import Derived.Test.YtiemlklngmifdaaGreatModel
namespace Go.Proofs.YtiemlklngmifdaaGreat
set_option linter.unusedVariables false
set_option linter.unusedSimpArgs false
open Go.RowKit
set_option maxRecDepth 100000

/-- What a literal of a level gives to the body. -/
def abQ (q : Int × Int) : Option (Int × Int) := if q.2 < 0 then some (-q.1, -q.2) else if 0 < q.2 then some q else none
def abB (l : List (Int × Int)) : List (Int × Int) := l.filterMap abQ
/-- The sizes of all W below 0, together. -/
def abS : List (Int × Int) → Int
  | [] => 0
  | q :: l => (if q.2 < 0 then -q.2 else 0) + abS l
theorem abS_snoc (q : Int × Int) : ∀ l, abS (l ++ [q]) = abS l + (if q.2 < 0 then -q.2 else 0)
  | [] => by simp [abS]
  | r :: l => by simp only [List.cons_append, abS, abS_snoc q l]; omega
theorem abB_neg {l : List (Int × Int)} {k : Nat} (hk : k < l.length) (h : (nth l k).2 < 0) : abB (l.take (k + 1)) = abB (l.take k) ++ [(-(nth l k).1, -(nth l k).2)] := by
  unfold abB; rw [take_nth hk, List.filterMap_append]; simp [abQ, h]
theorem abB_pos {l : List (Int × Int)} {k : Nat} (hk : k < l.length) (h : 0 < (nth l k).2) : abB (l.take (k + 1)) = abB (l.take k) ++ [nth l k] := by
  unfold abB; rw [take_nth hk, List.filterMap_append]; simp [abQ, h, show ¬ (nth l k).2 < 0 by omega]
theorem abB_zero {l : List (Int × Int)} {k : Nat} (hk : k < l.length) (h : (nth l k).2 = 0) : abB (l.take (k + 1)) = abB (l.take k) := by
  unfold abB; rw [take_nth hk, List.filterMap_append]; simp [abQ, h]
theorem abS_neg {l : List (Int × Int)} {k : Nat} (hk : k < l.length) (h : (nth l k).2 < 0) : abS (l.take (k + 1)) = abS (l.take k) + -(nth l k).2 := by rw [take_nth hk, abS_snoc, if_pos h]
theorem abS_non {l : List (Int × Int)} {k : Nat} (hk : k < l.length) (h : ¬ (nth l k).2 < 0) : abS (l.take (k + 1)) = abS (l.take k) := by rw [take_nth hk, abS_snoc, if_neg h, Int.add_zero]
theorem abS_bd : ∀ {l : List (Int × Int)}, (∀ q ∈ l, -1000 ≤ q.2 ∧ q.2 ≤ 1000) → 0 ≤ abS l ∧ abS l ≤ 1000 * (l.length : Int)
  | [], _ => by simp [abS]
  | q :: l, h => by
    have ih := abS_bd (l := l) fun r hr => h r (List.mem_cons_of_mem _ hr)
    have hq := h q (List.mem_cons_self ..)
    simp only [abS, List.length_cons]
    split <;> omega
theorem abS_take_bd {l : List (Int × Int)} (k : Nat) (h : ∀ q ∈ l, -1000 ≤ q.2 ∧ q.2 ≤ 1000) (hl : l.length ≤ 20) : 0 ≤ abS (l.take k) ∧ abS (l.take k) ≤ 20000 := by
  have h1 := abS_bd (l := l.take k) fun q hq => h q (List.mem_of_mem_take hq)
  have h2 : (l.take k).length ≤ l.length := by rw [List.length_take]; omega
  omega
theorem abB_len (l : List (Int × Int)) : (abB l).length ≤ l.length := List.length_filterMap_le _ _
theorem abB_take_len (l : List (Int × Int)) (k : Nat) (hl : l.length ≤ 20) : (abB (l.take k)).length ≤ 20 := by
  have h1 := abB_len (l.take k)
  have h2 : (l.take k).length ≤ l.length := by rw [List.length_take]; omega
  omega

/-- The rule that is added for a level. -/
def aboveR (c : Int) (l : LevelD) : RuleD := ⟨false, [], true, c + 1 + abS l.lits, abB l.lits⟩
theorem litB_neg {l n : Int} (h : litB l n = true) (hn : n ≤ 12) : litB (-l) n = true := by
  simp only [litB, btwB, Bool.or_eq_true, decide_eq_true_eq] at h ⊢
  omega
theorem above_ok {c : Int} {l : LevelD} {n : Int} (hn : 0 ≤ n ∧ n ≤ 12) (hl : l.lits.length ≤ 20) (hq : ∀ q ∈ l.lits, litB q.1 n = true ∧ -1000 ≤ q.2 ∧ q.2 ≤ 1000) :
    ruleOkB (aboveR c l) n = btwB (c + 1 + abS l.lits) (-100000) 100000 := by
  have h1 : headsB (aboveR c l) n = true := by
    have hs : setOkB ([] : List Int) n = true := by
      unfold setOkB
      rw [decide_eq_true hn]
      rfl
    unfold headsB aboveR
    simp [hs]
  have h2 : (aboveR c l).body.all (wlitB true n) = true := by
    rw [List.all_eq_true]
    intro p hp
    obtain ⟨q, hqm, he⟩ := List.mem_filterMap.1 hp
    obtain ⟨ha, hb, hc⟩ := hq q hqm
    unfold abQ at he
    split at he
    · cases he
      simp only [wlitB, litB_neg ha hn.2, btwB, Bool.true_or, Bool.and_true, Bool.true_and, decide_eq_true_eq]
      omega
    · split at he
      · cases he
        simp only [wlitB, ha, btwB, Bool.true_or, Bool.and_true, Bool.true_and, decide_eq_true_eq]
        omega
      · cases he
  have h3 : (aboveR c l).body.length ≤ 20 := Nat.le_trans (abB_len _) hl
  unfold ruleOkB
  rw [h1, Bool.true_and]
  unfold bodyB
  rw [decide_eq_true h3]
  have h4 : (aboveR c l).weight = true := rfl
  rw [h4, h2]
  simp [aboveR]

/-- The rules that are added. -/
def abRules (cs : List Int) (ls : List LevelD) : List RuleD := List.zipWith aboveR cs ls
def bndD (p : ProgD) (cs : List Int) : ProgD := { p with rules := p.rules ++ abRules cs p.levels.reverse }
def costOkB (c : Int) : Bool := btwB c (-100000) 100000
def bndB (p : ProgD) (cs : List Int) : Bool := progOkB p && (cs.length == p.levels.length && (cs.all costOkB && progOkB (bndD p cs)))
def bndR (p : ProgD) (cs : List Int) : ProgD := if bndB p cs then bndD p cs else default
theorem abRules_len {cs : List Int} {ls : List LevelD} (h : cs.length = ls.length) : (abRules cs ls).length = cs.length := by unfold abRules; rw [List.length_zipWith]; omega
theorem bndB_A {p : ProgD} {cs : List Int} (h : progOkB p = false) : bndB p cs = false := by simp only [bndB, h, Bool.false_and]
theorem bndB_B {p : ProgD} {cs : List Int} (h : cs.length ≠ p.levels.length) : bndB p cs = false := by simp [bndB, h]
theorem bndB_C {p : ProgD} {cs : List Int} (h : cs.all costOkB = false) : bndB p cs = false := by simp only [bndB, h, Bool.false_and, Bool.and_false]
theorem bndB_D {p : ProgD} {cs : List Int} (h : progOkB p = true) (hl : cs.length = p.levels.length) (hc : cs.all costOkB = true) : bndB p cs = progOkB (bndD p cs) := by simp [bndB, h, hl, hc]
theorem bndR_no {p : ProgD} {cs : List Int} (h : bndB p cs = false) : bndR p cs = default := by unfold bndR; rw [h]; rfl
theorem bndR_yes {p : ProgD} {cs : List Int} (h : bndB p cs = true) : bndR p cs = bndD p cs := by unfold bndR; rw [h]; rfl

theorem level_lits {ls : List LevelD} {n : Int} (h : levelsB ls n = true) {l : LevelD} (hl : l ∈ ls) : l.lits.length ≤ 20 ∧ ∀ q ∈ l.lits, litB q.1 n = true ∧ -1000 ≤ q.2 ∧ q.2 ≤ 1000 := by
  simp only [levelsB, Bool.and_eq_true, decide_eq_true_eq] at h
  obtain ⟨k, hk, rfl⟩ := List.getElem_of_mem hl
  have := toB_at h.2 hk
  simp only [levelB, Bool.and_eq_true, decide_eq_true_eq, List.all_eq_true] at this
  obtain ⟨_, h2, h3⟩ := this
  rw [nth_eq hk] at h2 h3
  refine ⟨h2, fun q hq => ?_⟩
  have h4 := h3 q hq
  simp only [levLitB, btwB, Bool.and_eq_true, decide_eq_true_eq] at h4
  exact ⟨h4.1, h4.2⟩
/-- What the code asks at the end is what the model asks on the way. -/
theorem bnd_same {p : ProgD} {cs : List Int} (h : progOkB p = true) (hl : cs.length = p.levels.length) :
    progOkB (bndD p cs) = (decide (p.rules.length + cs.length ≤ 60) && (abRules cs p.levels.reverse).all (fun r => btwB r.bound (-100000) 100000)) := by
  have hlv := progOk_levels h
  have ha := progOk_atoms h
  have hal := abRules_len (cs := cs) (ls := p.levels.reverse) (by rw [List.length_reverse]; exact hl)
  have hall : ∀ r ∈ abRules cs p.levels.reverse, ruleOkB r p.atoms = btwB r.bound (-100000) 100000 := fun r hr => by
    unfold abRules at hr
    rw [List.zipWith_eq_zipWith_take_min] at hr
    obtain ⟨⟨c, l⟩, hm, rfl⟩ : ∃ q : Int × LevelD, q ∈ List.zip cs p.levels.reverse ∧ aboveR q.1 q.2 = r := by
      rw [← List.zipWith_eq_zipWith_take_min, ← List.map_uncurry_zip_eq_zipWith] at hr
      obtain ⟨q, hq, he⟩ := List.mem_map.1 hr
      exact ⟨q, hq, he⟩
    have hlm := List.mem_reverse.1 (List.of_mem_zip hm).2
    obtain ⟨h1, h2⟩ := level_lits hlv hlm
    exact above_ok ha h1 h2
  have hr : rulesB (bndD p cs).rules p.atoms = (decide (p.rules.length + cs.length ≤ 60) && (abRules cs p.levels.reverse).all (fun r => btwB r.bound (-100000) 100000)) := by
    have hpr := (progOk_rules h).2
    unfold rulesB bndD
    rw [List.length_append, hal, List.all_append, all_congr hall]
    rw [show p.rules.all (fun r => ruleOkB r p.atoms) = true from List.all_eq_true.2 hpr, Bool.true_and]
  simp only [progOkB, Bool.and_eq_true] at h
  obtain ⟨h1, h2, h3, h4, h5, h6, h7⟩ := h
  have h4' : projB (bndD p cs) = true := h4
  unfold progOkB
  rw [show (bndD p cs).atoms = p.atoms from rfl, hr, h4', show (bndD p cs).levels = p.levels from rfl, show (bndD p cs).shows = p.shows from rfl, show (bndD p cs).exts = p.exts from rfl, show (bndD p cs).assume = p.assume from rfl, h1, h3, h5, h6, h7]
  simp

end Go.Proofs.YtiemlklngmifdaaGreat
