/-
 What it is for a program to be right: in plain words, and in the code's. No condition of its own.
-/
import Derived.Test.YthikhkeofcjdfaaGreatImplRule
namespace Go.Proofs.YthikhkeofcjdfaaGreat
set_option linter.unusedVariables false
set_option linter.unusedSimpArgs false
open Go.RowKit

def toB (f : Nat → Bool) : Nat → Bool
 | 0 => true
 | k + 1 => toB f k && f k
theorem toB_no {f : Nat → Bool} {k : Nat} (h : f k = false) : ∀ {m : Nat}, k < m → toB f m = false
 | m + 1, hm => by
  by_cases e : k = m
  ·subst e; simp [toB, h]
  ·simp [toB, toB_no h (show k < m by omega)]
theorem toB_yes {f : Nat → Bool} {k : Nat} (h0 : toB f k = true) (h : f k = true) : toB f (k + 1) = true := by simp [toB, h0, h]
theorem toB_at {f : Nat → Bool} {k : Nat} : ∀ {m : Nat}, toB f m = true → k < m → f k = true
 | m + 1, h, hk => by
  simp only [toB, Bool.and_eq_true] at h
  by_cases e : k = m
  ·subst e; exact h.2
  ·exact toB_at h.1 (by omega)
theorem toB_same {f g : Nat → Bool} : ∀ {m : Nat}, (∀ k, k < m → toB f k = true → f k = g k) → toB f m = toB g m
 | 0, _ => rfl
 | m + 1, h => by
  have ih := toB_same (f := f) (g := g) (m := m) fun k hk => h k (by omega)
  unfold toB
  cases hf : toB f m
  ·rw [← ih, hf]; rfl
  ·rw [← ih, hf, h m (by omega) hf]

def litsB (xs : List Int) (n : Int) : Bool := decide (xs.length ≤ 20) && xs.all (fun l => litB l n)
def levLitB (n : Int) (q : Int × Int) : Bool := litB q.1 n && btwB q.2 (-1000) 1000
def levelB (n : Int) (ls : List LevelD) (k : Nat) : Bool := btwB (nth ls k).p (-100000) 100000 && decide (k = 0 ∨ (nth ls (k - 1)).p < (nth ls k).p) && (decide ((nth ls k).lits.length ≤ 20) && (nth ls k).lits.all (levLitB n))
def levelsB (ls : List LevelD) (n : Int) : Bool := decide (ls.length ≤ 6) && toB (levelB n ls) ls.length
def byteB (c : UInt8) : Bool := btwB (c.toNat : Int) 33 126
def showB (n : Int) (s : ShowD) : Bool := btwB (s.text.size : Int) 1 20 && s.text.data.toList.all byteB && litsB s.cond n
def showsB (ss : List ShowD) (n : Int) : Bool := decide (ss.length ≤ 20) && ss.all (showB n)
def extB (n : Int) (es : List (Int × Int)) (k : Nat) : Bool := btwB (nth es k).1 1 n && decide (k = 0 ∨ (nth es (k - 1)).1 < (nth es k).1) && btwB (nth es k).2 0 2
def extsB (es : List (Int × Int)) (n : Int) : Bool := decide (es.length ≤ 12) && toB (extB n es) es.length
def projB (p : ProgD) : Bool := setOkB p.project p.atoms && (p.projOn || p.project.length == 0)
def rulesB (rs : List RuleD) (n : Int) : Bool := decide (rs.length ≤ 60) && rs.all (fun r => ruleOkB r n)
def progOkB (p : ProgD) : Bool := btwB p.atoms 0 12 && (rulesB p.rules p.atoms && (levelsB p.levels p.atoms && (projB p && (showsB p.shows p.atoms && (extsB p.exts p.atoms && litsB p.assume p.atoms)))))

/-! ### the code's own words -/
def litsI (xs : List Int) (n : Int) : Bool := decide (xs.length ≤ 20) && xs.all (fun l => btwB (atomI l) 1 n)
theorem litsI_A {xs : List Int} {n : Int} (h : 20 < xs.length) : litsI xs n = false := by
 have : decide (xs.length ≤ 20) = false := decide_eq_false (by omega)
 simp only [litsI, this, Bool.false_and]
theorem litsI_B {xs : List Int} {n : Int} (h : xs.length ≤ 20) : litsI xs n = xs.all (fun l => btwB (atomI l) 1 n) := by simp only [litsI, decide_eq_true h, Bool.true_and]
theorem lits_same {xs : List Int} {n : Int} (hf : ∀ l ∈ xs, Fits l) (h0 : 0 ≤ n) (h1 : n ≤ 12) : litsI xs n = litsB xs n := by
 unfold litsI litsB
 rw [all_congr fun l hl => lit_same (hf l hl) h0 h1]

def leastOf (ls : List LevelD) (k : Nat) : Int := if k = 0 then -100000 else (nth ls (k - 1)).p + 1
theorem leastOf_succ (ls : List LevelD) (k : Nat) : leastOf ls (k + 1) = (nth ls k).p + 1 := by simp [leastOf]
def levelI (n : Int) (ls : List LevelD) (k : Nat) : Bool := btwB (nth ls k).p (leastOf ls k) 100000 && weighedB (nth ls k).lits n (-1000) 1000
theorem levelI_A {n : Int} {ls : List LevelD} {k : Nat} (h : btwB (nth ls k).p (leastOf ls k) 100000 = false) : levelI n ls k = false := by simp only [levelI, h, Bool.false_and]
theorem levelI_B {n : Int} {ls : List LevelD} {k : Nat} (h : btwB (nth ls k).p (leastOf ls k) 100000 = true) : levelI n ls k = weighedB (nth ls k).lits n (-1000) 1000 := by simp only [levelI, h, Bool.true_and]
def levelsI (ls : List LevelD) (n : Int) : Bool := decide (ls.length ≤ 6) && toB (levelI n ls) ls.length
theorem levelsI_A {ls : List LevelD} {n : Int} (h : 6 < ls.length) : levelsI ls n = false := by
 have : decide (ls.length ≤ 6) = false := decide_eq_false (by omega)
 simp only [levelsI, this, Bool.false_and]
theorem levelsI_B {ls : List LevelD} {n : Int} (h : ls.length ≤ 6) : levelsI ls n = toB (levelI n ls) ls.length := by simp only [levelsI, decide_eq_true h, Bool.true_and]
theorem levels_same {ls : List LevelD} {n : Int} (hf : ∀ l ∈ ls, ∀ p ∈ l.lits, Fits p.1 ∧ Fits p.2) (h0 : 0 ≤ n) (h1 : n ≤ 12) : levelsI ls n = levelsB ls n := by
 unfold levelsI levelsB
 congr 1
 refine toB_same fun k hk ht => ?_
 have e1 : weighedB (nth ls k).lits n (-1000) 1000 = (decide ((nth ls k).lits.length ≤ 20) && (nth ls k).lits.all (levLitB n)) := by
  unfold weighedB
  rw [all_congr fun p hp => show wOkB n (-1000) 1000 p = levLitB n p by unfold wOkB levLitB; rw [lit_same (hf _ (nth_mem hk) p hp).1 h0 h1]]
 have e2 : btwB (nth ls k).p (leastOf ls k) 100000 = (btwB (nth ls k).p (-100000) 100000 && decide (k = 0 ∨ (nth ls (k - 1)).p < (nth ls k).p)) := by
  by_cases hz : k = 0
  ·subst hz; simp [leastOf]
  ·have hp := toB_at ht (show k - 1 < k by omega)
   simp only [levelI, Bool.and_eq_true, btwB, decide_eq_true_eq] at hp
   have hl : -100000 ≤ leastOf ls (k - 1) := by
    unfold leastOf
    split
    ·omega
    ·have hq := toB_at ht (show k - 1 - 1 < k by omega)
     have : ∀ m, m < k → -100000 ≤ leastOf ls m := by
      intro m
      induction m with
      | zero => intro _; simp [leastOf]
      | succ m ih =>
       intro hm
       have := toB_at ht (show m < k by omega)
       simp only [levelI, Bool.and_eq_true, btwB, decide_eq_true_eq] at this
       rw [leastOf_succ]
       have := ih (by omega)
       omega
     have := this (k - 1) (by omega)
     unfold leastOf at this
     rw [if_neg (by assumption)] at this
     exact this
   rw [Bool.eq_iff_iff]
   simp only [btwB, Bool.and_eq_true, decide_eq_true_eq]
   have e3 : leastOf ls k = (nth ls (k - 1)).p + 1 := by unfold leastOf; rw [if_neg hz]
   rw [e3]
   omega
 unfold levelI levelB
 rw [e1, e2]

def showI (n : Int) (s : ShowD) : Bool := btwB (s.text.size : Int) 1 20 && s.text.data.toList.all byteB && litsI s.cond n
def showsI (ss : List ShowD) (n : Int) : Bool := decide (ss.length ≤ 20) && ss.all (showI n)
theorem showsI_A {ss : List ShowD} {n : Int} (h : 20 < ss.length) : showsI ss n = false := by
 have : decide (ss.length ≤ 20) = false := decide_eq_false (by omega)
 simp only [showsI, this, Bool.false_and]
theorem showsI_B {ss : List ShowD} {n : Int} (h : ss.length ≤ 20) : showsI ss n = ss.all (showI n) := by simp only [showsI, decide_eq_true h, Bool.true_and]
theorem shows_same {ss : List ShowD} {n : Int} (hf : ∀ s ∈ ss, ∀ l ∈ s.cond, Fits l) (h0 : 0 ≤ n) (h1 : n ≤ 12) : showsI ss n = showsB ss n := by
 unfold showsI showsB
 rw [all_congr fun s hs => show showI n s = showB n s by unfold showI showB; rw [lits_same (hf s hs) h0 h1]]

def leastE (es : List (Int × Int)) (k : Nat) : Int := if k = 0 then 1 else (nth es (k - 1)).1 + 1
theorem leastE_succ (es : List (Int × Int)) (k : Nat) : leastE es (k + 1) = (nth es k).1 + 1 := by simp [leastE]
def extI (n : Int) (es : List (Int × Int)) (k : Nat) : Bool := btwB (nth es k).1 (leastE es k) n && btwB (nth es k).2 0 2
theorem extI_A {n : Int} {es : List (Int × Int)} {k : Nat} (h : btwB (nth es k).1 (leastE es k) n = false) : extI n es k = false := by simp only [extI, h, Bool.false_and]
theorem extI_B {n : Int} {es : List (Int × Int)} {k : Nat} (h : btwB (nth es k).1 (leastE es k) n = true) : extI n es k = btwB (nth es k).2 0 2 := by simp only [extI, h, Bool.true_and]
theorem extI_ge {n : Int} {es : List (Int × Int)} : ∀ {k : Nat}, toB (extI n es) k = true → (k : Int) + 1 ≤ leastE es k
 | 0, _ => by simp [leastE]
 | k + 1, h => by
  simp only [toB, Bool.and_eq_true] at h
  have ih := extI_ge h.1
  have := h.2
  simp only [extI, Bool.and_eq_true, btwB, decide_eq_true_eq] at this
  rw [leastE_succ]
  omega
theorem exts_same {es : List (Int × Int)} {n : Int} (h1 : n ≤ 12) : toB (extI n es) es.length = extsB es n := by
 have e : toB (extI n es) es.length = toB (extB n es) es.length := by
  refine toB_same fun k hk ht => ?_
  have hg := extI_ge ht
  unfold extI extB
  congr 1
  rw [Bool.eq_iff_iff]
  simp only [btwB, Bool.and_eq_true, decide_eq_true_eq]
  by_cases hz : k = 0
  ·subst hz; simp [leastE]
  ·have e3 : leastE es k = (nth es (k - 1)).1 + 1 := by unfold leastE; rw [if_neg hz]
   rw [e3] at hg ⊢
   omega
 unfold extsB
 rw [← e]
 cases ht : toB (extI n es) es.length
 ·simp
 ·have hg := extI_ge ht
  have hl : es.length ≤ 12 := by
   rcases Nat.eq_zero_or_pos es.length with h0 | h0
   ·omega
   ·have hp := toB_at ht (show es.length - 1 < es.length by omega)
    simp only [extI, Bool.and_eq_true, btwB, decide_eq_true_eq] at hp
    have e3 : leastE es es.length = (nth es (es.length - 1)).1 + 1 := by unfold leastE; rw [if_neg (by omega)]
    rw [e3] at hg
    omega
  simp [hl]

theorem rulesI_A {rs : List RuleD} {n : Int} (h : 60 < rs.length) : rulesB rs n = false := by
 have : decide (rs.length ≤ 60) = false := decide_eq_false (by omega)
 simp only [rulesB, this, Bool.false_and]
theorem rulesI_B {rs : List RuleD} {n : Int} (h : rs.length ≤ 60) : rulesB rs n = rs.all (fun r => ruleOkB r n) := by simp only [rulesB, decide_eq_true h, Bool.true_and]

theorem rd_ints {w : World} {cs : List Value} {xs : List Int} (h : RdL w cs xs) : ∀ l ∈ xs, Fits l := by
 obtain ⟨a, cap, rfl, _, _, h⟩ := h
 exact h.ints.2.1
theorem rd_levels {w : World} {cs : List Value} {ls : List LevelD} (h : RdL w cs ls) : ∀ l ∈ ls, ∀ p ∈ l.lits, Fits p.1 ∧ Fits p.2 := by
 obtain ⟨a, cap, rfl, _, _, _, h⟩ := h
 intro l hl
 obtain ⟨i, hi, rfl⟩ := List.getElem_of_mem hl
 obtain ⟨_, _, _, _, _, c1, _, _, hr⟩ := h i hi
 rw [nth_eq hi] at hr
 exact rd_pairs hr
theorem rd_shows {w : World} {cs : List Value} {ls : List ShowD} (h : RdL w cs ls) : ∀ s ∈ ls, ∀ l ∈ s.cond, Fits l := by
 obtain ⟨a, cap, rfl, _, _, _, h⟩ := h
 intro l hl
 obtain ⟨i, hi, rfl⟩ := List.getElem_of_mem hl
 obtain ⟨_, _, _, _, _, c1, _, _, hr⟩ := h i hi
 rw [nth_eq hi] at hr
 exact rd_ints hr

end Go.Proofs.YthikhkeofcjdfaaGreat
