/-
 Fold: what it answers. No condition of its own.
-/
import Derived.Test.YthikhkeofcjdfaaGreatBothI
namespace Go.Proofs.YthikhkeofcjdfaaGreat
set_option linter.unusedVariables false
set_option linter.unusedSimpArgs false
open Go.RowKit
set_option maxRecDepth 100000

/-- The heads of the first k rules: as a word, as a list. -/
def headsM (rs : List RuleD) : Nat → Nat
 | 0 => 0
 | k + 1 => headsM rs k ||| maskOf (nth rs k).heads
def headsL (rs : List RuleD) : Nat → List Int
 | 0 => []
 | k + 1 => pickTo (pickJ (headsL rs k) (nth rs k).heads) 12
theorem headsM_lt (rs : List RuleD) : ∀ k, headsM rs k < 4096
 | 0 => by simp [headsM]
 | k + 1 => Nat.or_lt_two_pow (n := 12) (headsM_lt rs k) (maskOf_lt _)
theorem hasM_out {m : Nat} {x : Int} (h : ¬ (1 ≤ x ∧ x ≤ 12)) : hasM m x = false := by unfold hasM; rw [bitN_out h]; simp
theorem hasB_pick (f : Int → Bool) (x : Int) : hasB (pickTo f 12) x = (decide (1 ≤ x ∧ x ≤ 12) && f x) := by
 unfold hasB
 rw [Bool.eq_iff_iff, decide_eq_true_eq, mem_pickTo, Bool.and_eq_true, decide_eq_true_eq]
 exact ⟨fun h => ⟨⟨h.1, h.2.1⟩, h.2.2⟩, fun h => ⟨h.1.1, h.1.2, h.2⟩⟩
theorem hasB_mask (m : Nat) (x : Int) : hasB (pickTo (hasM m) 12) x = hasM m x := by
 rw [hasB_pick]
 by_cases h : 1 ≤ x ∧ x ≤ 12
 ·rw [decide_eq_true h, Bool.true_and]
 ·rw [decide_eq_false h, hasM_out h, Bool.false_and]
theorem maskOf_pick {m : Nat} (hm : m < 4096) : maskOf (pickTo (hasM m) 12) = m := by
 rw [← num_same, sumTo_congr (g := hasM m) (n := 12) fun x _ _ => hasB_mask m x, sum_bits m 12 (by omega)]
 exact Nat.mod_eq_of_lt hm
theorem headsL_eq (rs : List RuleD) : ∀ k, headsL rs k = pickTo (hasM (headsM rs k)) 12
 | 0 => by
  show ([] : List Int) = pickTo (hasM 0) 12
  decide
 | k + 1 => by
  show pickTo (pickJ (headsL rs k) (nth rs k).heads) 12 = pickTo (hasM (headsM rs k ||| maskOf (nth rs k).heads)) 12
  rw [← join_same, headsL_eq rs k, maskOf_pick (headsM_lt rs k)]
theorem has_heads (rs : List RuleD) (k : Nat) (x : Int) : hasB (headsL rs k) x = hasM (headsM rs k) x := by rw [headsL_eq, hasB_mask]
theorem headsL_len (rs : List RuleD) (k : Nat) : (headsL rs k).length ≤ 12 := by rw [headsL_eq]; exact pickTo_len _ _

/-- An external atom of which a rule comes. -/
def keepB (rs : List RuleD) (e : Int × Int) : Bool := !hasB (headsL rs rs.length) e.1 && decide (e.2 < 2)
def keepI (rs : List RuleD) (e : Int × Int) : Bool := !(e.2 == 2) && !hasM (headsM rs rs.length) e.1
theorem keep_same {rs : List RuleD} {e : Int × Int} (h : 0 ≤ e.2 ∧ e.2 ≤ 2) : keepI rs e = keepB rs e := by
 unfold keepI keepB
 rw [has_heads, Bool.and_comm]
 congr 1
 rw [Bool.eq_iff_iff, decide_eq_true_eq, Bool.not_eq_true', beq_eq_false_iff_ne]
 omega
def extRule (e : Int × Int) : RuleD := ⟨e.2 == 0, [e.1], false, 0, []⟩
def extTo (rs : List RuleD) (es : List (Int × Int)) : Nat → List RuleD
 | 0 => []
 | k + 1 => if keepB rs (nth es k) then extTo rs es k ++ [extRule (nth es k)] else extTo rs es k
theorem extTo_yes {rs : List RuleD} {es : List (Int × Int)} {k : Nat} (h : keepB rs (nth es k) = true) : extTo rs es (k + 1) = extTo rs es k ++ [extRule (nth es k)] := by simp [extTo, h]
theorem extTo_no {rs : List RuleD} {es : List (Int × Int)} {k : Nat} (h : keepB rs (nth es k) = false) : extTo rs es (k + 1) = extTo rs es k := by simp [extTo, h]
theorem extTo_len (rs : List RuleD) (es : List (Int × Int)) : ∀ k, (extTo rs es k).length ≤ k
 | 0 => by simp [extTo]
 | k + 1 => by
  have := extTo_len rs es k
  unfold extTo
  split
  ·rw [List.length_append, List.length_singleton]; omega
  ·omega
theorem extTo_mem {rs : List RuleD} {es : List (Int × Int)} {r : RuleD} : ∀ {k : Nat}, r ∈ extTo rs es k → ∃ i, i < k ∧ r = extRule (nth es i)
 | 0, h => by simp [extTo] at h
 | k + 1, h => by
  unfold extTo at h
  split at h
  ·rcases List.mem_append.1 h with h | h
   ·obtain ⟨i, hi, e⟩ := extTo_mem h; exact ⟨i, by omega, e⟩
   ·exact ⟨k, by omega, by simpa using h⟩
  ·obtain ⟨i, hi, e⟩ := extTo_mem h; exact ⟨i, by omega, e⟩
def extR (p : ProgD) : List RuleD := extTo p.rules p.exts p.exts.length
def asmRule (l : Int) : RuleD := ⟨false, [], false, 0, [(-l, 1)]⟩
def asmTo (xs : List Int) (k : Nat) : List RuleD := (xs.take k).map asmRule
theorem asmTo_succ {xs : List Int} {k : Nat} (h : k < xs.length) : asmTo xs (k + 1) = asmTo xs k ++ [asmRule (nth xs k)] := by
 unfold asmTo; rw [take_nth h, List.map_append]; rfl
theorem asmTo_len {xs : List Int} {k : Nat} (h : k ≤ xs.length) : (asmTo xs k).length = k := by unfold asmTo; rw [List.length_map, List.length_take]; omega
def asmR (p : ProgD) : List RuleD := asmTo p.assume p.assume.length
theorem asmR_len (p : ProgD) : (asmR p).length = p.assume.length := asmTo_len (Nat.le_refl _)

def foldD (p : ProgD) : ProgD := { p with rules := (p.rules ++ extR p) ++ asmR p, exts := [], assume := [] }
def foldB (p : ProgD) : Bool := progOkB p && decide ((p.rules.length + (extR p).length) + p.assume.length ≤ 60)
def foldR (p : ProgD) : ProgD := if foldB p then foldD p else default
theorem foldB_no {p : ProgD} (h : progOkB p = false) : foldB p = false := by simp only [foldB, h, Bool.false_and]
theorem foldB_yes {p : ProgD} (h : progOkB p = true) : foldB p = decide ((p.rules.length + (extR p).length) + p.assume.length ≤ 60) := by simp only [foldB, h, Bool.true_and]
theorem foldR_no {p : ProgD} (h : foldB p = false) : foldR p = default := by simp [foldR, h]
theorem foldR_yes {p : ProgD} (h : foldB p = true) : foldR p = foldD p := by simp [foldR, h]

theorem progOk_ext {p : ProgD} (h : progOkB p = true) {k : Nat} (hk : k < p.exts.length) : (1 ≤ (nth p.exts k).1 ∧ (nth p.exts k).1 ≤ p.atoms) ∧ 0 ≤ (nth p.exts k).2 ∧ (nth p.exts k).2 ≤ 2 := by
 simp only [progOkB, extsB, Bool.and_eq_true] at h
 have := toB_at h.2.2.2.2.2.1.2 hk
 simp only [extB, Bool.and_eq_true, btwB, decide_eq_true_eq] at this
 exact ⟨this.1.1, this.2⟩
theorem progOk_exts_len {p : ProgD} (h : progOkB p = true) : p.exts.length ≤ 12 := by
 simp only [progOkB, extsB, Bool.and_eq_true, decide_eq_true_eq] at h
 exact h.2.2.2.2.2.1.1
theorem progOk_asm {p : ProgD} (h : progOkB p = true) : p.assume.length ≤ 20 ∧ ∀ l ∈ p.assume, litB l p.atoms = true := by
 simp only [progOkB, litsB, Bool.and_eq_true, decide_eq_true_eq, List.all_eq_true] at h
 exact h.2.2.2.2.2.2
theorem heads_one (c : Bool) (x : Int) : (if c then btwB (([x] : List Int).length : Int) 1 20 else decide ([x].length ≤ 1)) = true := by cases c <;> simp [btwB]
theorem extRule_ok {e : Int × Int} {n : Int} (h1 : 1 ≤ e.1 ∧ e.1 ≤ n) (hn : n ≤ 12) : ruleOkB (extRule e) n = true := by
 have hs : setOkB [e.1] n = true := by
  unfold setOkB
  rw [Bool.and_eq_true, decide_eq_true_eq]
  refine ⟨by omega, ?_⟩
  simp [okTo, okStep, el]
  omega
 simp only [ruleOkB, headsB, bodyB, extRule, hs, Bool.true_and, Bool.and_eq_true]
 exact ⟨heads_one (e.2 == 0) e.1, ⟨by simp, by simp [btwB]⟩, by simp⟩
theorem litB_neg {l n : Int} (h : litB l n = true) : litB (-l) n = true := by
 simp only [litB, btwB, Bool.or_eq_true, decide_eq_true_eq] at h ⊢
 omega
theorem asmRule_ok {l n : Int} (h : litB l n = true) (hn : n ≤ 12) : ruleOkB (asmRule l) n = true := by
 have h0 : 0 ≤ n := by
  simp only [litB, btwB, Bool.or_eq_true, decide_eq_true_eq] at h
  omega
 have hs : setOkB [] n = true := by
  unfold setOkB
  rw [Bool.and_eq_true, decide_eq_true_eq]
  exact ⟨by omega, rfl⟩
 simp only [ruleOkB, headsB, bodyB, asmRule, hs, Bool.true_and, Bool.and_eq_true, List.all_cons, List.all_nil, wlitB, litB_neg h]
 simp [btwB]
theorem foldD_ok {p : ProgD} (h : progOkB p = true) (hl : (p.rules.length + (extR p).length) + p.assume.length ≤ 60) : progOkB (foldD p) = true := by
 have ha := progOk_atoms h
 have hr := progOk_rules h
 have has := (progOk_asm h).2
 have hall : ((p.rules ++ extR p) ++ asmR p).all (fun r => ruleOkB r p.atoms) = true := by
  rw [List.all_eq_true]
  intro r hm
  rcases List.mem_append.1 hm with hm | hm
  ·rcases List.mem_append.1 hm with hm | hm
   ·exact hr.2 r hm
   ·obtain ⟨i, hi, rfl⟩ := extTo_mem hm
    exact extRule_ok (progOk_ext h hi).1 ha.2
  ·unfold asmR asmTo at hm
   obtain ⟨l, hl, rfl⟩ := List.mem_map.1 hm
   exact asmRule_ok (has l (List.mem_of_mem_take hl)) ha.2
 unfold progOkB at h ⊢
 simp only [Bool.and_eq_true] at h
 obtain ⟨b0, b1, b2, b3, b4, b5, b6⟩ := h
 show (btwB p.atoms 0 12 && (rulesB ((p.rules ++ extR p) ++ asmR p) p.atoms && (levelsB p.levels p.atoms && (projB (foldD p) && (showsB p.shows p.atoms && (extsB [] p.atoms && litsB [] p.atoms)))))) = true
 have b3' : projB (foldD p) = true := b3
 have e1 : extsB [] p.atoms = true := rfl
 have e2 : litsB [] p.atoms = true := rfl
 have e3 : rulesB ((p.rules ++ extR p) ++ asmR p) p.atoms = true := by
  simp only [rulesB, hall, Bool.and_true, List.length_append, asmR_len]
  exact decide_eq_true hl
 rw [b0, b2, b3', b4, e1, e2, e3]
 rfl
theorem foldR_ok {p : ProgD} (h : foldB p = true) : progOkB (foldD p) = true := by
 have hp : progOkB p = true := by simp only [foldB, Bool.and_eq_true] at h; exact h.1
 rw [foldB_yes hp, decide_eq_true_eq] at h
 exact foldD_ok hp h
end Go.Proofs.YthikhkeofcjdfaaGreat
