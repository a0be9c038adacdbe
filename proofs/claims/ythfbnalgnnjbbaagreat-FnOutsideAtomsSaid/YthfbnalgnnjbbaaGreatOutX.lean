/-
 An external atom that is free, true, false; laws.folds, room, has; a row of external atoms copied. No condition of its own.
-/
import Derived.Test.YthfbnalgnnjbbaaGreatAnsD
import Derived.Test.YthfbnalgnnjbbaaGreatAnsU
import Derived.Test.YthfbnalgnnjbbaaGreatLawsInts
import Derived.Test.YthfbnalgnnjbbaaGreatCopyL
namespace Go.Proofs.YthfbnalgnnjbbaaGreat
set_option linter.unusedVariables false
set_option linter.unusedSimpArgs false
open Go.RowKit
set_option maxRecDepth 100000

/-! ### OutF -/
theorem hasB_memO {xs : List Int} {a : Int} : hasB xs a = true ↔ a ∈ xs := by unfold hasB; exact decide_eq_true_iff
/-- Rules that let the same sets be closed make the same least set. -/
theorem least_same {rs rs' : List RuleD} {xs : List Int} (hw : Wts rs) (hw' : Wts rs') (h : ∀ c, IsP c → (Closed rs xs false c ↔ Closed rs' xs false c)) : leastL rs xs false = leastL rs' xs false :=
 least_isP.eq least_isP (least_min hw ((h _ least_isP).2 least_closed)) (least_min hw' ((h _ least_isP).1 least_closed))
theorem closed_app {A B : List RuleD} {xs c : List Int} : Closed (A ++ B) xs false c ↔ Closed A xs false c ∧ Closed B xs false c := by
 unfold Closed
 constructor
 ·intro h; exact ⟨fun r hr => h r (List.mem_append_left _ hr), fun r hr => h r (List.mem_append_right _ hr)⟩
 ·rintro ⟨h1, h2⟩ r hr
  rcases List.mem_append.1 hr with hr | hr
  ·exact h1 r hr
  ·exact h2 r hr
theorem closed_one {r : RuleD} {xs c : List Int} (hb : reachB r (h2B c xs) = true) : Closed [r] xs false c ↔ Sub (putL false xs r) c := by
 unfold Closed
 constructor
 ·intro h; exact h r (List.mem_singleton_self _) hb
 ·intro h r' hr' _
  rw [List.mem_singleton.1 hr']; exact h
theorem ext_reach (a v : Int) (g : Int × Int → Bool) : reachB (extRule (a, v)) g = true := rfl
/-- A program with another V for its first external atom. -/
def extD (p : ProgD) (v : Int) (e : Int × Int) (es : List (Int × Int)) : ProgD := { p with exts := (e.1, v) :: es }
theorem extTo_cons (rs : List RuleD) (e : Int × Int) (es : List (Int × Int)) : ∀ k, extTo rs (e :: es) (k + 1) = (if keepB rs e then [extRule e] else []) ++ extTo rs es k
 | 0 => by
  show (if keepB rs e then ([] : List RuleD) ++ [extRule e] else []) = _
  unfold extTo
  split <;> rfl
 | k + 1 => by
  have ih := extTo_cons rs e es k
  have e1 : nth (e :: es) (k + 1) = nth es k := rfl
  cases hk : keepB rs (nth es k)
  ·rw [extTo_no (es := e :: es) (by rw [e1]; exact hk), ih, extTo_no hk]
  ·rw [extTo_yes (es := e :: es) (by rw [e1]; exact hk), ih, extTo_yes hk, e1, List.append_assoc]
section
variable {p : ProgD} {e : Int × Int} {es : List (Int × Int)} {v : Int}
/-- The rules of the others, and of what is assumed. -/
def restR (p : ProgD) (es : List (Int × Int)) : List RuleD := extTo p.rules es es.length ++ asmR p
def firstR (p : ProgD) (a v : Int) : List RuleD := if keepB p.rules (a, v) then [extRule (a, v)] else []
theorem ext_rules : (foldD (extD p v e es)).rules = p.rules ++ (firstR p e.1 v ++ restR p es) := by
 show (p.rules ++ extTo p.rules ((e.1, v) :: es) (es.length + 1)) ++ asmR (extD p v e es) = _
 rw [extTo_cons, show asmR (extD p v e es) = asmR p from rfl]
 unfold firstR restR
 rw [List.append_assoc, List.append_assoc]
theorem ext_okp (h : progOkB p = true) (he : p.exts = e :: es) (hv : 0 ≤ v ∧ v ≤ 2) : progOkB (extD p v e es) = true := by
 unfold progOkB at h ⊢
 simp only [Bool.and_eq_true] at h ⊢
 refine ⟨h.1, h.2.1, h.2.2.1, h.2.2.2.1, h.2.2.2.2.1, ?_, h.2.2.2.2.2.2⟩
 have h6 := h.2.2.2.2.2.1
 rw [he] at h6
 show extsB ((e.1, v) :: es) p.atoms = true
 simp only [extsB, Bool.and_eq_true, decide_eq_true_eq] at h6 ⊢
 refine ⟨h6.1, ?_⟩
 have h7 : ∀ m, m ≤ es.length + 1 → toB (extB p.atoms ((e.1, v) :: es)) m = true := by
  intro m
  induction m with
  | zero => intro _; rfl
  | succ m ih =>
   intro hm
   refine toB_yes (ih (by omega)) ?_
   have h8 := toB_at (k := m) h6.2 (by show m < es.length + 1; omega)
   cases m with
   | zero =>
    simp only [extB, Bool.and_eq_true, btwB, decide_eq_true_eq] at h8 ⊢
    exact ⟨⟨h8.1.1, .inl trivial⟩, hv⟩
   | succ m =>
    have e1 : nth ((e.1, v) :: es) (m + 1) = nth (e :: es) (m + 1) := rfl
    have e2 : (nth ((e.1, v) :: es) m).1 = (nth (e :: es) m).1 := by cases m <;> rfl
    simp only [extB, Bool.and_eq_true, btwB, decide_eq_true_eq, Nat.add_sub_cancel, e1, e2] at h8 ⊢
    exact h8
 exact h7 (es.length + 1) (Nat.le_refl _)
theorem ext_okf (h : progOkB p = true) (he : p.exts = e :: es) (hv : 0 ≤ v ∧ v ≤ 2) (hr : p.rules.length + p.exts.length + p.assume.length ≤ 60) : foldB (extD p v e es) = true := by
 rw [foldB_yes (ext_okp h he hv), decide_eq_true_eq]
 have h1 : (extR (extD p v e es)).length ≤ (extD p v e es).exts.length := extTo_len _ _ _
 have h2 : (extD p v e es).exts.length = p.exts.length := by rw [he]; rfl
 show p.rules.length + (extR (extD p v e es)).length + p.assume.length ≤ 60
 omega
end
section
variable {p : ProgD} {e : Int × Int} {es : List (Int × Int)} {x : List Int}
theorem ext_model {v : Int} (hok : progOkB (foldD (extD p v e es)) = true) : modelB (foldD (extD p v e es)) x = (p.rules.all (ruleHoldsB x) && ((firstR p e.1 v).all (ruleHoldsB x) && (restR p es).all (ruleHoldsB x))) := by
 rw [modelB_yes hok, ext_rules, List.all_append, List.all_append]
theorem fact_holds {a v : Int} (ha : 1 ≤ a ∧ a ≤ 12) (hv : v ≠ 0) : ruleHoldsB x (extRule (a, v)) = hasB x a := by
 have hok : ruleOkB (extRule (a, v)) 12 = true := extRule_ok ha (by omega)
 have hb : bodyHoldsB (extRule (a, v)) x = true := by rw [bodyHoldsB_yes hok]; rfl
 have hc : (extRule (a, v)).choice = false := beq_eq_false_iff_ne.2 hv
 unfold ruleHoldsB
 rw [hb, hc]
 have hm : hasB (meetB (extRule (a, v)) x) a = hasB x a := by
  unfold meetB
  rw [hasB_meet ha, show hasB (extRule (a, v)).heads a = true from hasB_memO.2 (List.mem_singleton_self _), Bool.true_and]
 cases hx : hasB x a
 ·have : meetB (extRule (a, v)) x = [] := by
   rw [List.eq_nil_iff_forall_not_mem]
   intro b hb'
   have h1 : b ∈ pickTo (pickM (extRule (a, v)).heads x) 12 := hb'
   have h2 := (mem_pickTo _ _ _).1 h1
   have h3 := hasB_memO.2 h1
   rw [hasB_meet ⟨by omega, by omega⟩, Bool.and_eq_true] at h3
   have h4 : b = a := List.mem_singleton.1 (hasB_memO.1 h3.1)
   rw [h4, hx] at h3
   cases h3.2
  rw [this]; rfl
 ·rw [hx] at hm
  have hne : (meetB (extRule (a, v)) x).length ≠ 0 := fun hz => by
   rw [List.eq_nil_of_length_eq_zero hz, hasB_nil] at hm
   cases hm
  have : (((meetB (extRule (a, v)) x).length : Int) == 0) = false := beq_eq_false_iff_ne.2 (by omega)
  rw [this]; rfl
theorem choice_holds {a : Int} : ruleHoldsB x (extRule (a, 0)) = true := ruleHolds_A rfl
theorem ext_closed {v : Int} {c : List Int} : Closed (foldD (extD p v e es)).rules x false c ↔ Closed p.rules x false c ∧ Closed (firstR p e.1 v) x false c ∧ Closed (restR p es) x false c := by
 rw [ext_rules, closed_app, closed_app]
theorem put_ext {a v : Int} (ha : 1 ≤ a ∧ a ≤ 12) {b : Int} (hb : 1 ≤ b ∧ b ≤ 12) : hasB (putL false x (extRule (a, v))) b = (decide (b = a) && (decide (v ≠ 0) || hasB x a)) := by
 have hs : hasB [a] b = decide (b = a) := by unfold hasB; rw [decide_eq_decide, List.mem_singleton]
 by_cases hv : v = 0
 ·rw [putL_T (by show ((v == 0) || false) = true; rw [hv]; rfl), hasB_meet hb]
  show (hasB [a] b && hasB x b) = _
  rw [hs, decide_eq_false (show ¬ v ≠ 0 from fun k => k hv), Bool.false_or]
  by_cases hba : b = a
  ·rw [hba]
  ·rw [decide_eq_false hba]; rfl
 ·rw [putL_F (by show ((v == 0) || false) = false; rw [beq_eq_false_iff_ne.2 hv]; rfl)]
  show hasB [a] b = _
  rw [hs, decide_eq_true hv, Bool.true_or, Bool.and_true]
/-- With the atom in the set, free and true are the same. -/
theorem ext_in (h0 : foldB (extD p 0 e es) = true) (h1 : foldB (extD p 1 e es) = true) (ha : 1 ≤ e.1 ∧ e.1 ≤ 12) (hx : hasB x e.1 = true) : ansB (foldD (extD p 0 e es)) x = ansB (foldD (extD p 1 e es)) x := by
 have k0 := foldR_ok h0
 have k1 := foldR_ok h1
 have hm : modelB (foldD (extD p 0 e es)) x = modelB (foldD (extD p 1 e es)) x := by
  rw [ext_model k0, ext_model k1]
  have : (firstR p e.1 0).all (ruleHoldsB x) = (firstR p e.1 1).all (ruleHoldsB x) := by
   unfold firstR keepB
   cases hasB (headsL p.rules p.rules.length) e.1
   ·show [extRule (e.1, 0)].all (ruleHoldsB x) = [extRule (e.1, 1)].all (ruleHoldsB x)
    simp only [List.all_cons, List.all_nil, Bool.and_true]
    rw [choice_holds, fact_holds ha (by omega), hx]
   ·rfl
  rw [this]
 have hl : leastL (foldD (extD p 0 e es)).rules x false = leastL (foldD (extD p 1 e es)).rules x false := by
  refine least_same (foldD_wts h0) (foldD_wts h1) fun c _ => ?_
  rw [ext_closed, ext_closed]
  have : Closed (firstR p e.1 0) x false c ↔ Closed (firstR p e.1 1) x false c := by
   unfold firstR keepB
   cases hasB (headsL p.rules p.rules.length) e.1
   ·show Closed [extRule (e.1, 0)] x false c ↔ Closed [extRule (e.1, 1)] x false c
    rw [closed_one (ext_reach _ _ _), closed_one (ext_reach _ _ _)]
    unfold Sub
    constructor
    ·intro h b b1 b2 hb
     refine h b b1 b2 ?_
     rw [put_ext ha ⟨b1, b2⟩] at hb ⊢
     rw [hx, Bool.or_true, Bool.and_true]
     rw [Bool.and_eq_true] at hb
     exact hb.1
    ·intro h b b1 b2 hb
     refine h b b1 b2 ?_
     rw [put_ext ha ⟨b1, b2⟩] at hb ⊢
     rw [hx, Bool.or_true, Bool.and_true]
     rw [Bool.and_eq_true] at hb
     exact hb.1
   ·exact Iff.rfl
  rw [this]
 unfold ansB
 rw [hm, hl]
 rfl
/-- With the atom out of the set, free and false are the same. -/
theorem ext_out (h0 : foldB (extD p 0 e es) = true) (h2 : foldB (extD p 2 e es) = true) (ha : 1 ≤ e.1 ∧ e.1 ≤ 12) (hx : hasB x e.1 = false) : ansB (foldD (extD p 0 e es)) x = ansB (foldD (extD p 2 e es)) x := by
 have k0 := foldR_ok h0
 have k2 := foldR_ok h2
 have e2 : firstR p e.1 2 = [] := by
  unfold firstR keepB
  rw [show (decide (((e.1, (2 : Int)) : Int × Int).2 < 2)) = false from rfl, Bool.and_false]
  rfl
 have hm : modelB (foldD (extD p 0 e es)) x = modelB (foldD (extD p 2 e es)) x := by
  rw [ext_model k0, ext_model k2, e2]
  have : (firstR p e.1 0).all (ruleHoldsB x) = true := by
   unfold firstR
   split
   ·show [extRule (e.1, 0)].all (ruleHoldsB x) = true
    simp only [List.all_cons, List.all_nil, Bool.and_true]
    exact choice_holds
   ·rfl
  rw [this]
  rfl
 have hl : leastL (foldD (extD p 0 e es)).rules x false = leastL (foldD (extD p 2 e es)).rules x false := by
  refine least_same (foldD_wts h0) (foldD_wts h2) fun c _ => ?_
  rw [ext_closed, ext_closed, e2]
  have h3 : Closed [] x false c := fun r hr => by cases hr
  have h4 : Closed (firstR p e.1 0) x false c := by
   unfold firstR
   split
   ·show Closed [extRule (e.1, 0)] x false c
    rw [closed_one (ext_reach _ _ _)]
    intro b b1 b2 hb
    rw [put_ext ha ⟨b1, b2⟩, hx] at hb
    simp at hb
   ·exact h3
  exact ⟨fun h => ⟨h.1, h3, h.2.2⟩, fun h => ⟨h.1, h4, h.2.2⟩⟩
 unfold ansB
 rw [hm, hl]
 rfl
theorem put_heads {r : RuleD} {c : List Int} {a : Int} (ha : 1 ≤ a ∧ a ≤ 12) (h : hasB (putL false c r) a = true) : hasB r.heads a = true := by
 cases hc : r.choice
 ·rw [putL_F (by rw [hc]; rfl)] at h; exact h
 ·rw [putL_T (by rw [hc]; rfl), hasB_meet ha, Bool.and_eq_true] at h; exact h.1
theorem least_no {rs : List RuleD} {a : Int} (ha : 1 ≤ a ∧ a ≤ 12) (h : ∀ r ∈ rs, hasB r.heads a = false) : hasB (leastL rs x false) a = false := by
 have key : ∀ n, hasB (iterL rs x false n) a = false := by
  intro n
  induction n with
  | zero => exact hasB_nil a
  | succ n ih =>
   cases hh : hasB (iterL rs x false (n + 1)) a
   ·rfl
   ·rcases (stepTo_has (s := iterL rs x false n) ha.1 ha.2 rs.length).1 hh with h1 | ⟨i, hi, _, h3⟩
    ·rw [ih] at h1; cases h1
    ·have := put_heads ha h3
     rw [h _ (nth_mem hi)] at this
     cases this
 exact key 13
theorem heads_no {rs : List RuleD} {a : Int} (ha : 1 ≤ a ∧ a ≤ 12) : ∀ {k : Nat}, hasB (headsL rs k) a = false → ∀ i, i < k → hasB (nth rs i).heads a = false
 | 0, _, _, hi => absurd hi (by omega)
 | k + 1, h, i, hi => by
  rw [has_heads, show headsM rs (k + 1) = headsM rs k ||| maskOf (nth rs k).heads from rfl, hasM_bit _ _ ha, Nat.testBit_or, Bool.or_eq_false_iff, ← hasM_bit _ _ ha, ← hasM_bit _ _ ha, hasM_maskOf _ _ ha, ← has_heads] at h
  rcases Nat.lt_or_ge i k with hik | hik
  ·exact heads_no ha h.1 i hik
  ·obtain rfl : i = k := by omega
   exact h.2
theorem exts_up {n : Int} (h : extsB (e :: es) n = true) : ∀ k, k < es.length → e.1 < (nth es k).1
 | 0, hk => by
  simp only [extsB, Bool.and_eq_true] at h
  have h8 := toB_at (k := 1) h.2 (by show 1 < es.length + 1; omega)
  simp only [extB, Bool.and_eq_true, btwB, decide_eq_true_eq] at h8
  have e1 : nth (e :: es) 1 = nth es 0 := rfl
  have e2 : nth (e :: es) (1 - 1) = e := rfl
  rw [e1, e2] at h8
  have := h8.1.2
  omega
 | k + 1, hk => by
  have ih := exts_up h k (by omega)
  simp only [extsB, Bool.and_eq_true] at h
  have h8 := toB_at (k := k + 2) h.2 (by show k + 2 < es.length + 1; omega)
  simp only [extB, Bool.and_eq_true, btwB, decide_eq_true_eq] at h8
  have e1 : nth (e :: es) (k + 2) = nth es (k + 1) := rfl
  have e2 : nth (e :: es) (k + 2 - 1) = nth es k := rfl
  rw [e1, e2] at h8
  have := h8.1.2
  omega
theorem rest_no (hp : progOkB p = true) (he : p.exts = e :: es) : ∀ r ∈ restR p es, hasB r.heads e.1 = false := by
 intro r hr
 have hx : extsB (e :: es) p.atoms = true := by
  unfold progOkB at hp
  simp only [Bool.and_eq_true] at hp
  rw [← he]; exact hp.2.2.2.2.2.1
 unfold restR at hr
 rcases List.mem_append.1 hr with hr | hr
 ·obtain ⟨i, hi, rfl⟩ := extTo_mem hr
  have := exts_up hx i hi
  show hasB [(nth es i).1] e.1 = false
  unfold hasB
  rw [decide_eq_false_iff_not, List.mem_singleton]
  omega
 ·unfold asmR asmTo at hr
  obtain ⟨l, _, rfl⟩ := List.mem_map.1 hr
  exact hasB_nil _
theorem ext_head {v u : Int} (h : hasB (headsL p.rules p.rules.length) e.1 = true) : ansB (foldD (extD p v e es)) x = ansB (foldD (extD p u e es)) x := by
 have e1 : ∀ v, firstR p e.1 v = [] := fun v => by
  unfold firstR keepB
  rw [h]; rfl
 have e2 : foldD (extD p v e es) = foldD (extD p u e es) := by
  have e3 : (foldD (extD p v e es)).rules = (foldD (extD p u e es)).rules := by rw [ext_rules, ext_rules, e1, e1]
  unfold foldD at e3 ⊢
  simp only at e3
  rw [e3]
  rfl
 rw [e2]
theorem ans_parts {q : ProgD} {x : List Int} (h : ansB q x = true) : modelB q x = true ∧ leastL q.rules x false = x := by
 have : setOkB x q.atoms = true ∧ modelB q x = true ∧ leastL q.rules x false = x := by simpa only [ansB, Bool.and_eq_true, decide_eq_true_eq] using h
 exact this.2
/-- What is an answer with the atom true, or false, is one with it free. -/
theorem ext_back (hp : progOkB p = true) (he : p.exts = e :: es) (h : ∀ v : Int, 0 ≤ v ∧ v ≤ 2 → foldB (extD p v e es) = true) {v : Int} (hv : v = 1 ∨ v = 2) (hx : ansB (foldD (extD p v e es)) x = true) : ansB (foldD (extD p 0 e es)) x = true := by
 have ha : 1 ≤ e.1 ∧ e.1 ≤ 12 := by
  have := (progOk_ext hp (k := 0) (by rw [he]; exact Nat.succ_pos _)).1
  have e0 : nth p.exts 0 = e := by rw [he]; rfl
  rw [e0] at this
  have := (progOk_atoms hp).2
  omega
 cases hh : hasB (headsL p.rules p.rules.length) e.1
 ·rcases hv with rfl | rfl
  ·have hin : hasB x e.1 = true := by
    have h1 := (ans_parts hx).1
    rw [ext_model (foldR_ok (h 1 (by omega))), Bool.and_eq_true, Bool.and_eq_true] at h1
    have h2 := h1.2.1
    have e1 : firstR p e.1 1 = [extRule (e.1, 1)] := by
     unfold firstR keepB
     rw [hh]; rfl
    rw [e1] at h2
    simp only [List.all_cons, List.all_nil, Bool.and_true] at h2
    rwa [fact_holds ha (by omega)] at h2
   rw [ext_in (h 0 (by omega)) (h 1 (by omega)) ha hin]
   exact hx
  ·have hout : hasB x e.1 = false := by
    have h1 := (ans_parts hx).2
    rw [← h1]
    refine least_no ha fun r hr => ?_
    rw [ext_rules] at hr
    rcases List.mem_append.1 hr with hr | hr
    ·obtain ⟨i, hi, rfl⟩ := List.getElem_of_mem hr
     rw [← nth_eq hi]
     exact heads_no ha hh i hi
    ·have e2 : firstR p e.1 2 = [] := by
      unfold firstR keepB
      rw [show (decide (((e.1, (2 : Int)) : Int × Int).2 < 2)) = false from rfl, Bool.and_false]
      rfl
     rw [e2] at hr
     exact rest_no hp he r hr
   rw [ext_out (h 0 (by omega)) (h 2 (by omega)) ha hout]
   exact hx
 ·rw [ext_head (u := v) hh]; exact hx
/-- What is an answer with the atom free is one with it true, or with it false. -/
theorem ext_forth (hp : progOkB p = true) (he : p.exts = e :: es) (h : ∀ v : Int, 0 ≤ v ∧ v ≤ 2 → foldB (extD p v e es) = true) (hx : ansB (foldD (extD p 0 e es)) x = true) : ansB (foldD (extD p 1 e es)) x = true ∨ ansB (foldD (extD p 2 e es)) x = true := by
 have ha : 1 ≤ e.1 ∧ e.1 ≤ 12 := by
  have := (progOk_ext hp (k := 0) (by rw [he]; exact Nat.succ_pos _)).1
  have e0 : nth p.exts 0 = e := by rw [he]; rfl
  rw [e0] at this
  have := (progOk_atoms hp).2
  omega
 cases hh : hasB x e.1
 ·right
  rw [← ext_out (h 0 (by omega)) (h 2 (by omega)) ha hh]; exact hx
 ·left
  rw [← ext_in (h 0 (by omega)) (h 1 (by omega)) ha hh]; exact hx
theorem mem_ext {v : Int} (h : foldB (extD p v e es) = true) {x : List Int} : x ∈ answersL (extD p v e es) ↔ ∃ k, k < 2 ^ p.atoms.toNat ∧ x = setN k ∧ ansB (foldD (extD p v e es)) (setN k) = true := by
 rw [answersL_yes h, mem_ansTo]
 exact Iff.rfl
theorem ext_law {p : ProgD} (hp : progOkB p = true) (he : p.exts = e :: es) (hr : p.rules.length + p.exts.length + p.assume.length ≤ 60) :
  (∀ x ∈ answersL (extD p 0 e es), x ∈ answersL (extD p 1 e es) ∨ x ∈ answersL (extD p 2 e es)) ∧ (∀ x ∈ answersL (extD p 1 e es), x ∈ answersL (extD p 0 e es)) ∧ ∀ x ∈ answersL (extD p 2 e es), x ∈ answersL (extD p 0 e es) := by
 have h : ∀ v : Int, 0 ≤ v ∧ v ≤ 2 → foldB (extD p v e es) = true := fun v hv => ext_okf hp he hv hr
 refine ⟨fun x hx => ?_, fun x hx => ?_, fun x hx => ?_⟩
 ·obtain ⟨k, hk, rfl, ha⟩ := (mem_ext (h 0 (by omega))).1 hx
  rcases ext_forth hp he h ha with h1 | h1
  ·exact .inl ((mem_ext (h 1 (by omega))).2 ⟨k, hk, rfl, h1⟩)
  ·exact .inr ((mem_ext (h 2 (by omega))).2 ⟨k, hk, rfl, h1⟩)
 ·obtain ⟨k, hk, rfl, ha⟩ := (mem_ext (h 1 (by omega))).1 hx
  exact (mem_ext (h 0 (by omega))).2 ⟨k, hk, rfl, ext_back hp he h (.inl rfl) ha⟩
 ·obtain ⟨k, hk, rfl, ha⟩ := (mem_ext (h 2 (by omega))).1 hx
  exact (mem_ext (h 0 (by omega))).2 ⟨k, hk, rfl, ext_back hp he h (.inr rfl) ha⟩
end

/-! ### OutL -/
theorem folds_calls {cs : List Value} {p : ProgD} {w : World} (h : Rd.R w cs p) :
  Calls Tryz.prog 43 #[.agg cs.toArray] w fun e w' => e = .returned (.bool (foldB p)) ∧ Below w.heap.size w w' := by
 obtain ⟨p0, p1, p2, p3, p4, p5, p6, p7, rfl⟩ := list8 (Rd.len h)
 have t0 : Below w.heap.size w (w.alloc (.cells #[p0, p1, p2, p3, p4, p5, p6, p7] 30)) := (Below.refl _ _).alloc (by simp) _
 go_enter Tryz.func43, Tryz.ntmps43
 go_wp2_with fail
 refine (specFold_calls (Rd.mono t0 h)).mono ?_
 rintro e w1 ⟨cs1, rfl, o1, b1⟩
 have l1 := Rd.one o1.rd
 obtain ⟨x0, x1, x2, x3, x4, x5, x6, x7, rfl⟩ := list8 (Rd.len o1.rd)
 have st0 := sto Tryz.prog (l1 x0 (by simp))
 have st1 := sto Tryz.prog (l1 x1 (by simp))
 have st2 := sto Tryz.prog (l1 x2 (by simp))
 have st3 := sto Tryz.prog (l1 x3 (by simp))
 have st4 := sto Tryz.prog (l1 x4 (by simp))
 have st5 := sto Tryz.prog (l1 x5 (by simp))
 have st6 := sto Tryz.prog (l1 x6 (by simp))
 have st7 := sto Tryz.prog (l1 x7 (by simp))
 have t1 := t0.step b1
 go_wp2
 go_ret
 exact ⟨rfl, by first | exact t1 | exact t1.alloc t1.size _⟩

theorem info_extL : (Tryz.prog.info? 67).map (fun i => (i.zero, i.size, i.bytes)) = some (some (.agg #[.int .i64 0, .int .i64 0]), 2, 16) := by kernel_rfl
/-- The row of external atoms copied: it is new but for its block, and its first V can be stored into. -/
theorem ext_copy {w : World} {c : Value} {e : Int × Int} {xs es : List (Int × Int)} {g : Nat} {ty : TypeId} (hh : w.heap[g]? = some (.cells #[] 67 (0, 0))) (hxs : xs = e :: es) (hr : RdL w [c] xs) (hl : es.length ≤ 100) :
  ∃ g' cap w', (Builtin.append_ #[28, 28] ty #[.slice (some ⟨g, 0, none⟩) 0 0, c]).run Tryz.prog w = .ok (.slice (some ⟨g', 0, none⟩) (es.length + 1) cap) w' ∧ (g' = g ∨ g' = w.heap.size) ∧ w.grownBy w' (some g) ∧
   (∃ u, w'.cell? ⟨g', 1, none⟩ = some u) ∧ w'.frozen? ⟨g', 1, none⟩ = false ∧ g' < w'.heap.size ∧ ∀ w2 : World, w2.heap[g']? = w'.heap[g']? → ∀ v : Int, Fits v → ∀ w3 : World, w3.heap[g']? = (w2.setCell ⟨g', 1, none⟩ (.int .i64 v)).heap[g']? → RdL w3 [.slice (some ⟨g', 0, none⟩) (es.length + 1) cap] ((e.1, v) :: es) := by
 subst hxs
 obtain ⟨ie, hie, he0, he1, he2⟩ := info_parts info_extL
 obtain ⟨v', w', F, r1, r2, r3, r4⟩ := run_append_lit (α := Int × Int) (P := Tryz.prog) (ty := ty) ie (.agg #[.int .i64 0, .int .i64 0]) 16 Tryz.underlying28 hie he0 he1 he2 rfl hh hr (by simp; omega) (by simp; omega)
 obtain ⟨a', cap, hv, hc1, hc2, hrow⟩ := r2
 simp only [List.cons.injEq, and_true] at hv
 subst hv
 rcases hrow with ⟨h0, _⟩ | ⟨g', t, cur, fps, rfl, hb, hcs, hfl, rfl, hnd, hx⟩
 ·cases h0
 ·have hsz : 2 ≤ cur.size := by
   have h1 : (e :: es).length * Rd.k (Int × Int) ≤ cap * Rd.k (Int × Int) := Nat.mul_le_mul_right _ hc1
   have h2 : Rd.k (Int × Int) = 2 := rfl
   simp only [List.length_cons, h2] at h1 hcs
   omega
  have hel : ∀ i, i < (e :: es).length → Cells w' g' (i * 2) [.int .i64 (nth (e :: es) i).1, .int .i64 (nth (e :: es) i).2] ∧ Fits (nth (e :: es) i).1 ∧ Fits (nth (e :: es) i).2 := fun i hi => by
   obtain ⟨ecs, hC, hO⟩ := hx i hi
   obtain ⟨rfl, hf⟩ : ecs = [.int .i64 (nth (e :: es) i).1, .int .i64 (nth (e :: es) i).2] ∧ Fits (nth (e :: es) i).1 ∧ Fits (nth (e :: es) i).2 := Ow.rd hO
   exact ⟨hC, hf⟩
  have hcur : ∀ j, w'.cell? ⟨g', j, none⟩ = cur[j]? := fun j => cell_of_row w' g' j cur t (0, 0) hb
  refine ⟨g', cap, w', r1, r3 g' (List.mem_cons_self ..), r4, ⟨cur[1], by rw [hcur]; exact Array.getElem?_eq_getElem (by omega)⟩, frozen_of_row _ _ _ _ _ hb, block_lt hb, fun w2 hw2 v hv w3 hw3 => ?_⟩
  obtain ⟨cur', c1, c2, c3⟩ := put_block g' t [.int .i64 v] w2 1 cur (hw2.trans hb) (by simp; omega)
  have c1 : w3.heap[g']? = some (.cells cur' t (0, 0)) := hw3.trans c1
  have hcur' : ∀ j, w3.cell? ⟨g', j, none⟩ = cur'[j]? := fun j => cell_of_row _ g' j cur' t (0, 0) c1
  have hold : ∀ j, j ≠ 1 → cur'[j]? = cur[j]? := fun j hj => by
   rw [c3, if_neg (by simp; omega)]
  refine ⟨_, cap, rfl, hc1, hc2, ⟨by simp; omega, fun i hi => ?_⟩⟩
  by_cases hi0 : i = 0
  ·subst hi0
   obtain ⟨hC, hf⟩ := hel 0 (by simp)
   refine ⟨g', 0, [.int .i64 e.1, .int .i64 v], rfl, fun j u hu => ?_, ⟨rfl, hf.1, hv⟩⟩
   simp only [Nat.zero_mul, Nat.zero_add]
   rw [hcur']
   match j, hu with
   | 0, hu =>
    rw [hold 0 (by omega), ← hcur]
    have h1 := hC 0 _ rfl
    rw [Nat.zero_mul, Nat.zero_add] at h1
    rw [h1]; exact hu
   | 1, hu =>
    rw [c3, if_pos (by simp)]
    exact hu
   | j + 2, hu => simp at hu
  ·obtain ⟨m, rfl⟩ : ∃ m, i = m + 1 := ⟨i - 1, by omega⟩
   obtain ⟨hC, hf⟩ := hel (m + 1) (by simpa using hi)
   refine ⟨g', 0, _, rfl, fun j u hu => ?_, ⟨rfl, hf⟩⟩
   rw [hcur', show (0 + (m + 1) * Rd.k (Int × Int) + j) = (m + 1) * 2 + j from by show 0 + (m + 1) * 2 + j = _; omega, hold _ (by omega), ← hcur]
   exact hC j u hu

set_option maxHeartbeats 1000000 in
theorem room_calls {cs : List Value} {p : ProgD} {w : World} (h : Rd.R w cs p) (hF : foldB p = true) :
  Calls Tryz.prog 36 #[.agg cs.toArray, .int .i64 1] w fun e w' => e = .returned (.bool (decide (p.rules.length + p.exts.length + p.assume.length + 1 ≤ 60))) ∧ Below w.heap.size w w' := by
 have h0 := h
 obtain ⟨c1, c2, c4, c5, c6, c7, rfl, -, g1, g2, g4, g5, g6, g7⟩ := h0
 obtain ⟨a1, k1, rfl, _, _⟩ := g1.sl
 obtain ⟨a6, k6, rfl, _, _⟩ := g6.sl
 obtain ⟨a7, k7, rfl, _, _⟩ := g7.sl
 have hp : progOkB p = true := by simp only [foldB, Bool.and_eq_true] at hF; exact hF.1
 have b1 := (progOk_rules hp).1
 have b2 := progOk_exts_len hp
 have b3 := (progOk_asm hp).1
 have t0 : Below w.heap.size w (w.alloc (.cells #[.int .i64 p.atoms, .slice a1 p.rules.length k1, c2, .bool p.projOn, c4, c5, .slice a6 p.exts.length k6, .slice a7 p.assume.length k7] 30)) := (Below.refl _ _).alloc (by simp) _
 have CX := Cells.new w [.int .i64 p.atoms, .slice a1 p.rules.length k1, c2, .bool p.projOn, c4, c5, .slice a6 p.exts.length k6, .slice a7 p.assume.length k7] 30
 have w1 : IntKind.i64.wrap ((p.rules.length : Int) + p.exts.length) = (p.rules.length : Int) + p.exts.length := IntWalk.i64_in _ (by omega)
 have w2 : IntKind.i64.wrap ((p.rules.length : Int) + p.exts.length + p.assume.length) = (p.rules.length : Int) + p.exts.length + p.assume.length := IntWalk.i64_in _ (by omega)
 have w3 : IntKind.i64.wrap ((p.rules.length : Int) + p.exts.length + p.assume.length + 1) = (p.rules.length : Int) + p.exts.length + p.assume.length + 1 := IntWalk.i64_in _ (by omega)
 have hv : Hid ((decide ((p.rules.length : Int) + p.exts.length + p.assume.length + 1 ≤ 60)) = decide (p.rules.length + p.exts.length + p.assume.length + 1 ≤ 60)) := by show _ = _; rw [decide_eq_decide]; omega
 clear g1 g2 g4 g5 g6 g7 b1 b2 b3 hp
 go_enter Tryz.func36, Tryz.ntmps36
 go_wp2_with fail
 refine (folds_calls (Rd.mono t0 h)).mono ?_
 rintro e w4 ⟨he, b4⟩
 rw [hF] at he
 subst he
 obtain ⟨y0, y1, y2, y3, y4, y5, y6, y7⟩ := cells8 (CX.later b4)
 have t4 := t0.step b4
 clear CX hF
 go_wp2
 go_ret
 exact ⟨ret_bool hv.out, t4⟩

set_option maxHeartbeats 1000000 in
theorem lawHas_calls {v v' : Value} {L : List (List Int)} {x : List Int} {w : World} (h : RdL w [v] L) (gx : RdL w [v'] x) :
  Calls Tryz.prog 44 #[v, v'] w fun e w' => e = .returned (.bool (decide (x ∈ L))) ∧ Below w.heap.size w w' := by
 obtain ⟨a, cap, rfl, _, h⟩ := h.sl
 obtain ⟨ax, cx, rfl, _, hx⟩ := gx.sl
 have hm := h.1
 go_enter Tryz.func44, Tryz.ntmps44
 go_wp2
 go_loopw [5] (fun i wr => ∃ k : Nat, k ≤ L.length ∧ i = .int .i64 k ∧ Hid (¬ x ∈ L.take k) ∧ Below w.heap.size w wr) (fun i _ => L.length - (intOf i).toNat)
 case atStart => exact ⟨0, Nat.zero_le _, rfl, (show ¬ x ∈ L.take 0 by simp), Below.refl _ _⟩
 case round =>
  obtain ⟨k, hk, rfl, hn, hb⟩ := hrel
  by_cases hlt : k < L.length
  ·obtain ⟨b, off, rfl, hc⟩ := h.base (by omega)
   obtain ⟨ecs, hC, hR⟩ := hc k hlt
   have hR : RdL wr ecs (nth L k) := Rd.mono hb hR
   have hC := hC.later hb
   obtain ⟨a1, n1, rfl, _, _, q1⟩ := hR
   have u0 := hC.c0
   rw [show Rd.k (List Int) = 1 from rfl, Nat.mul_one] at u0
   have HY := Lib.hid (fun (he : eqB (nth L k) x = true) => (show decide (x ∈ L) = true from decide_eq_true (by rw [← of_decide_eq_true he]; exact nth_mem hlt)))
   have HN := Lib.hid (fun (he : eqB (nth L k) x = false) => (show ¬ x ∈ L.take (k + 1) from by
    rw [take_nth hlt, List.mem_append, List.mem_singleton]
    rintro (h1 | h1)
    ·exact hn.out h1
    ·exact of_decide_eq_false he h1.symm))
   have hki : (k : Int) < (L.length : Int) := by omega
   clear hc hC hn
   generalize nth L k = y at *
   go_wp2_with fail
   refine (same_calls _ _ _ _ _ _ _ q1.ints (hx.later hb).ints).mono ?_
   rintro e w2 ⟨rfl, b2⟩
   cases hE : eqB y x
   ·have hn' := Lib.hid (HN.out hE)
    clear HY HN
    go_wp2
    go_roundw
    case rel => exact ⟨k + 1, by omega, by go_num, hn', hb.step b2⟩
    case measure => simp [intOf]; omega
   ·have hy := Lib.hid (HY.out hE)
    clear HY HN
    go_wp2
    go_ret
    exact ⟨ret_bool hy.out.symm, hb.step b2⟩
  ·have hz : Hid (decide (x ∈ L) = false) := by
    show _ = _
    rw [decide_eq_false_iff_not]
    have := hn.out
    rwa [List.take_of_length_le (by omega)] at this
   go_wp2
   go_ret
   exact ⟨ret_bool hz.out.symm, hb⟩


end Go.Proofs.YthfbnalgnnjbbaaGreat
