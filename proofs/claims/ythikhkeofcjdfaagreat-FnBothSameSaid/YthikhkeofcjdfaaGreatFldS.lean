/-
 The answers but for what is assumed; lists and programs that are the same. No condition of its own.
-/
import Derived.Test.YthikhkeofcjdfaaGreatAnsD
import Derived.Test.YthikhkeofcjdfaaGreatLawsInts
import Derived.Test.YthikhkeofcjdfaaGreatAnsU
import Derived.Test.YthikhkeofcjdfaaGreatAppend
import Derived.Maps.AppendAt
import Derived.StillTailTactics
import Derived.Deep.RegionHeld3
import Derived.BigQuiet
namespace Go.Proofs.YthikhkeofcjdfaaGreat
set_option linter.unusedVariables false
set_option linter.unusedSimpArgs false
open Go.RowKit
set_option maxRecDepth 100000

def freeD (p : ProgD) : ProgD := { p with assume := [] }
theorem litsB_nil (n : Int) : litsB [] n = true := by simp [litsB]
theorem free_ok {p : ProgD} (h : progOkB p = true) : progOkB (freeD p) = true := by
 unfold progOkB freeD at *
 simp only [Bool.and_eq_true, litsB_nil] at h ⊢
 exact ⟨h.1, h.2.1, h.2.2.1, h.2.2.2.1, h.2.2.2.2.1, h.2.2.2.2.2.1, trivial⟩
theorem fold_ok {p : ProgD} (h : foldB p = true) : progOkB p = true ∧ (p.rules.length + (extR p).length) + p.assume.length ≤ 60 := by
 simpa only [foldB, Bool.and_eq_true, decide_eq_true_eq] using h
theorem free_fold {p : ProgD} (h : foldB p = true) : foldB (freeD p) = true := by
 obtain ⟨h1, h2⟩ := fold_ok h
 rw [foldB_yes (free_ok h1), decide_eq_true_eq]
 have e : extR (freeD p) = extR p := rfl
 rw [e]
 show p.rules.length + (extR p).length + ([] : List Int).length ≤ 60
 simp only [List.length_nil]
 omega
def bareR (p : ProgD) : List RuleD := p.rules ++ extR p
theorem free_rules (p : ProgD) : (foldD (freeD p)).rules = bareR p := by
 show (p.rules ++ extR p) ++ asmR (freeD p) = bareR p
 have : asmR (freeD p) = [] := rfl
 rw [this, List.append_nil]; rfl
theorem fold_rules (p : ProgD) : (foldD p).rules = bareR p ++ p.assume.map asmRule := by
 show (p.rules ++ extR p) ++ asmR p = _
 have : asmR p = p.assume.map asmRule := by unfold asmR asmTo; rw [List.take_length]
 rw [this]; rfl
theorem asm_put {l : Int} {xs : List Int} : putL false xs (asmRule l) = [] := rfl
theorem join_nil {s : List Int} (hs : IsP s) : pickTo (pickJ s []) 12 = s := by
 have := hs
 unfold IsP at this
 rw [this]
 refine pickTo_congr fun x h1 h2 => ?_
 unfold pickJ pickF
 rw [hasB_pickTo ⟨h1, by omega⟩, show hasB [] x = false from by simp [hasB]]
 cases hasB s x <;> rfl
theorem nth_left {α : Type} [Inhabited α] {xs zs : List α} {i : Nat} (h : i < xs.length) : nth (xs ++ zs) i = nth xs i := by
 unfold nth
 rw [List.getD_eq_getElem?_getD, List.getD_eq_getElem?_getD, List.getElem?_append_left h]
theorem nth_right {α : Type} [Inhabited α] {xs zs : List α} {i : Nat} : nth (xs ++ zs) (xs.length + i) = nth zs i := by
 unfold nth
 rw [List.getD_eq_getElem?_getD, List.getD_eq_getElem?_getD, List.getElem?_append_right (Nat.le_add_right _ _), Nat.add_sub_cancel_left]
theorem step_left {R A : List RuleD} {xs s : List Int} : ∀ {k : Nat}, k ≤ R.length → stepTo (R ++ A) xs false s k = stepTo R xs false s k
 | 0, _ => rfl
 | k + 1, h => by
  unfold stepTo
  rw [nth_left (show k < R.length by omega), step_left (R := R) (k := k) (by omega)]
theorem nth_asm {ls : List Int} {j : Nat} (h : j < ls.length) : nth (ls.map asmRule) j = asmRule (nth ls j) := by
 unfold nth
 rw [List.getD_eq_getElem?_getD, List.getD_eq_getElem?_getD, List.getElem?_map, List.getElem?_eq_getElem h]
 rfl
theorem step_right {R : List RuleD} {ls : List Int} {xs s : List Int} (hs : IsP s) : ∀ {j : Nat}, j ≤ ls.length → stepTo (R ++ ls.map asmRule) xs false s (R.length + j) = stepTo R xs false s R.length
 | 0, _ => step_left (Nat.le_refl _)
 | j + 1, h => by
  have ih := step_right (R := R) (ls := ls) (xs := xs) hs (j := j) (by omega)
  show stepTo (R ++ ls.map asmRule) xs false s ((R.length + j) + 1) = _
  cases hr : reachB (nth (R ++ ls.map asmRule) (R.length + j)) (h2B s xs)
  ·rw [stepTo_no hr, ih]
  ·rw [stepTo_yes hr, ih, nth_right, nth_asm (show j < ls.length by omega), asm_put]
   exact join_nil (stepTo_isP hs _)
theorem iter_asm {R : List RuleD} {ls : List Int} {xs : List Int} : ∀ n, iterL (R ++ ls.map asmRule) xs false n = iterL R xs false n
 | 0 => rfl
 | n + 1 => by
  show stepTo (R ++ ls.map asmRule) xs false (iterL (R ++ ls.map asmRule) xs false n) (R ++ ls.map asmRule).length = stepTo R xs false (iterL R xs false n) R.length
  rw [iter_asm n, show (R ++ ls.map asmRule).length = R.length + ls.length by rw [List.length_append, List.length_map]]
  exact step_right (iterL_isP n) (Nat.le_refl _)
theorem least_asm {R : List RuleD} {ls : List Int} {xs : List Int} : leastL (R ++ ls.map asmRule) xs false = leastL R xs false := iter_asm 13
theorem asm_holds {l n : Int} {xs : List Int} (h : litB l n = true) (hn : n ≤ 12) : ruleHoldsB xs (asmRule l) = holdsB xs l := by
 have hl : (1 ≤ l ∧ l ≤ 12) ∨ (-12 ≤ l ∧ l ≤ -1) := by
  simp only [litB, btwB, Bool.or_eq_true, decide_eq_true_eq] at h
  omega
 have hok : ruleOkB (asmRule l) 12 = true := by
  have hs : setOkB ([] : List Int) 12 = true := by rw [setOkB_in (by omega)]; rfl
  have hl2 : litB (-l) 12 = true := by
   simp only [litB, btwB, Bool.or_eq_true, decide_eq_true_eq]
   omega
  simp [ruleOkB, headsB, bodyB, wlitB, asmRule, btwB, hs, hl2]
 have hb : bodyHoldsB (asmRule l) xs = holdsB xs (-l) := by
  rw [bodyHoldsB_yes hok, reachB_F rfl]
  simp [asmRule]
 have hm : (((meetB (asmRule l) xs).length : Int) == 0) = true := by
  have : meetB (asmRule l) xs = [] := by
   unfold meetB
   show pickTo (pickM [] xs) 12 = []
   have e : pickTo (pickM [] xs) 12 = pickTo (fun _ => false) 12 := pickTo_congr fun x _ _ => by
    unfold pickM pickF
    rw [show hasB [] x = false from by simp [hasB]]
    cases hasB xs x <;> rfl
   rw [e]
   decide
  rw [this]; rfl
 unfold ruleHoldsB
 rw [hb, hm]
 show (false || !holdsB xs (-l) || !true) = holdsB xs l
 rw [Bool.false_or, Bool.not_true, Bool.or_false]
 rcases hl with hl | hl
 ·rw [holdsB_neg (l := -l) ⟨by omega, by omega⟩, holdsB_pos hl, Int.neg_neg, Bool.not_not]
 ·rw [holdsB_pos (l := -l) ⟨by omega, by omega⟩, holdsB_neg hl]
theorem assume_lits {p : ProgD} (h : progOkB p = true) : p.assume.length ≤ 20 ∧ ∀ l ∈ p.assume, litB l p.atoms = true := by
 simp only [progOkB, Bool.and_eq_true, litsB, decide_eq_true_eq, List.all_eq_true] at h
 exact h.2.2.2.2.2.2
theorem ans_free {p : ProgD} (h : foldB p = true) (xs : List Int) : ansB (foldD p) xs = (ansB (foldD (freeD p)) xs && p.assume.all (holdsB xs)) := by
 obtain ⟨h1, _⟩ := fold_ok h
 have ha := progOk_atoms h1
 have e1 : (foldD (freeD p)).atoms = (foldD p).atoms := rfl
 have h2 : progOkB (foldD p) = true := foldR_ok h
 have h3 : progOkB (foldD (freeD p)) = true := foldR_ok (free_fold h)
 have e2 : (p.assume.map asmRule).all (ruleHoldsB xs) = p.assume.all (holdsB xs) := by
  rw [List.all_map, Bool.eq_iff_iff, List.all_eq_true, List.all_eq_true]
  exact ⟨fun k l hl => by rw [← asm_holds ((assume_lits h1).2 l hl) ha.2]; exact k l hl, fun k l hl => by show ruleHoldsB xs (asmRule l) = true; rw [asm_holds ((assume_lits h1).2 l hl) ha.2]; exact k l hl⟩
 unfold ansB
 rw [modelB_yes h2, modelB_yes h3, e1, fold_rules, free_rules, List.all_append, e2, least_asm]
 cases setOkB xs (foldD p).atoms <;> cases (bareR p).all (ruleHoldsB xs) <;> cases p.assume.all (holdsB xs) <;> cases decide (leastL (bareR p) xs false = xs) <;> rfl
theorem ansTo_free {p : ProgD} (h : foldB p = true) : ∀ n, ansTo (foldD p) n = (ansTo (foldD (freeD p)) n).filter fun x => p.assume.all (holdsB x)
 | 0 => rfl
 | n + 1 => by
  have ih := ansTo_free h n
  have e := ans_free h (setN n)
  cases hf : ansB (foldD (freeD p)) (setN n)
  ·rw [hf, Bool.false_and] at e
   rw [ansTo_no e, ansTo_no hf, ih]
  ·rw [hf, Bool.true_and] at e
   rw [ansTo_yes hf, List.filter_append, ← ih]
   cases hh : p.assume.all (holdsB (setN n))
   ·rw [hh] at e
    rw [ansTo_no e]
    simp [hh]
   ·rw [hh] at e
    rw [ansTo_yes e]
    simp [hh]
theorem answers_free {p : ProgD} (h : foldB p = true) : answersL p = (answersL (freeD p)).filter fun x => p.assume.all (holdsB x) := by
 rw [answersL_yes h, answersL_yes (free_fold h)]
 exact ansTo_free h _
theorem ans_lenF (p : ProgD) : (answersL p).length ≤ 4096 := by
 unfold answersL
 split
 ·rename_i hF
  have h1 := ansTo_len (foldD p) (2 ^ p.atoms.toNat)
  obtain ⟨h2, h3⟩ := progOk_atoms (foldR_ok hF)
  have h4 : (foldD p).atoms = p.atoms := rfl
  have : 2 ^ p.atoms.toNat ≤ 2 ^ 12 := Nat.pow_le_pow_right (by omega) (by omega)
  omega
 ·simp

theorem list1S {cs : List Value} (h : cs.length = 1) : ∃ a, cs = [a] := by
 match cs, h with
 | [a], _ => exact ⟨a, rfl⟩
set_option maxHeartbeats 1000000 in
theorem sameSets_calls {v v' : Value} {xs : List (List Int)} {w : World} (h : RdL w [v] xs) (h' : RdL w [v'] xs) :
  Calls Tryz.prog 19 #[v, v'] w fun e w' => e = .returned (.bool true) ∧ Below w.heap.size w w' := by
 obtain ⟨a, cap, rfl, _, h⟩ := h.sl
 obtain ⟨a', cap', rfl, _, h'⟩ := h'.sl
 have hm := h.1
 by_cases hne : 0 < xs.length
 ·obtain ⟨b, off, rfl, hc⟩ := h.base hne
  obtain ⟨b', off', rfl, hc'⟩ := h'.base hne
  have HC := Lib.hid hc
  have HC' := Lib.hid hc'
  clear h hc h' hc'
  go_enter Tryz.func19, Tryz.ntmps19
  go_wp2
  go_loopw [5] (fun i wr => ∃ k : Nat, k ≤ xs.length ∧ i = .int .i64 k ∧ Below w.heap.size w wr) (fun i _ => xs.length - (intOf i).toNat)
  case atStart => exact ⟨0, Nat.zero_le _, rfl, Below.refl _ _⟩
  case round =>
   obtain ⟨k, hk, rfl, hb⟩ := hrel
   by_cases hlt : k < xs.length
   ·obtain ⟨ecs, hC, hR⟩ := HC.out k hlt
    obtain ⟨ecs', hC', hR'⟩ := HC'.out k hlt
    have hR : RdL wr ecs (nth xs k) := Rd.mono hb hR
    have hR' : RdL wr ecs' (nth xs k) := Rd.mono hb hR'
    have hC := hC.later hb
    have hC' := hC'.later hb
    obtain ⟨a1, n1, rfl, _, _, q1⟩ := hR
    obtain ⟨a2, n2, rfl, _, _, q2⟩ := hR'
    have u0 := hC.c0
    have v0 := hC'.c0
    rw [show Rd.k (List Int) = 1 from rfl, Nat.mul_one] at u0 v0
    clear hC hC'
    generalize nth xs k = y at *
    go_wp2
    go_still_tail 10, (by kernel_rfl)
    go_wp2_with fail
    refine (same_calls _ _ _ _ _ _ _ (Ints.later q1.ints (by first | exact (Below.refl _ _).drew | exact below_drewN (Below.refl _ _) _)) (Ints.later q2.ints (by first | exact (Below.refl _ _).drew | exact below_drewN (Below.refl _ _) _))).mono ?_
    rintro e w2 ⟨he, hb2⟩
    rw [eqB_self] at he
    subst he
    have hbe : Below w.heap.size w w2 := (show Below w.heap.size w _ by first | exact hb.drew | exact below_drewN hb _).step hb2
    clear hb2
    go_wp2
    go_roundw
    case rel => exact ⟨k + 1, by omega, by go_num, hbe⟩
    case measure => simp [intOf]; omega
   ·go_wp2
    go_ret
    exact ⟨rfl, hb⟩
 ·have : xs = [] := by cases xs <;> simp_all
  subst this
  clear h h' hne
  go_enter Tryz.func19, Tryz.ntmps19
  go_wp2
  refine wp_loop_rounds 1 ?_
  rw [rounds_succ]
  go_wp2
  go_ret
  exact ⟨rfl, Below.refl _ _⟩

def Reads (w : World) (vs : List Value) (xs : List (List Int)) : Prop := vs.length = xs.length ∧ ∀ i u, vs[i]? = some u → RdL w [u] (nth xs i)
theorem Reads.nil (w : World) : Reads w [] [] := ⟨rfl, fun i u h => by simp at h⟩
theorem Reads.snoc {w : World} {vs : List Value} {xs : List (List Int)} {u : Value} {x : List Int} (h : Reads w vs xs) (hu : RdL w [u] x) : Reads w (vs ++ [u]) (xs ++ [x]) := by
 refine ⟨by simp [h.1], fun i v hv => ?_⟩
 by_cases hi : i < vs.length
 ·rw [List.getElem?_append_left hi] at hv
  have := h.2 i v hv
  rwa [show nth (xs ++ [x]) i = nth xs i from nth_left (by rw [← h.1]; exact hi)]
 ·have hl := (List.getElem?_eq_some_iff.1 hv).1
  simp only [List.length_append, List.length_singleton] at hl
  have hie : i = xs.length + 0 := by have := h.1; omega
  subst hie
  rw [List.getElem?_append_right (by have := h.1; omega)] at hv
  have e0 : xs.length + 0 - vs.length = 0 := by have := h.1; omega
  rw [e0] at hv
  have e1 : u = v := by simpa using hv
  subst e1
  rwa [nth_right]
theorem Reads.row {B : Nat} {w wr : World} {v : Value} {vs : List Value} {xs : List (List Int)} {e : TypeId} (h : Reads w vs xs) (ho : wr.ownsRow B e 1 v vs.length vs) (hb : Below w.heap.size w wr) (hl : xs.length ≤ 4096) : RdL wr [v] xs := by
 obtain ⟨h1, h2⟩ := h
 have h0 := ho
 rcases ho.2 with ⟨rfl, hn⟩ | ⟨g, cap, cur, rfl, hB, hh, hnc, hcm, hcs, htk⟩
 ·have : xs = [] := List.length_eq_zero_iff.1 (by omega)
  subst this
  exact ⟨none, 0, rfl, by simp, by omega, by simp, fun i hi => by simp at hi⟩
 ·refine ⟨some ⟨g, 0, none⟩, cap, by rw [h1], by omega, by unfold maxLen at hcm; omega, by omega, fun i hi => ?_⟩
  have hiv : i < vs.length := by omega
  have hx : vs[i]? = some vs[i] := List.getElem?_eq_getElem hiv
  refine ⟨g, 0, [vs[i]], rfl, fun j u hu => ?_, Rd.mono (α := List Int) hb (h2 i _ hx)⟩
  have hj : j = 0 := by have := (List.getElem?_eq_some_iff.1 hu).1; simp at this; omega
  subst hj
  have hu : vs[i] = u := by simpa using hu
  subst hu
  rw [show Rd.k (List Int) = 1 from rfl, Nat.mul_one, Nat.zero_add, Nat.add_zero, cell_of_row _ g _ _ _ _ hh]
  have h3 : (cur.toList.take (vs.length * 1))[i]? = some vs[i] := by rw [htk]; exact hx
  rw [List.getElem?_take_of_lt (by omega), Array.getElem?_toList] at h3
  exact h3
theorem filter_take_yes {L : List (List Int)} {P : List Int → Bool} {k : Nat} (hk : k < L.length) (h : P (nth L k) = true) : (L.take (k + 1)).filter P = (L.take k).filter P ++ [nth L k] := by
 rw [take_nth hk, List.filter_append]; simp [h]
theorem filter_take_no {L : List (List Int)} {P : List Int → Bool} {k : Nat} (hk : k < L.length) (h : P (nth L k) = false) : (L.take (k + 1)).filter P = (L.take k).filter P := by
 rw [take_nth hk, List.filter_append]; simp [h]
theorem all_take_step {ls : List Int} {f : Int → Bool} {j : Nat} (hj : j < ls.length) : (ls.take (j + 1)).all f = ((ls.take j).all f && f (el ls j)) := by
 rw [take_el hj, List.all_append]; simp

end Go.Proofs.YthikhkeofcjdfaaGreat
