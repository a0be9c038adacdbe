/-
 spec.ProgOk: what it answers. No condition of its own.
-/
import Derived.Test.YthikhkeofcjdfaaGreatDefsProg
import Derived.StillTailTactics
namespace Go.Proofs.YthikhkeofcjdfaaGreat
set_option linter.unusedVariables false
set_option linter.unusedSimpArgs false
open Go.RowKit
set_option maxRecDepth 100000

theorem litsB_A {xs : List Int} {n : Int} (h : 20 < xs.length) : litsB xs n = false := by
 have : decide (xs.length ≤ 20) = false := decide_eq_false (by omega)
 simp only [litsB, this, Bool.false_and]
theorem litsB_B {xs : List Int} {n : Int} (h : xs.length ≤ 20) : litsB xs n = xs.all (fun l => litB l n) := by simp only [litsB, decide_eq_true h, Bool.true_and]

set_option maxHeartbeats 1000000 in
theorem l02Lits_calls {v : Value} {xs : List Int} {w : World} (n : Int) (h : RdL w [v] xs) (h0 : 0 ≤ n) (h1 : n ≤ 12) :
  Calls Tryz.prog 177 #[v, .int .i64 n] w fun e w' => e = .returned (.bool (litsB xs n)) ∧ w = w' := by
 obtain ⟨a, cap, rfl, _, h⟩ := h.sl
 have hm := h.1
 by_cases hl : 20 < xs.length
 ·have hv := Lib.hid (litsB_A (n := n) hl)
  have hli : (20 : Int) < (xs.length : Int) := by omega
  clear h hl
  go_enter Tryz.func177, Tryz.ntmps177
  go_wp2
  go_ret
  exact ⟨ret_bool hv.out.symm, rfl⟩
 ·have HV := Lib.hid (litsB_B (n := n) (show xs.length ≤ 20 by omega))
  have hli : (xs.length : Int) ≤ 20 := by omega
  clear hl
  go_enter Tryz.func177, Tryz.ntmps177
  go_wp2
  go_loop [5] (fun i => ∃ k : Nat, k ≤ xs.length ∧ i = .int .i64 k ∧ Hid ((xs.take k).all (fun l => litB l n) = true)) (fun i => xs.length - (intOf i).toNat)
  case atStart => exact ⟨0, Nat.zero_le _, rfl, show (xs.take 0).all _ = true by simp⟩
  case round =>
   obtain ⟨k, hk, rfl, hS⟩ := hrel
   by_cases hlt : k < xs.length
   ·obtain ⟨b, off, rfl, hc⟩ := h.base (by omega)
    obtain ⟨ecs, hC, hR⟩ := hc k hlt
    obtain ⟨rfl, hf0⟩ := hR
    have u0 := hC.c0
    rw [show Rd.k Int = 1 from rfl, Nat.mul_one] at u0
    clear hC hc
    cases hL : litB (nth xs k) n
    ·have hv := Lib.hid (HV.out.trans (all_no hlt hL))
     go_wp2_with (go_at_call 67; refine (l02Lit_calls _ _ _ h0 h1).mono ?_; rintro e w' ⟨rfl, rfl⟩)
     go_ret
     exact ⟨ret_bool hv.out.symm, rfl⟩
    ·have hS' := Lib.hid (all_take hlt hS.out hL)
     clear hS
     go_wp2_with (go_at_call 67; refine (l02Lit_calls _ _ _ h0 h1).mono ?_; rintro e w' ⟨rfl, rfl⟩)
     go_round
     case rel => exact ⟨k + 1, by omega, by go_num, hS'⟩
     case measure => simp [intOf]; omega
   ·have hv := Lib.hid (HV.out.trans (all_end (by omega) hS.out))
    go_wp2
    go_ret
    exact ⟨ret_bool hv.out.symm, rfl⟩

theorem levelB_A {n : Int} {ls : List LevelD} {k : Nat} (h : btwB (nth ls k).p (-100000) 100000 = false) : levelB n ls k = false := by simp only [levelB, h, Bool.false_and]
theorem levelB_B {n : Int} {ls : List LevelD} {k : Nat} (h0 : ¬ k = 0) (h : (nth ls k).p ≤ (nth ls (k - 1)).p) : levelB n ls k = false := by
 have : decide (k = 0 ∨ (nth ls (k - 1)).p < (nth ls k).p) = false := decide_eq_false (by omega)
 simp only [levelB, this, Bool.false_and, Bool.and_false]
theorem levelB_C {n : Int} {ls : List LevelD} {k : Nat} (h : 20 < (nth ls k).lits.length) : levelB n ls k = false := by
 have : decide ((nth ls k).lits.length ≤ 20) = false := decide_eq_false (by omega)
 simp only [levelB, this, Bool.false_and, Bool.and_false]
theorem levelB_D {n : Int} {ls : List LevelD} {k : Nat} (h : (nth ls k).lits.all (levLitB n) = false) : levelB n ls k = false := by simp only [levelB, h, Bool.and_false]
theorem levelB_E {n : Int} {ls : List LevelD} {k : Nat} (h1 : btwB (nth ls k).p (-100000) 100000 = true) (h2 : k = 0 ∨ (nth ls (k - 1)).p < (nth ls k).p) (h3 : (nth ls k).lits.length ≤ 20) (h4 : (nth ls k).lits.all (levLitB n) = true) : levelB n ls k = true := by
 simp only [levelB, h1, decide_eq_true h2, decide_eq_true h3, h4, Bool.and_true]
theorem levLitB_A {n : Int} {q : Int × Int} (h : litB q.1 n = false) : levLitB n q = false := by simp only [levLitB, h, Bool.false_and]
theorem levLitB_B {n : Int} {q : Int × Int} (h1 : litB q.1 n = true) : levLitB n q = btwB q.2 (-1000) 1000 := by simp only [levLitB, h1, Bool.true_and]

/-- The part of the word that is asked first. -/
def frontB (p : ProgD) : Bool := btwB p.atoms 0 12 && decide (p.rules.length ≤ 60) && decide (p.levels.length ≤ 6) && decide (p.shows.length ≤ 20) && decide (p.exts.length ≤ 12) && litsB p.assume p.atoms
/-- .. and the rest. -/
def restB (p : ProgD) : Bool := p.rules.all (fun r => ruleOkB r p.atoms) && (toB (levelB p.atoms p.levels) p.levels.length && (projB p && (p.shows.all (showB p.atoms) && toB (extB p.atoms p.exts) p.exts.length)))
theorem rest_1 {p : ProgD} (h : p.rules.all (fun r => ruleOkB r p.atoms) = true) : restB p = (toB (levelB p.atoms p.levels) p.levels.length && (projB p && (p.shows.all (showB p.atoms) && toB (extB p.atoms p.exts) p.exts.length))) := by simp only [restB, h, Bool.true_and]
theorem rest_2 {p : ProgD} (h : toB (levelB p.atoms p.levels) p.levels.length = true) : (toB (levelB p.atoms p.levels) p.levels.length && (projB p && (p.shows.all (showB p.atoms) && toB (extB p.atoms p.exts) p.exts.length))) = (projB p && (p.shows.all (showB p.atoms) && toB (extB p.atoms p.exts) p.exts.length)) := by rw [h, Bool.true_and]
theorem projS_A {p : ProgD} (h : setOkB p.project p.atoms = false) : projB p = false := by simp only [projB, h, Bool.false_and]
theorem projS_B {p : ProgD} (h : setOkB p.project p.atoms = true) (h2 : p.projOn = true) : projB p = true := by simp only [projB, h, h2, Bool.true_and, Bool.true_or]
theorem projS_C {p : ProgD} (h2 : p.projOn = false) (h3 : 0 < p.project.length) : projB p = false := by
 have : (p.project.length == 0) = false := beq_eq_false_iff_ne.2 (by omega)
 simp only [projB, h2, this, Bool.false_or, Bool.and_false]
theorem projS_D {p : ProgD} (h : setOkB p.project p.atoms = true) (h3 : ¬ 0 < p.project.length) : projB p = true := by
 have : (p.project.length == 0) = true := beq_iff_eq.2 (by omega)
 simp only [projB, h, this, Bool.or_true, Bool.true_and]
theorem showB_A {n : Int} {s : ShowD} (h : btwB (s.text.size : Int) 1 20 = false) : showB n s = false := by simp only [showB, h, Bool.false_and]
theorem showB_B {n : Int} {s : ShowD} (h : litsB s.cond n = false) : showB n s = false := by simp only [showB, h, Bool.and_false]
theorem showB_C {n : Int} {s : ShowD} (h : s.text.data.toList.all byteB = false) : showB n s = false := by simp only [showB, h, Bool.and_false, Bool.false_and]
theorem showB_D {n : Int} {s : ShowD} (h : btwB (s.text.size : Int) 1 20 = true) (h2 : litsB s.cond n = true) (h3 : s.text.data.toList.all byteB = true) : showB n s = true := by simp only [showB, h, h2, h3, Bool.and_true]
theorem sbytes_no {s : ByteArray} {k : Nat} (h : k < s.size) (hb : byteB s[k] = false) : s.data.toList.all byteB = false := by
 rw [List.all_eq_false]
 exact ⟨s[k], by rw [show s[k] = s.data.toList[k]'(by simpa using h) from rfl]; exact List.getElem_mem _, by rw [hb]; simp⟩
theorem sbytes_yes {s : ByteArray} {k : Nat} (h : k < s.size) (h0 : (s.data.toList.take k).all byteB = true) (hb : byteB s[k] = true) : (s.data.toList.take (k + 1)).all byteB = true := by
 rw [List.take_succ_eq_append_getElem (by simpa using h), List.all_append, h0]
 have : byteB (s.data.toList[k]'(by simpa using h)) = true := hb
 simp at this ⊢; exact this
theorem sbytes_end {s : ByteArray} {k : Nat} (h : s.size ≤ k) (h0 : (s.data.toList.take k).all byteB = true) : s.data.toList.all byteB = true := by
 rwa [List.take_of_length_le (by simpa using h)] at h0
theorem extB_A {n : Int} {es : List (Int × Int)} {k : Nat} (h : btwB (nth es k).1 1 n = false) : extB n es k = false := by simp only [extB, h, Bool.false_and]
theorem extB_B {n : Int} {es : List (Int × Int)} {k : Nat} (h0 : ¬ k = 0) (h : (nth es k).1 ≤ (nth es (k - 1)).1) : extB n es k = false := by
 have : decide (k = 0 ∨ (nth es (k - 1)).1 < (nth es k).1) = false := decide_eq_false (by omega)
 simp only [extB, this, Bool.false_and, Bool.and_false]
theorem extB_C {n : Int} {es : List (Int × Int)} {k : Nat} (h : btwB (nth es k).2 0 2 = false) : extB n es k = false := by simp only [extB, h, Bool.and_false]
theorem extB_D {n : Int} {es : List (Int × Int)} {k : Nat} (h1 : btwB (nth es k).1 1 n = true) (h2 : k = 0 ∨ (nth es (k - 1)).1 < (nth es k).1) (h3 : btwB (nth es k).2 0 2 = true) : extB n es k = true := by
 simp only [extB, h1, decide_eq_true h2, h3, Bool.and_true]

theorem progOkB_split (p : ProgD) : progOkB p = (frontB p && restB p) := by
 unfold progOkB frontB restB rulesB levelsB showsB extsB
 cases btwB p.atoms 0 12 <;> cases decide (p.rules.length ≤ 60) <;> cases decide (p.levels.length ≤ 6) <;> cases decide (p.shows.length ≤ 20) <;> cases decide (p.exts.length ≤ 12) <;> cases litsB p.assume p.atoms <;> simp
theorem front_no {p : ProgD} (h : frontB p = false) : progOkB p = false := by rw [progOkB_split, h, Bool.false_and]
theorem front_A {p : ProgD} (h : btwB p.atoms 0 12 = false) : progOkB p = false := front_no (by simp only [frontB, h, Bool.false_and])
theorem front_B {p : ProgD} (h : 60 < p.rules.length) : progOkB p = false := front_no (by have : decide (p.rules.length ≤ 60) = false := decide_eq_false (by omega); simp only [frontB, this, Bool.false_and, Bool.and_false])
theorem front_C {p : ProgD} (h : 6 < p.levels.length) : progOkB p = false := front_no (by have : decide (p.levels.length ≤ 6) = false := decide_eq_false (by omega); simp only [frontB, this, Bool.false_and, Bool.and_false])
theorem front_D {p : ProgD} (h : 20 < p.shows.length) : progOkB p = false := front_no (by have : decide (p.shows.length ≤ 20) = false := decide_eq_false (by omega); simp only [frontB, this, Bool.false_and, Bool.and_false])
theorem front_E {p : ProgD} (h : 12 < p.exts.length) : progOkB p = false := front_no (by have : decide (p.exts.length ≤ 12) = false := decide_eq_false (by omega); simp only [frontB, this, Bool.false_and, Bool.and_false])
theorem front_F {p : ProgD} (h : litsB p.assume p.atoms = false) : progOkB p = false := front_no (by simp only [frontB, h, Bool.and_false])
theorem front_yes {p : ProgD} (hA : btwB p.atoms 0 12 = true) (hB : p.rules.length ≤ 60) (hC : p.levels.length ≤ 6) (hD : p.shows.length ≤ 20) (hE : p.exts.length ≤ 12) (hF : litsB p.assume p.atoms = true) : progOkB p = restB p := by
 rw [progOkB_split]; simp only [frontB, hA, decide_eq_true hB, decide_eq_true hC, decide_eq_true hD, decide_eq_true hE, hF, Bool.true_and]

set_option maxHeartbeats 8000000 in
theorem specProgOk_calls {cs : List Value} {p : ProgD} {w : World} (h : Rd.R w cs p) :
  Calls Tryz.prog 90 #[.agg cs.toArray] w fun e w' => e = .returned (.bool (progOkB p)) ∧ Below w.heap.size w w' := by
 obtain ⟨c1, c2, c4, c5, c6, c7, rfl, hf, g1, g2, g4, g5, g6, g7⟩ := h
 obtain ⟨a1, k1, rfl, _, h1⟩ := g1.sl
 obtain ⟨a2, k2, rfl, _, h2⟩ := g2.sl
 obtain ⟨a4, k4, rfl, _, h4⟩ := g4.sl
 obtain ⟨a5, k5, rfl, _, h5⟩ := g5.sl
 obtain ⟨a6, k6, rfl, _, h6⟩ := g6.sl
 obtain ⟨a7, k7, rfl, _, h7⟩ := g7.sl
 have hm1 := h1.1
 have hm2 := h2.1
 have hm4 := h4.1
 have hm5 := h5.1
 have hm6 := h6.1
 have CX := Lib.hid (Cells.new w [.int .i64 p.atoms, .slice a1 p.rules.length k1, .slice a2 p.levels.length k2, .bool p.projOn, .slice a4 p.project.length k4, .slice a5 p.shows.length k5, .slice a6 p.exts.length k6, .slice a7 p.assume.length k7] 30)
 have tb : Below w.heap.size w (w.alloc (.cells #[.int .i64 p.atoms, .slice a1 p.rules.length k1, .slice a2 p.levels.length k2, .bool p.projOn, .slice a4 p.project.length k4, .slice a5 p.shows.length k5, .slice a6 p.exts.length k6, .slice a7 p.assume.length k7] 30)) := (Below.refl _ _).alloc (Nat.le_refl _) _
 clear g1 g2 g4 g5 g6 hf h7
 cases hA : btwB p.atoms 0 12
 ·have hv := Lib.hid (front_A hA)
  have hn0 : True := trivial
  have hn1 : True := trivial
  clear h1 h2 h4 h5 h6
  go_enter Tryz.func90, Tryz.ntmps90
  go_wp2_with (first | (go_at_call 66; refine (between_calls _ _ _ _).mono ?_; rintro e w' ⟨rfl, rfl⟩) | (go_at_call 177; refine (l02Lits_calls _ (Rd.mono (α := List Int) tb g7) hn0 hn1).mono ?_; rintro e w' ⟨rfl, rfl⟩))
  go_ret
  exact ⟨ret_bool hv.out.symm, tb⟩
 obtain ⟨hn0, hn1⟩ : 0 ≤ p.atoms ∧ p.atoms ≤ 12 := by unfold btwB at hA; simpa using hA
 by_cases hB : 60 < p.rules.length
 ·have hv := Lib.hid (front_B hB)
  have hi : (60 : Int) < (p.rules.length : Int) := by omega
  clear h1 h2 h4 h5 h6
  go_enter Tryz.func90, Tryz.ntmps90
  go_wp2_with (first | (go_at_call 66; refine (between_calls _ _ _ _).mono ?_; rintro e w' ⟨rfl, rfl⟩) | (go_at_call 177; refine (l02Lits_calls _ (Rd.mono (α := List Int) tb g7) hn0 hn1).mono ?_; rintro e w' ⟨rfl, rfl⟩))
  go_ret
  exact ⟨ret_bool hv.out.symm, tb⟩
 have hBi : (p.rules.length : Int) ≤ 60 := by omega
 by_cases hC : 6 < p.levels.length
 ·have hv := Lib.hid (front_C hC)
  have hi : (6 : Int) < (p.levels.length : Int) := by omega
  clear h1 h2 h4 h5 h6 hB
  go_enter Tryz.func90, Tryz.ntmps90
  go_wp2_with (first | (go_at_call 66; refine (between_calls _ _ _ _).mono ?_; rintro e w' ⟨rfl, rfl⟩) | (go_at_call 177; refine (l02Lits_calls _ (Rd.mono (α := List Int) tb g7) hn0 hn1).mono ?_; rintro e w' ⟨rfl, rfl⟩))
  go_ret
  exact ⟨ret_bool hv.out.symm, tb⟩
 have hCi : (p.levels.length : Int) ≤ 6 := by omega
 by_cases hD : 20 < p.shows.length
 ·have hv := Lib.hid (front_D hD)
  have hi : (20 : Int) < (p.shows.length : Int) := by omega
  clear h1 h2 h4 h5 h6 hB hC
  go_enter Tryz.func90, Tryz.ntmps90
  go_wp2_with (first | (go_at_call 66; refine (between_calls _ _ _ _).mono ?_; rintro e w' ⟨rfl, rfl⟩) | (go_at_call 177; refine (l02Lits_calls _ (Rd.mono (α := List Int) tb g7) hn0 hn1).mono ?_; rintro e w' ⟨rfl, rfl⟩))
  go_ret
  exact ⟨ret_bool hv.out.symm, tb⟩
 have hDi : (p.shows.length : Int) ≤ 20 := by omega
 by_cases hE : 12 < p.exts.length
 ·have hv := Lib.hid (front_E hE)
  have hi : (12 : Int) < (p.exts.length : Int) := by omega
  clear h1 h2 h4 h5 h6 hB hC hD
  go_enter Tryz.func90, Tryz.ntmps90
  go_wp2_with (first | (go_at_call 66; refine (between_calls _ _ _ _).mono ?_; rintro e w' ⟨rfl, rfl⟩) | (go_at_call 177; refine (l02Lits_calls _ (Rd.mono (α := List Int) tb g7) hn0 hn1).mono ?_; rintro e w' ⟨rfl, rfl⟩))
  go_ret
  exact ⟨ret_bool hv.out.symm, tb⟩
 have hEi : (p.exts.length : Int) ≤ 12 := by omega
 cases hF : litsB p.assume p.atoms
 ·have hv := Lib.hid (front_F hF)
  clear h1 h2 h4 h5 h6 hB hC hD hE
  go_enter Tryz.func90, Tryz.ntmps90
  go_wp2_with (first | (go_at_call 66; refine (between_calls _ _ _ _).mono ?_; rintro e w' ⟨rfl, rfl⟩) | (go_at_call 177; refine (l02Lits_calls _ (Rd.mono (α := List Int) tb g7) hn0 hn1).mono ?_; rintro e w' ⟨rfl, rfl⟩))
  go_ret
  exact ⟨ret_bool hv.out.symm, tb⟩
 have HP := Lib.hid (front_yes hA (by omega) (by omega) (by omega) (by omega) hF)
 have HB := Lib.hid (show p.rules.length ≤ 60 by omega)
 clear hB hC hD hE
 go_enter Tryz.func90, Tryz.ntmps90
 go_wp2_with (first | (go_at_call 66; refine (between_calls _ _ _ _).mono ?_; rintro e w' ⟨rfl, rfl⟩) | (go_at_call 177; refine (l02Lits_calls _ (Rd.mono (α := List Int) tb g7) hn0 hn1).mono ?_; rintro e w' ⟨rfl, rfl⟩))
 clear hBi hA hF g7
 -- the rules
 go_loopw [3] (fun i wr => ∃ k : Nat, k ≤ p.rules.length ∧ i = .int .i64 k ∧ Hid ((p.rules.take k).all (fun r => ruleOkB r p.atoms) = true) ∧ Hid (Cells wr w.heap.size 0 [.int .i64 p.atoms, .slice a1 p.rules.length k1, .slice a2 p.levels.length k2, .bool p.projOn, .slice a4 p.project.length k4, .slice a5 p.shows.length k5, .slice a6 p.exts.length k6, .slice a7 p.assume.length k7]) ∧ Below w.heap.size w wr) (fun i _ => p.rules.length - (intOf i).toNat)
 case atStart => exact ⟨0, Nat.zero_le _, rfl, show (p.rules.take 0).all _ = true by simp, CX, tb⟩
 case round =>
  obtain ⟨k, hk, rfl, hS, hX, hb⟩ := hrel
  obtain ⟨y0, y1, y2, y3, y4, y5, y6, y7⟩ := cells8 hX.out
  have hsz := hX.out.lt
  clear tb CX
  by_cases hlt : k < p.rules.length
  ·obtain ⟨b, off, rfl, hc⟩ := h1.base (by omega)
   obtain ⟨ecs, hC, hR⟩ := hc k hlt
   have hC := hC.later hb
   have hR := Rd.mono hb hR
   obtain ⟨e0, e1, e2, e3, e4, rfl⟩ := list5 (Rd.len hR)
   have u0 := hC.c0
   have u1 := hC.c1
   have u2 := hC.c2
   have u3 := hC.c3
   have u4 := hC.c4
   rw [show Rd.k RuleD = 5 from rfl] at u0 u1 u2 u3 u4
   clear hC hc h1 h2 h4 h5 h6
   cases hL : ruleOkB (nth p.rules k) p.atoms
   ·have hv : Hid (progOkB p = false) := by show _ = _; rw [HP.out]; unfold restB; rw [all_no hlt hL, Bool.false_and]
    clear hS
    go_wp2
    go_still_tail 7, (by kernel_rfl)
    go_wp2_with fail
    refine (specRuleOk_calls _ (Rd.mono (Below.refl _ _).drew hR)).mono ?_
    rintro e w2 ⟨rfl, hb2⟩
    go_wp2
    go_ret
    exact ⟨ret_bool hv.out.symm, hb.drew.step hb2⟩
   ·have hS' := Lib.hid (all_take hlt hS.out hL)
    clear hS
    go_wp2
    go_still_tail 7, (by kernel_rfl)
    go_wp2_with fail
    refine (specRuleOk_calls _ (Rd.mono (Below.refl _ _).drew hR)).mono ?_
    rintro e w2 ⟨rfl, hb2⟩
    have hbe := hb.drew.step hb2
    have hX2 := Lib.hid (hX.out.drew.later hb2)
    clear hR hb2
    go_wp2
    go_roundw
    case rel => exact ⟨k + 1, by omega, by go_num, hS', hX2, hbe⟩
    case measure => simp [intOf]; omega
  have hr1 := Lib.hid (all_end (show p.rules.length ≤ k by omega) hS.out)
  clear hS
  obtain ⟨wo, rfl⟩ : ∃ wo : World, wo = wr := ⟨_, rfl⟩
  have HP := Lib.hid (HP.out.trans (rest_1 hr1.out))
  clear hr1 h1
  go_wp2
  clear hlt hk y0 y1 y2 y3 y4 y5 y6 y7
  -- the levels
  go_loopw [4, 5, 6] (fun i _ _ wr => ∃ k : Nat, k ≤ p.levels.length ∧ i = .int .i64 k ∧ Hid (toB (levelB p.atoms p.levels) k = true) ∧ Hid (Cells wr w.heap.size 0 [.int .i64 p.atoms, .slice a1 p.rules.length k1, .slice a2 p.levels.length k2, .bool p.projOn, .slice a4 p.project.length k4, .slice a5 p.shows.length k5, .slice a6 p.exts.length k6, .slice a7 p.assume.length k7]) ∧ Below w.heap.size w wr) (fun i _ _ _ => p.levels.length - (intOf i).toNat)
  case atStart => exact ⟨0, Nat.zero_le _, rfl, rfl, hX, hb⟩
  case round =>
   clear hX hb hsz
   obtain ⟨k, hk, rfl, hS, hX, hb⟩ := hrel
   obtain ⟨y0, y1, y2, y3, y4, y5, y6, y7⟩ := cells8 hX.out
   have hsz := hX.out.lt
   by_cases hlt : k < p.levels.length
   ·obtain ⟨b, off, rfl, hc⟩ := h2.base (by omega)
    obtain ⟨ecs, hC, hR⟩ := hc k hlt
    obtain ⟨d1, rfl, hfp, hR1⟩ := hR
    obtain ⟨ad, cd, rfl, _, hrow⟩ := hR1.sl
    have hrm := hrow.1
    have hC := hC.later hb
    have u0 := hC.c0
    have u1 := hC.c1
    rw [show Rd.k LevelD = 2 from rfl] at u0 u1
    have hprev : Hid (¬ k = 0 → wr.cell? ⟨b, off + (k - 1) * 2, none⟩ = some (.int .i64 (nth p.levels (k - 1)).p)) := fun hz => by
     obtain ⟨es, hC1, hR'⟩ := hc (k - 1) (by omega)
     obtain ⟨d, rfl, _, _⟩ := hR'
     exact (hC1.later hb).c0
    have hbA := hb.alloc hb.size (.cells #[.int .i64 (nth p.levels k).p, .slice ad (nth p.levels k).lits.length cd] 182)
    have hXA := Lib.hid (hX.out.alloc (.cells #[.int .i64 (nth p.levels k).p, .slice ad (nth p.levels k).lits.length cd] 182))
    have hCL := Lib.hid (Cells.new wr [.int .i64 (nth p.levels k).p, .slice ad (nth p.levels k).lits.length cd] 182)
    have hROW := Lib.hid hrow
    have hkn : (0 : Int) ≤ (k : Int) := by omega
    have hkl : (k : Int) < (p.levels.length : Int) := by omega
    clear hC hc h2 hR1 hrow hX
    cases hA : btwB (nth p.levels k).p (-100000) 100000
    ·have hv : Hid (progOkB p = false) := by show _ = _; rw [HP.out, toB_no (levelB_A (n := p.atoms) hA) hlt]; rfl
     clear h4 h5 h6 hS
     go_wp2
     go_quiet ((go_at_call 66; exact quietS (between_calls _ _ _ _)))
     go_wp2
     go_ret
     exact ⟨ret_bool hv.out.symm, by first | exact hbA.drew | exact below_drewN hbA _⟩
    by_cases hz : k = 0
    ·have hOK : Hid (k = 0 ∨ (nth p.levels (k - 1)).p < (nth p.levels k).p) := Or.inl hz
     have hzd : decide (0 < k) = false := decide_eq_false (by omega)
     clear hz hprev
     by_cases h20 : 20 < (nth p.levels k).lits.length
     ·skip
      have hv : Hid (progOkB p = false) := by show _ = _; rw [HP.out, toB_no (levelB_C (n := p.atoms) h20) hlt]; rfl
      have hq1 : decide (20 < (nth p.levels k).lits.length) = true := decide_eq_true h20
      have hq2 : (20 : Int) < ((nth p.levels k).lits.length : Int) := by omega
      clear h4 h5 h6 hS h20
      go_wp2
      go_quiet ((go_at_call 66; exact quietS (between_calls _ _ _ _)))
      go_wp2
      go_ret
      exact ⟨ret_bool hv.out.symm, by first | exact hbA.drew | exact below_drewN hbA _⟩
     ·skip
      have hLE := Lib.hid (show (nth p.levels k).lits.length ≤ 20 by omega)
      have hq1 : decide (20 < (nth p.levels k).lits.length) = false := decide_eq_false h20
      have hq2 : ((nth p.levels k).lits.length : Int) ≤ 20 := by omega
      have HA := Lib.hid hA
      clear h20
      go_wp2
      go_quiet ((go_at_call 66; exact quietS (between_calls _ _ _ _)))
      go_wp2
      clear y0 y1 y2 y3 y4 y5 y6 y7 u0 u1
      go_loopw [6] (fun j wi => ∃ m : Nat, m ≤ (nth p.levels k).lits.length ∧ j = .int .i64 m ∧ Hid (((nth p.levels k).lits.take m).all (levLitB p.atoms) = true) ∧ Hid (Cells wi w.heap.size 0 [.int .i64 p.atoms, .slice a1 p.rules.length k1, .slice (some ⟨b, off, none⟩) p.levels.length k2, .bool p.projOn, .slice a4 p.project.length k4, .slice a5 p.shows.length k5, .slice a6 p.exts.length k6, .slice a7 p.assume.length k7]) ∧ Hid (Cells wi wr.heap.size 0 [.int .i64 (nth p.levels k).p, .slice ad (nth p.levels k).lits.length cd]) ∧ Below w.heap.size w wi) (fun j _ => (nth p.levels k).lits.length - (intOf j).toNat)
      case atStart => exact ⟨0, Nat.zero_le _, rfl, show ((nth p.levels k).lits.take 0).all _ = true by simp, hXA.out.later (by first | exact (Below.refl _ _).drew | exact below_drewN (Below.refl _ _) _), hCL.out.later (by first | exact (Below.refl _ _).drew | exact below_drewN (Below.refl _ _) _), by first | exact hbA.drew | exact below_drewN hbA _⟩
      case round =>
       obtain ⟨m, hmm, rfl, hT, hXi, hCi, hbi⟩ := hrel
       obtain ⟨y0, y1, y2, y3, y4, y5, y6, y7⟩ := cells8 hXi.out
       obtain ⟨x0, x1⟩ := cells2 hCi.out
       clear hXA hCL hbA
       by_cases hlm : m < (nth p.levels k).lits.length
       ·obtain ⟨b', off', rfl, hc'⟩ := hROW.out.base (by omega)
        obtain ⟨es, hC', hR'⟩ := hc' m hlm
        obtain ⟨rfl, hq0, hq1'⟩ := hR'
        have hC' := (hC'.later hb).kept (hbi.block b' (cell_lt (hC' 0 _ rfl)) |>.trans (hb.block b' (cell_lt (hC' 0 _ rfl))).symm)
        have v0 := hC'.c0
        have v1 := hC'.c1
        rw [show Rd.k (Int × Int) = 2 from rfl] at v0 v1
        have hmn : (0 : Int) ≤ (m : Int) := by omega
        have hml : (m : Int) < ((nth p.levels k).lits.length : Int) := by omega
        clear hC' hc'
        cases hB : litB (nth (nth p.levels k).lits m).1 p.atoms
        ·have hv : Hid (progOkB p = false) := by show _ = _; rw [HP.out, toB_no (levelB_D (n := p.atoms) (all_no hlm (levLitB_A hB))) hlt]; rfl
         clear h4 h5 h6 hS hT
         go_wp2
         go_quiet ((first | (go_at_call 67; exact quietS (l02Lit_calls _ _ _ hn0 hn1)) | (go_at_call 66; exact quietS (between_calls _ _ _ _))))
         go_wp2
         go_ret
         exact ⟨ret_bool hv.out.symm, by first | exact hbi.drew | exact below_drewN hbi _⟩
        ·cases hK : btwB (nth (nth p.levels k).lits m).2 (-1000) 1000
         ·have hv : Hid (progOkB p = false) := by show _ = _; rw [HP.out, toB_no (levelB_D (n := p.atoms) (all_no hlm ((levLitB_B hB).trans hK))) hlt]; rfl
          clear h4 h5 h6 hS hT
          go_wp2
          go_quiet ((first | (go_at_call 67; exact quietS (l02Lit_calls _ _ _ hn0 hn1)) | (go_at_call 66; exact quietS (between_calls _ _ _ _))))
          go_wp2
          go_ret
          exact ⟨ret_bool hv.out.symm, by first | exact hbi.drew | exact below_drewN hbi _⟩
         ·have hT' := Lib.hid (all_take hlm hT.out ((levLitB_B hB).trans hK))
          clear hT
          go_wp2
          go_quiet ((first | (go_at_call 67; exact quietS (l02Lit_calls _ _ _ hn0 hn1)) | (go_at_call 66; exact quietS (between_calls _ _ _ _))))
          go_wp2
          go_roundw
          case rel => exact ⟨m + 1, by omega, by go_num, hT', hXi.out.later (by first | exact (Below.refl _ _).drew | exact below_drewN (Below.refl _ _) _), hCi.out.later (by first | exact (Below.refl _ _).drew | exact below_drewN (Below.refl _ _) _), by first | exact hbi.drew | exact below_drewN hbi _⟩
          case measure => simp [intOf]; omega
       ·have hS' := Lib.hid (toB_yes hS.out (levelB_E (n := p.atoms) HA.out hOK.out hLE.out (all_end (by omega) hT.out)))
        clear hS hT
        go_wp2
        go_roundw
        case rel => exact ⟨k + 1, by omega, by go_num, hS', hXi, hbi⟩
        case measure => simp [intOf]; omega
    ·have hck1 := hprev.out hz
     have hbl := cell_lt hck1
     have hck2 : (wr.alloc (.cells #[.int .i64 (nth p.levels k).p, .slice ad (nth p.levels k).lits.length cd] 182)).cell? ⟨b, off + (k - 1) * 2, none⟩ = some (.int .i64 (nth p.levels (k - 1)).p) := cell_kept ((Below.refl _ _).alloc (Nat.le_refl _) _) hck1
     have hz3 : 0 < k := by omega
     have hzd : decide (0 < k) = true := decide_eq_true hz3
     have hz' : (0 : Int) < (k : Int) := by omega
     have hz4 : (1 : Int) ≤ (k : Int) := by omega
     have hz1 : (0 : Int) ≤ (k : Int) - 1 := by omega
     have hz2 : (k : Int) - 1 < (p.levels.length : Int) := by omega
     have hw1 : IntKind.i64.wrap ((k : Int) - 1) = (k : Int) - 1 := IntWalk.i64_in _ (by omega)
     have hn1' : ((k : Int) - 1).toNat = k - 1 := by omega
     by_cases hl : (nth p.levels (k - 1)).p < (nth p.levels k).p
     ·have hOK : Hid (k = 0 ∨ (nth p.levels (k - 1)).p < (nth p.levels k).p) := Or.inr hl
      have hld : decide ((nth p.levels k).p ≤ (nth p.levels (k - 1)).p) = false := decide_eq_false (by omega)
      clear hz hprev hl
      by_cases h20 : 20 < (nth p.levels k).lits.length
      ·skip
       have hv : Hid (progOkB p = false) := by show _ = _; rw [HP.out, toB_no (levelB_C (n := p.atoms) h20) hlt]; rfl
       have hq1 : decide (20 < (nth p.levels k).lits.length) = true := decide_eq_true h20
       have hq2 : (20 : Int) < ((nth p.levels k).lits.length : Int) := by omega
       clear h4 h5 h6 hS h20
       go_wp2
       go_quiet ((go_at_call 66; exact quietS (between_calls _ _ _ _)))
       go_wp2
       go_ret
       exact ⟨ret_bool hv.out.symm, by first | exact hbA.drew | exact below_drewN hbA _⟩
      ·skip
       have hLE := Lib.hid (show (nth p.levels k).lits.length ≤ 20 by omega)
       have hq1 : decide (20 < (nth p.levels k).lits.length) = false := decide_eq_false h20
       have hq2 : ((nth p.levels k).lits.length : Int) ≤ 20 := by omega
       have HA := Lib.hid hA
       clear h20
       go_wp2
       go_quiet ((go_at_call 66; exact quietS (between_calls _ _ _ _)))
       go_wp2
       clear y0 y1 y2 y3 y4 y5 y6 y7 u0 u1
       go_loopw [6] (fun j wi => ∃ m : Nat, m ≤ (nth p.levels k).lits.length ∧ j = .int .i64 m ∧ Hid (((nth p.levels k).lits.take m).all (levLitB p.atoms) = true) ∧ Hid (Cells wi w.heap.size 0 [.int .i64 p.atoms, .slice a1 p.rules.length k1, .slice (some ⟨b, off, none⟩) p.levels.length k2, .bool p.projOn, .slice a4 p.project.length k4, .slice a5 p.shows.length k5, .slice a6 p.exts.length k6, .slice a7 p.assume.length k7]) ∧ Hid (Cells wi wr.heap.size 0 [.int .i64 (nth p.levels k).p, .slice ad (nth p.levels k).lits.length cd]) ∧ Below w.heap.size w wi) (fun j _ => (nth p.levels k).lits.length - (intOf j).toNat)
       case atStart => exact ⟨0, Nat.zero_le _, rfl, show ((nth p.levels k).lits.take 0).all _ = true by simp, hXA.out.later (by first | exact (Below.refl _ _).drew | exact below_drewN (Below.refl _ _) _), hCL.out.later (by first | exact (Below.refl _ _).drew | exact below_drewN (Below.refl _ _) _), by first | exact hbA.drew | exact below_drewN hbA _⟩
       case round =>
        obtain ⟨m, hmm, rfl, hT, hXi, hCi, hbi⟩ := hrel
        obtain ⟨y0, y1, y2, y3, y4, y5, y6, y7⟩ := cells8 hXi.out
        obtain ⟨x0, x1⟩ := cells2 hCi.out
        clear hXA hCL hbA
        by_cases hlm : m < (nth p.levels k).lits.length
        ·obtain ⟨b', off', rfl, hc'⟩ := hROW.out.base (by omega)
         obtain ⟨es, hC', hR'⟩ := hc' m hlm
         obtain ⟨rfl, hq0, hq1'⟩ := hR'
         have hC' := (hC'.later hb).kept (hbi.block b' (cell_lt (hC' 0 _ rfl)) |>.trans (hb.block b' (cell_lt (hC' 0 _ rfl))).symm)
         have v0 := hC'.c0
         have v1 := hC'.c1
         rw [show Rd.k (Int × Int) = 2 from rfl] at v0 v1
         have hmn : (0 : Int) ≤ (m : Int) := by omega
         have hml : (m : Int) < ((nth p.levels k).lits.length : Int) := by omega
         clear hC' hc'
         cases hB : litB (nth (nth p.levels k).lits m).1 p.atoms
         ·have hv : Hid (progOkB p = false) := by show _ = _; rw [HP.out, toB_no (levelB_D (n := p.atoms) (all_no hlm (levLitB_A hB))) hlt]; rfl
          clear h4 h5 h6 hS hT
          go_wp2
          go_quiet ((first | (go_at_call 67; exact quietS (l02Lit_calls _ _ _ hn0 hn1)) | (go_at_call 66; exact quietS (between_calls _ _ _ _))))
          go_wp2
          go_ret
          exact ⟨ret_bool hv.out.symm, by first | exact hbi.drew | exact below_drewN hbi _⟩
         ·cases hK : btwB (nth (nth p.levels k).lits m).2 (-1000) 1000
          ·have hv : Hid (progOkB p = false) := by show _ = _; rw [HP.out, toB_no (levelB_D (n := p.atoms) (all_no hlm ((levLitB_B hB).trans hK))) hlt]; rfl
           clear h4 h5 h6 hS hT
           go_wp2
           go_quiet ((first | (go_at_call 67; exact quietS (l02Lit_calls _ _ _ hn0 hn1)) | (go_at_call 66; exact quietS (between_calls _ _ _ _))))
           go_wp2
           go_ret
           exact ⟨ret_bool hv.out.symm, by first | exact hbi.drew | exact below_drewN hbi _⟩
          ·have hT' := Lib.hid (all_take hlm hT.out ((levLitB_B hB).trans hK))
           clear hT
           go_wp2
           go_quiet ((first | (go_at_call 67; exact quietS (l02Lit_calls _ _ _ hn0 hn1)) | (go_at_call 66; exact quietS (between_calls _ _ _ _))))
           go_wp2
           go_roundw
           case rel => exact ⟨m + 1, by omega, by go_num, hT', hXi.out.later (by first | exact (Below.refl _ _).drew | exact below_drewN (Below.refl _ _) _), hCi.out.later (by first | exact (Below.refl _ _).drew | exact below_drewN (Below.refl _ _) _), by first | exact hbi.drew | exact below_drewN hbi _⟩
           case measure => simp [intOf]; omega
        ·have hS' := Lib.hid (toB_yes hS.out (levelB_E (n := p.atoms) HA.out hOK.out hLE.out (all_end (by omega) hT.out)))
         clear hS hT
         go_wp2
         go_roundw
         case rel => exact ⟨k + 1, by omega, by go_num, hS', hXi, hbi⟩
         case measure => simp [intOf]; omega
     ·have hv : Hid (progOkB p = false) := by show _ = _; rw [HP.out, toB_no (levelB_B (n := p.atoms) hz (by omega)) hlt]; rfl
      have hld : decide ((nth p.levels k).p ≤ (nth p.levels (k - 1)).p) = true := decide_eq_true (by omega)
      clear hz hprev hl h4 h5 h6 hS
      go_wp2
      go_quiet ((go_at_call 66; exact quietS (between_calls _ _ _ _)))
      go_wp2
      go_ret
      exact ⟨ret_bool hv.out.symm, by first | exact hbA.drew | exact below_drewN hbA _⟩
   have hr2 : Hid (toB (levelB p.atoms p.levels) p.levels.length = true) := by show _ = _; rw [show p.levels.length = k by omega]; exact hS.out
   have HP := Lib.hid (HP.out.trans (rest_2 hr2.out))
   clear hr2 hS h2
   cases hP : setOkB p.project p.atoms
   ·have hv : Hid (progOkB p = false) := by show _ = _; rw [HP.out, projS_A hP, Bool.false_and]
    clear h5 h6
    go_wp2_with fail
    refine (specSetOk_calls _ _ _ _ _ (h4.later hb).ints).mono ?_
    rintro e w3 ⟨rfl, b3⟩
    have hb := hb.step b3
    clear hlt hk
    go_wp2
    go_ret
    exact ⟨ret_bool hv.out.symm, hb⟩
   cases hQ : p.projOn
   ·by_cases hl : 0 < p.project.length
    ·have hv : Hid (progOkB p = false) := by show _ = _; rw [HP.out, projS_C hQ hl, Bool.false_and]
     have hli : (0 : Int) < (p.project.length : Int) := by omega
     clear h5 h6
     go_wp2_with fail
     refine (specSetOk_calls _ _ _ _ _ (h4.later hb).ints).mono ?_
     rintro e w3 ⟨rfl, b3⟩
     have hb := hb.step b3
     clear hlt hk
     obtain ⟨y0, y1, y2, y3, y4, y5, y6, y7⟩ := cells8 (hX.out.later b3)
     go_wp2
     go_ret
     exact ⟨ret_bool hv.out.symm, hb⟩
    ·have HP : Hid (progOkB p = (p.shows.all (showB p.atoms) && toB (extB p.atoms p.exts) p.exts.length)) := by show _ = _; rw [HP.out, projS_D hP hl, Bool.true_and]
     have hli : (p.project.length : Int) = 0 := by omega
     clear hl
     go_wp2_with fail
     refine (specSetOk_calls _ _ _ _ _ (h4.later hb).ints).mono ?_
     rintro e w3 ⟨rfl, b3⟩
     have hb := hb.step b3
     clear hlt hk
     have hX := Lib.hid (hX.out.later b3)
     clear b3 h4
     obtain ⟨y0, y1, y2, y3, y4, y5, y6, y7⟩ := cells8 hX.out
     go_wp2
     clear y0 y1 y2 y3 y4 y5 y6 y7
     go_loopw [7, 8, 9] (fun i _ _ wr => ∃ k : Nat, k ≤ p.shows.length ∧ i = .int .i64 k ∧ Hid ((p.shows.take k).all (showB p.atoms) = true) ∧ Hid (Cells wr w.heap.size 0 [.int .i64 p.atoms, .slice a1 p.rules.length k1, .slice a2 p.levels.length k2, .bool p.projOn, .slice a4 p.project.length k4, .slice a5 p.shows.length k5, .slice a6 p.exts.length k6, .slice a7 p.assume.length k7]) ∧ Below w.heap.size w wr) (fun i _ _ _ => p.shows.length - (intOf i).toNat)
     case atStart => exact ⟨0, Nat.zero_le _, rfl, show (p.shows.take 0).all _ = true by simp, hX, hb⟩
     case round =>
      clear hX hb
      obtain ⟨k, hk, rfl, hS, hX, hb⟩ := hrel
      obtain ⟨y0, y1, y2, y3, y4, y5, y6, y7⟩ := cells8 hX.out
      by_cases hlt : k < p.shows.length
      ·obtain ⟨b, off, rfl, hc⟩ := h5.base (by omega)
       obtain ⟨ecs, hC, hR⟩ := hc k hlt
       obtain ⟨d1, rfl, hsz1, hR1⟩ := hR
       have hR1 := Rd.mono (α := List Int) hb hR1
       have hC := hC.later hb
       have u0 := hC.c0
       have u1 := hC.c1
       rw [show Rd.k ShowD = 2 from rfl] at u0 u1
       have hkn : (0 : Int) ≤ (k : Int) := by omega
       have hkl : (k : Int) < (p.shows.length : Int) := by omega
       clear hC hc h5
       cases hA : btwB ((nth p.shows k).text.size : Int) 1 20
       ·have hv : Hid (progOkB p = false) := by show _ = _; rw [HP.out, all_no hlt (showB_A (n := p.atoms) hA)]; rfl
        clear hS h6
        go_wp2
        go_quiet ((first | (go_at_call 66; exact quietS (between_calls _ _ _ _)) | (go_at_call 177; exact quietS (l02Lits_calls _ (Rd.mono (α := List Int) (by first | exact (Below.refl _ _).drew | exact below_drewN (Below.refl _ _) _) hR1) hn0 hn1))))
        go_wp2
        go_ret
        exact ⟨ret_bool hv.out.symm, by first | exact hb.drew | exact below_drewN hb _⟩
       cases hB : litsB (nth p.shows k).cond p.atoms
       ·have hv : Hid (progOkB p = false) := by show _ = _; rw [HP.out, all_no hlt (showB_B (n := p.atoms) hB)]; rfl
        clear hS h6
        go_wp2
        go_quiet ((first | (go_at_call 66; exact quietS (between_calls _ _ _ _)) | (go_at_call 177; exact quietS (l02Lits_calls _ (Rd.mono (α := List Int) (by first | exact (Below.refl _ _).drew | exact below_drewN (Below.refl _ _) _) hR1) hn0 hn1))))
        go_wp2
        go_ret
        exact ⟨ret_bool hv.out.symm, by first | exact hb.drew | exact below_drewN hb _⟩
       have HA := Lib.hid hA
       have HB2 := Lib.hid hB
       go_wp2
       go_quiet ((first | (go_at_call 66; exact quietS (between_calls _ _ _ _)) | (go_at_call 177; exact quietS (l02Lits_calls _ (Rd.mono (α := List Int) (by first | exact (Below.refl _ _).drew | exact below_drewN (Below.refl _ _) _) hR1) hn0 hn1))))
       go_wp2
       clear hA hB
       go_loopw [9] (fun j wi => ∃ m : Nat, m ≤ (nth p.shows k).text.size ∧ j = .int .i64 m ∧ Hid (((nth p.shows k).text.data.toList.take m).all byteB = true) ∧ Hid (Cells wi w.heap.size 0 [.int .i64 p.atoms, .slice a1 p.rules.length k1, .slice a2 p.levels.length k2, .bool p.projOn, .slice a4 p.project.length k4, .slice (some ⟨b, off, none⟩) p.shows.length k5, .slice a6 p.exts.length k6, .slice a7 p.assume.length k7]) ∧ Below w.heap.size w wi) (fun j _ => (nth p.shows k).text.size - (intOf j).toNat)
       case atStart => exact ⟨0, Nat.zero_le _, rfl, show ((nth p.shows k).text.data.toList.take 0).all _ = true by simp, hX.out.later (by first | exact (Below.refl _ _).drew | exact below_drewN (Below.refl _ _) _), by first | exact hb.drew | exact below_drewN hb _⟩
       case round =>
        clear hX hb y0 y1 y2 y3 y4 y5 y6 y7 u0 u1
        obtain ⟨m, hmm, rfl, hT, hX, hb⟩ := hrel
        obtain ⟨y0, y1, y2, y3, y4, y5, y6, y7⟩ := cells8 hX.out
        by_cases hlm : m < (nth p.shows k).text.size
        ·have hu0 : (0 : Int) ≤ ((nth p.shows k).text[m].toNat : Int) := by omega
         have hu1 : ((nth p.shows k).text[m].toNat : Int) ≤ 255 := by have := (nth p.shows k).text[m].toNat_lt; omega
         cases hK : btwB ((nth p.shows k).text[m].toNat : Int) 33 126
         ·have hv : Hid (progOkB p = false) := by show _ = _; rw [HP.out, all_no hlt (showB_C (n := p.atoms) (sbytes_no hlm hK))]; rfl
          clear hS h6 hT
          go_wp2_with (go_at_call 66; refine (between_calls _ _ _ _).mono ?_; rintro e w' ⟨rfl, rfl⟩)
          go_ret
          exact ⟨ret_bool hv.out.symm, hb⟩
         ·have hT' := Lib.hid (sbytes_yes hlm hT.out hK)
          clear hT
          go_wp2_with (go_at_call 66; refine (between_calls _ _ _ _).mono ?_; rintro e w' ⟨rfl, rfl⟩)
          go_roundw
          case rel => exact ⟨m + 1, by omega, by go_num, hT', hX, hb⟩
          case measure => simp [intOf]; omega
        ·have hS' := Lib.hid (all_take hlt hS.out (showB_D (n := p.atoms) HA.out HB2.out (sbytes_end (by omega) hT.out)))
         clear hS hT
         go_wp2
         go_roundw
         case rel => exact ⟨k + 1, by omega, by go_num, hS', hX, hb⟩
         case measure => simp [intOf]; omega
      ·have HP : Hid (progOkB p = toB (extB p.atoms p.exts) p.exts.length) := by show _ = _; rw [HP.out, all_end (show p.shows.length ≤ k by omega) hS.out, Bool.true_and]
       clear hS h5
       go_wp2
       clear y0 y1 y2 y3 y4 y5 y6 y7
       go_loopw [10] (fun i wr => ∃ k : Nat, k ≤ p.exts.length ∧ i = .int .i64 k ∧ Hid (toB (extB p.atoms p.exts) k = true) ∧ Hid (Cells wr w.heap.size 0 [.int .i64 p.atoms, .slice a1 p.rules.length k1, .slice a2 p.levels.length k2, .bool p.projOn, .slice a4 p.project.length k4, .slice a5 p.shows.length k5, .slice a6 p.exts.length k6, .slice a7 p.assume.length k7]) ∧ Below w.heap.size w wr) (fun i _ => p.exts.length - (intOf i).toNat)
       case atStart => exact ⟨0, Nat.zero_le _, rfl, rfl, hX, hb⟩
       case round =>
        clear hX hb
        obtain ⟨k, hk, rfl, hS, hX, hb⟩ := hrel
        obtain ⟨y0, y1, y2, y3, y4, y5, y6, y7⟩ := cells8 hX.out
        by_cases hlt : k < p.exts.length
        ·obtain ⟨b, off, rfl, hc⟩ := h6.base (by omega)
         obtain ⟨ecs, hC, hR⟩ := hc k hlt
         obtain ⟨rfl, hf0, hf1⟩ := hR
         have hC := hC.later hb
         have u0 := hC.c0
         have u1 := hC.c1
         rw [show Rd.k (Int × Int) = 2 from rfl] at u0 u1
         have hprev : Hid (¬ k = 0 → wr.cell? ⟨b, off + (k - 1) * 2, none⟩ = some (.int .i64 (nth p.exts (k - 1)).1)) := fun hz => by
          obtain ⟨es, hC1, hR'⟩ := hc (k - 1) (by omega)
          obtain ⟨rfl, _⟩ := hR'
          exact (hC1.later hb).c0
         have hkn : (0 : Int) ≤ (k : Int) := by omega
         have hkl : (k : Int) < (p.exts.length : Int) := by omega
         clear hC hc h6
         cases hA : btwB (nth p.exts k).1 1 p.atoms
         ·have hv : Hid (progOkB p = false) := by show _ = _; rw [HP.out, toB_no (extB_A (n := p.atoms) hA) hlt]
          clear hS hprev
          go_wp2
          go_quiet ((go_at_call 66; exact quietS (between_calls _ _ _ _)))
          go_wp2
          go_ret
          exact ⟨ret_bool hv.out.symm, by first | exact hb.drew | exact below_drewN hb _⟩
         have HA := Lib.hid hA
         by_cases hz : k = 0
         ·have hOK : Hid (k = 0 ∨ (nth p.exts (k - 1)).1 < (nth p.exts k).1) := Or.inl hz
          have hzd : decide (0 < k) = false := decide_eq_false (by omega)
          clear hz hprev
          cases hK : btwB (nth p.exts k).2 0 2
          ·have hv : Hid (progOkB p = false) := by show _ = _; rw [HP.out, toB_no (extB_C (n := p.atoms) hK) hlt]
           clear hS
           go_wp2
           go_quiet ((go_at_call 66; exact quietS (between_calls _ _ _ _)))
           go_wp2
           go_ret
           exact ⟨ret_bool hv.out.symm, by first | exact hb.drew | exact below_drewN hb _⟩
          ·have hS' := Lib.hid (toB_yes hS.out (extB_D (n := p.atoms) HA.out hOK.out hK))
           clear hS
           go_wp2
           go_quiet ((go_at_call 66; exact quietS (between_calls _ _ _ _)))
           go_wp2
           go_roundw
           case rel => exact ⟨k + 1, by omega, by go_num, hS', hX.out.later (by first | exact (Below.refl _ _).drew | exact below_drewN (Below.refl _ _) _), by first | exact hb.drew | exact below_drewN hb _⟩
           case measure => simp [intOf]; omega
         ·have hck1 := hprev.out hz
          have hz3 : 0 < k := by omega
          have hzd : decide (0 < k) = true := decide_eq_true hz3
          have hz' : (0 : Int) < (k : Int) := by omega
          have hz4 : (1 : Int) ≤ (k : Int) := by omega
          have hz1 : (0 : Int) ≤ (k : Int) - 1 := by omega
          have hz2 : (k : Int) - 1 < (p.exts.length : Int) := by omega
          have hw1 : IntKind.i64.wrap ((k : Int) - 1) = (k : Int) - 1 := IntWalk.i64_in _ (by omega)
          have hn1' : ((k : Int) - 1).toNat = k - 1 := by omega
          by_cases hl : (nth p.exts (k - 1)).1 < (nth p.exts k).1
          ·have hOK : Hid (k = 0 ∨ (nth p.exts (k - 1)).1 < (nth p.exts k).1) := Or.inr hl
           have hld : decide ((nth p.exts k).1 ≤ (nth p.exts (k - 1)).1) = false := decide_eq_false (by omega)
           clear hz hprev hl
           cases hK : btwB (nth p.exts k).2 0 2
           ·have hv : Hid (progOkB p = false) := by show _ = _; rw [HP.out, toB_no (extB_C (n := p.atoms) hK) hlt]
            clear hS
            go_wp2
            go_quiet ((go_at_call 66; exact quietS (between_calls _ _ _ _)))
            go_wp2
            go_ret
            exact ⟨ret_bool hv.out.symm, by first | exact hb.drew | exact below_drewN hb _⟩
           ·have hS' := Lib.hid (toB_yes hS.out (extB_D (n := p.atoms) HA.out hOK.out hK))
            clear hS
            go_wp2
            go_quiet ((go_at_call 66; exact quietS (between_calls _ _ _ _)))
            go_wp2
            go_roundw
            case rel => exact ⟨k + 1, by omega, by go_num, hS', hX.out.later (by first | exact (Below.refl _ _).drew | exact below_drewN (Below.refl _ _) _), by first | exact hb.drew | exact below_drewN hb _⟩
            case measure => simp [intOf]; omega
          ·have hv : Hid (progOkB p = false) := by show _ = _; rw [HP.out, toB_no (extB_B (n := p.atoms) hz (by omega)) hlt]
           have hld : decide ((nth p.exts k).1 ≤ (nth p.exts (k - 1)).1) = true := decide_eq_true (by omega)
           clear hz hprev hl hS
           go_wp2
           go_quiet ((go_at_call 66; exact quietS (between_calls _ _ _ _)))
           go_wp2
           go_ret
           exact ⟨ret_bool hv.out.symm, by first | exact hb.drew | exact below_drewN hb _⟩
        ·have hv : Hid (progOkB p = true) := by show _ = _; rw [HP.out, show p.exts.length = k by omega]; exact hS.out
         go_wp2
         go_ret
         exact ⟨ret_bool hv.out.symm, hb⟩
   ·have HP : Hid (progOkB p = (p.shows.all (showB p.atoms) && toB (extB p.atoms p.exts) p.exts.length)) := by show _ = _; rw [HP.out, projS_B hP hQ, Bool.true_and]
    go_wp2_with fail
    refine (specSetOk_calls _ _ _ _ _ (h4.later hb).ints).mono ?_
    rintro e w3 ⟨rfl, b3⟩
    have hb := hb.step b3
    clear hlt hk
    have hX := Lib.hid (hX.out.later b3)
    clear b3 h4
    obtain ⟨y0, y1, y2, y3, y4, y5, y6, y7⟩ := cells8 hX.out
    go_wp2
    clear y0 y1 y2 y3 y4 y5 y6 y7
    go_loopw [7, 8, 9] (fun i _ _ wr => ∃ k : Nat, k ≤ p.shows.length ∧ i = .int .i64 k ∧ Hid ((p.shows.take k).all (showB p.atoms) = true) ∧ Hid (Cells wr w.heap.size 0 [.int .i64 p.atoms, .slice a1 p.rules.length k1, .slice a2 p.levels.length k2, .bool p.projOn, .slice a4 p.project.length k4, .slice a5 p.shows.length k5, .slice a6 p.exts.length k6, .slice a7 p.assume.length k7]) ∧ Below w.heap.size w wr) (fun i _ _ _ => p.shows.length - (intOf i).toNat)
    case atStart => exact ⟨0, Nat.zero_le _, rfl, show (p.shows.take 0).all _ = true by simp, hX, hb⟩
    case round =>
     clear hX hb
     obtain ⟨k, hk, rfl, hS, hX, hb⟩ := hrel
     obtain ⟨y0, y1, y2, y3, y4, y5, y6, y7⟩ := cells8 hX.out
     by_cases hlt : k < p.shows.length
     ·obtain ⟨b, off, rfl, hc⟩ := h5.base (by omega)
      obtain ⟨ecs, hC, hR⟩ := hc k hlt
      obtain ⟨d1, rfl, hsz1, hR1⟩ := hR
      have hR1 := Rd.mono (α := List Int) hb hR1
      have hC := hC.later hb
      have u0 := hC.c0
      have u1 := hC.c1
      rw [show Rd.k ShowD = 2 from rfl] at u0 u1
      have hkn : (0 : Int) ≤ (k : Int) := by omega
      have hkl : (k : Int) < (p.shows.length : Int) := by omega
      clear hC hc h5
      cases hA : btwB ((nth p.shows k).text.size : Int) 1 20
      ·have hv : Hid (progOkB p = false) := by show _ = _; rw [HP.out, all_no hlt (showB_A (n := p.atoms) hA)]; rfl
       clear hS h6
       go_wp2
       go_quiet ((first | (go_at_call 66; exact quietS (between_calls _ _ _ _)) | (go_at_call 177; exact quietS (l02Lits_calls _ (Rd.mono (α := List Int) (by first | exact (Below.refl _ _).drew | exact below_drewN (Below.refl _ _) _) hR1) hn0 hn1))))
       go_wp2
       go_ret
       exact ⟨ret_bool hv.out.symm, by first | exact hb.drew | exact below_drewN hb _⟩
      cases hB : litsB (nth p.shows k).cond p.atoms
      ·have hv : Hid (progOkB p = false) := by show _ = _; rw [HP.out, all_no hlt (showB_B (n := p.atoms) hB)]; rfl
       clear hS h6
       go_wp2
       go_quiet ((first | (go_at_call 66; exact quietS (between_calls _ _ _ _)) | (go_at_call 177; exact quietS (l02Lits_calls _ (Rd.mono (α := List Int) (by first | exact (Below.refl _ _).drew | exact below_drewN (Below.refl _ _) _) hR1) hn0 hn1))))
       go_wp2
       go_ret
       exact ⟨ret_bool hv.out.symm, by first | exact hb.drew | exact below_drewN hb _⟩
      have HA := Lib.hid hA
      have HB2 := Lib.hid hB
      go_wp2
      go_quiet ((first | (go_at_call 66; exact quietS (between_calls _ _ _ _)) | (go_at_call 177; exact quietS (l02Lits_calls _ (Rd.mono (α := List Int) (by first | exact (Below.refl _ _).drew | exact below_drewN (Below.refl _ _) _) hR1) hn0 hn1))))
      go_wp2
      clear hA hB
      go_loopw [9] (fun j wi => ∃ m : Nat, m ≤ (nth p.shows k).text.size ∧ j = .int .i64 m ∧ Hid (((nth p.shows k).text.data.toList.take m).all byteB = true) ∧ Hid (Cells wi w.heap.size 0 [.int .i64 p.atoms, .slice a1 p.rules.length k1, .slice a2 p.levels.length k2, .bool p.projOn, .slice a4 p.project.length k4, .slice (some ⟨b, off, none⟩) p.shows.length k5, .slice a6 p.exts.length k6, .slice a7 p.assume.length k7]) ∧ Below w.heap.size w wi) (fun j _ => (nth p.shows k).text.size - (intOf j).toNat)
      case atStart => exact ⟨0, Nat.zero_le _, rfl, show ((nth p.shows k).text.data.toList.take 0).all _ = true by simp, hX.out.later (by first | exact (Below.refl _ _).drew | exact below_drewN (Below.refl _ _) _), by first | exact hb.drew | exact below_drewN hb _⟩
      case round =>
       clear hX hb y0 y1 y2 y3 y4 y5 y6 y7 u0 u1
       obtain ⟨m, hmm, rfl, hT, hX, hb⟩ := hrel
       obtain ⟨y0, y1, y2, y3, y4, y5, y6, y7⟩ := cells8 hX.out
       by_cases hlm : m < (nth p.shows k).text.size
       ·have hu0 : (0 : Int) ≤ ((nth p.shows k).text[m].toNat : Int) := by omega
        have hu1 : ((nth p.shows k).text[m].toNat : Int) ≤ 255 := by have := (nth p.shows k).text[m].toNat_lt; omega
        cases hK : btwB ((nth p.shows k).text[m].toNat : Int) 33 126
        ·have hv : Hid (progOkB p = false) := by show _ = _; rw [HP.out, all_no hlt (showB_C (n := p.atoms) (sbytes_no hlm hK))]; rfl
         clear hS h6 hT
         go_wp2_with (go_at_call 66; refine (between_calls _ _ _ _).mono ?_; rintro e w' ⟨rfl, rfl⟩)
         go_ret
         exact ⟨ret_bool hv.out.symm, hb⟩
        ·have hT' := Lib.hid (sbytes_yes hlm hT.out hK)
         clear hT
         go_wp2_with (go_at_call 66; refine (between_calls _ _ _ _).mono ?_; rintro e w' ⟨rfl, rfl⟩)
         go_roundw
         case rel => exact ⟨m + 1, by omega, by go_num, hT', hX, hb⟩
         case measure => simp [intOf]; omega
       ·have hS' := Lib.hid (all_take hlt hS.out (showB_D (n := p.atoms) HA.out HB2.out (sbytes_end (by omega) hT.out)))
        clear hS hT
        go_wp2
        go_roundw
        case rel => exact ⟨k + 1, by omega, by go_num, hS', hX, hb⟩
        case measure => simp [intOf]; omega
     ·have HP : Hid (progOkB p = toB (extB p.atoms p.exts) p.exts.length) := by show _ = _; rw [HP.out, all_end (show p.shows.length ≤ k by omega) hS.out, Bool.true_and]
      clear hS h5
      go_wp2
      clear y0 y1 y2 y3 y4 y5 y6 y7
      go_loopw [10] (fun i wr => ∃ k : Nat, k ≤ p.exts.length ∧ i = .int .i64 k ∧ Hid (toB (extB p.atoms p.exts) k = true) ∧ Hid (Cells wr w.heap.size 0 [.int .i64 p.atoms, .slice a1 p.rules.length k1, .slice a2 p.levels.length k2, .bool p.projOn, .slice a4 p.project.length k4, .slice a5 p.shows.length k5, .slice a6 p.exts.length k6, .slice a7 p.assume.length k7]) ∧ Below w.heap.size w wr) (fun i _ => p.exts.length - (intOf i).toNat)
      case atStart => exact ⟨0, Nat.zero_le _, rfl, rfl, hX, hb⟩
      case round =>
       clear hX hb
       obtain ⟨k, hk, rfl, hS, hX, hb⟩ := hrel
       obtain ⟨y0, y1, y2, y3, y4, y5, y6, y7⟩ := cells8 hX.out
       by_cases hlt : k < p.exts.length
       ·obtain ⟨b, off, rfl, hc⟩ := h6.base (by omega)
        obtain ⟨ecs, hC, hR⟩ := hc k hlt
        obtain ⟨rfl, hf0, hf1⟩ := hR
        have hC := hC.later hb
        have u0 := hC.c0
        have u1 := hC.c1
        rw [show Rd.k (Int × Int) = 2 from rfl] at u0 u1
        have hprev : Hid (¬ k = 0 → wr.cell? ⟨b, off + (k - 1) * 2, none⟩ = some (.int .i64 (nth p.exts (k - 1)).1)) := fun hz => by
         obtain ⟨es, hC1, hR'⟩ := hc (k - 1) (by omega)
         obtain ⟨rfl, _⟩ := hR'
         exact (hC1.later hb).c0
        have hkn : (0 : Int) ≤ (k : Int) := by omega
        have hkl : (k : Int) < (p.exts.length : Int) := by omega
        clear hC hc h6
        cases hA : btwB (nth p.exts k).1 1 p.atoms
        ·have hv : Hid (progOkB p = false) := by show _ = _; rw [HP.out, toB_no (extB_A (n := p.atoms) hA) hlt]
         clear hS hprev
         go_wp2
         go_quiet ((go_at_call 66; exact quietS (between_calls _ _ _ _)))
         go_wp2
         go_ret
         exact ⟨ret_bool hv.out.symm, by first | exact hb.drew | exact below_drewN hb _⟩
        have HA := Lib.hid hA
        by_cases hz : k = 0
        ·have hOK : Hid (k = 0 ∨ (nth p.exts (k - 1)).1 < (nth p.exts k).1) := Or.inl hz
         have hzd : decide (0 < k) = false := decide_eq_false (by omega)
         clear hz hprev
         cases hK : btwB (nth p.exts k).2 0 2
         ·have hv : Hid (progOkB p = false) := by show _ = _; rw [HP.out, toB_no (extB_C (n := p.atoms) hK) hlt]
          clear hS
          go_wp2
          go_quiet ((go_at_call 66; exact quietS (between_calls _ _ _ _)))
          go_wp2
          go_ret
          exact ⟨ret_bool hv.out.symm, by first | exact hb.drew | exact below_drewN hb _⟩
         ·have hS' := Lib.hid (toB_yes hS.out (extB_D (n := p.atoms) HA.out hOK.out hK))
          clear hS
          go_wp2
          go_quiet ((go_at_call 66; exact quietS (between_calls _ _ _ _)))
          go_wp2
          go_roundw
          case rel => exact ⟨k + 1, by omega, by go_num, hS', hX.out.later (by first | exact (Below.refl _ _).drew | exact below_drewN (Below.refl _ _) _), by first | exact hb.drew | exact below_drewN hb _⟩
          case measure => simp [intOf]; omega
        ·have hck1 := hprev.out hz
         have hz3 : 0 < k := by omega
         have hzd : decide (0 < k) = true := decide_eq_true hz3
         have hz' : (0 : Int) < (k : Int) := by omega
         have hz4 : (1 : Int) ≤ (k : Int) := by omega
         have hz1 : (0 : Int) ≤ (k : Int) - 1 := by omega
         have hz2 : (k : Int) - 1 < (p.exts.length : Int) := by omega
         have hw1 : IntKind.i64.wrap ((k : Int) - 1) = (k : Int) - 1 := IntWalk.i64_in _ (by omega)
         have hn1' : ((k : Int) - 1).toNat = k - 1 := by omega
         by_cases hl : (nth p.exts (k - 1)).1 < (nth p.exts k).1
         ·have hOK : Hid (k = 0 ∨ (nth p.exts (k - 1)).1 < (nth p.exts k).1) := Or.inr hl
          have hld : decide ((nth p.exts k).1 ≤ (nth p.exts (k - 1)).1) = false := decide_eq_false (by omega)
          clear hz hprev hl
          cases hK : btwB (nth p.exts k).2 0 2
          ·have hv : Hid (progOkB p = false) := by show _ = _; rw [HP.out, toB_no (extB_C (n := p.atoms) hK) hlt]
           clear hS
           go_wp2
           go_quiet ((go_at_call 66; exact quietS (between_calls _ _ _ _)))
           go_wp2
           go_ret
           exact ⟨ret_bool hv.out.symm, by first | exact hb.drew | exact below_drewN hb _⟩
          ·have hS' := Lib.hid (toB_yes hS.out (extB_D (n := p.atoms) HA.out hOK.out hK))
           clear hS
           go_wp2
           go_quiet ((go_at_call 66; exact quietS (between_calls _ _ _ _)))
           go_wp2
           go_roundw
           case rel => exact ⟨k + 1, by omega, by go_num, hS', hX.out.later (by first | exact (Below.refl _ _).drew | exact below_drewN (Below.refl _ _) _), by first | exact hb.drew | exact below_drewN hb _⟩
           case measure => simp [intOf]; omega
         ·have hv : Hid (progOkB p = false) := by show _ = _; rw [HP.out, toB_no (extB_B (n := p.atoms) hz (by omega)) hlt]
          have hld : decide ((nth p.exts k).1 ≤ (nth p.exts (k - 1)).1) = true := decide_eq_true (by omega)
          clear hz hprev hl hS
          go_wp2
          go_quiet ((go_at_call 66; exact quietS (between_calls _ _ _ _)))
          go_wp2
          go_ret
          exact ⟨ret_bool hv.out.symm, by first | exact hb.drew | exact below_drewN hb _⟩
       ·have hv : Hid (progOkB p = true) := by show _ = _; rw [HP.out, show p.exts.length = k by omega]; exact hS.out
        go_wp2
        go_ret
        exact ⟨ret_bool hv.out.symm, hb⟩

end Go.Proofs.YthikhkeofcjdfaaGreat
