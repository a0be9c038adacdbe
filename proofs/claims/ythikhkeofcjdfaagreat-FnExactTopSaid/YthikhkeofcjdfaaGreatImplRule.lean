/-
 impl.RuleOk answers as spec.RuleOk does. No condition of its own.
-/
import Derived.Test.YthikhkeofcjdfaaGreatRuleOk
namespace Go.Proofs.YthikhkeofcjdfaaGreat
set_option linter.unusedVariables false
set_option linter.unusedSimpArgs false
open Go.RowKit
set_option maxRecDepth 100000

def wOkB (n lo hi : Int) (p : Int × Int) : Bool := btwB (atomI p.1) 1 n && btwB p.2 lo hi
def weighedB (xs : List (Int × Int)) (n lo hi : Int) : Bool := decide (xs.length ≤ 20) && xs.all (wOkB n lo hi)
theorem weighedB_A {xs : List (Int × Int)} {n lo hi : Int} (h : 20 < xs.length) : weighedB xs n lo hi = false := by
 have : decide (xs.length ≤ 20) = false := decide_eq_false (by omega)
 simp only [weighedB, this, Bool.false_and]
theorem weighedB_B {xs : List (Int × Int)} {n lo hi : Int} (h : xs.length ≤ 20) : weighedB xs n lo hi = xs.all (wOkB n lo hi) := by
 simp only [weighedB, decide_eq_true h, Bool.true_and]
theorem wOkB_A {n lo hi : Int} {p : Int × Int} (h : btwB (atomI p.1) 1 n = false) : wOkB n lo hi p = false := by simp only [wOkB, h, Bool.false_and]
theorem wOkB_B {n lo hi : Int} {p : Int × Int} (h : btwB p.2 lo hi = false) : wOkB n lo hi p = false := by simp only [wOkB, h, Bool.and_false]
theorem wOkB_C {n lo hi : Int} {p : Int × Int} (h1 : btwB (atomI p.1) 1 n = true) (h : btwB p.2 lo hi = true) : wOkB n lo hi p = true := by simp only [wOkB, h1, h, Bool.and_true]

set_option maxHeartbeats 1000000 in
theorem weighedOk_calls {v : Value} {xs : List (Int × Int)} {w : World} (n lo hi : Int) (h : RdL w [v] xs) :
  Calls Tryz.prog 225 #[v, .int .i64 n, .int .i64 lo, .int .i64 hi] w fun e w' => e = .returned (.bool (weighedB xs n lo hi)) ∧ Below w.heap.size w w' := by
 obtain ⟨a, cap, rfl, _, h⟩ := h.sl
 have hm := h.1
 by_cases hl : 20 < xs.length
 ·have hv := Lib.hid (weighedB_A (n := n) (lo := lo) (hi := hi) hl)
  have hli : (20 : Int) < (xs.length : Int) := by omega
  clear h hl
  go_enter Tryz.func225, Tryz.ntmps225
  go_wp2
  go_ret
  exact ⟨ret_bool hv.out.symm, Below.refl _ _⟩
 ·have HV := Lib.hid (weighedB_B (n := n) (lo := lo) (hi := hi) (show xs.length ≤ 20 by omega))
  have hli : (xs.length : Int) ≤ 20 := by omega
  clear hl
  by_cases hne : 0 < xs.length
  ·obtain ⟨b, off, rfl, hc⟩ := h.base hne
   have HC := Lib.hid hc
   clear h hc
   go_enter Tryz.func225, Tryz.ntmps225
   go_wp2
   go_loopw [16] (fun i wr => ∃ k : Nat, k ≤ xs.length ∧ i = .int .i64 k ∧ Hid ((xs.take k).all (wOkB n lo hi) = true) ∧ Below w.heap.size w wr) (fun i _ => xs.length - (intOf i).toNat)
   case atStart => exact ⟨0, Nat.zero_le _, rfl, show (xs.take 0).all _ = true by simp, Below.refl _ _⟩
   case round =>
    obtain ⟨k, hk, rfl, hS, hb⟩ := hrel
    by_cases hlt : k < xs.length
    ·obtain ⟨ecs, hC, hR⟩ := HC.out k hlt
     have hC := hC.later hb
     obtain ⟨rfl, hf0, hf1⟩ := hR
     have u0 : wr.cell? ⟨b, off + k * 2, none⟩ = some (.int .i64 (nth xs k).1) := hC.c0
     have u1 : wr.cell? ⟨b, off + k * 2 + 1, none⟩ = some (.int .i64 (nth xs k).2) := hC.c1
     have tb : Below w.heap.size w (wr.alloc (.cells #[.int .i64 (nth xs k).1, .int .i64 (nth xs k).2] 94)) := hb.alloc hb.size _
     clear hC
     cases hL : btwB (atomI (nth xs k).1) 1 n
     ·have hv := Lib.hid (HV.out.trans (all_no hlt (wOkB_A hL)))
      go_wp2_with (first | (go_at_call 227; refine (upTo_calls _ _ _ hf0).mono ?_; rintro e w' ⟨rfl, rfl⟩) | (go_at_call 147; refine (within_calls _ _ _ _).mono ?_; rintro e w' ⟨rfl, rfl⟩))
      go_ret
      exact ⟨ret_bool hv.out.symm, tb⟩
     ·cases hK : btwB (nth xs k).2 lo hi
      ·have hv := Lib.hid (HV.out.trans (all_no hlt (wOkB_B hK)))
       go_wp2_with (first | (go_at_call 227; refine (upTo_calls _ _ _ hf0).mono ?_; rintro e w' ⟨rfl, rfl⟩) | (go_at_call 147; refine (within_calls _ _ _ _).mono ?_; rintro e w' ⟨rfl, rfl⟩))
       go_ret
       exact ⟨ret_bool hv.out.symm, tb⟩
      ·have hS' := Lib.hid (all_take hlt hS.out (wOkB_C hL hK))
       clear hS
       go_wp2_with (first | (go_at_call 227; refine (upTo_calls _ _ _ hf0).mono ?_; rintro e w' ⟨rfl, rfl⟩) | (go_at_call 147; refine (within_calls _ _ _ _).mono ?_; rintro e w' ⟨rfl, rfl⟩))
       go_roundw
       case rel => exact ⟨k + 1, by omega, by go_num, hS', tb⟩
       case measure => simp [intOf]; omega
    ·have hv := Lib.hid (HV.out.trans (all_end (by omega) hS.out))
     go_wp2_with (first | (go_at_call 227; refine (upTo_calls _ _ _ hf0).mono ?_; rintro e w' ⟨rfl, rfl⟩) | (go_at_call 147; refine (within_calls _ _ _ _).mono ?_; rintro e w' ⟨rfl, rfl⟩))
     go_ret
     exact ⟨ret_bool hv.out.symm, hb⟩
  ·have : xs = [] := by cases xs <;> simp_all
   subst this
   have hv : Hid (weighedB [] n lo hi = true) := HV.out
   clear h hne
   go_enter Tryz.func225, Tryz.ntmps225
   go_wp2
   refine wp_loop_rounds 1 ?_
   rw [rounds_succ]
   go_wp2
   go_ret
   exact ⟨ret_bool hv.out.symm, Below.refl _ _⟩

def headsI (r : RuleD) (n : Int) : Bool := setOkB r.heads n && (if r.choice then btwB (r.heads.length : Int) 1 20 else btwB (r.heads.length : Int) 0 1)
theorem headsI_A {r : RuleD} {n : Int} (h : setOkB r.heads n = false) : headsI r n = false := by simp only [headsI, h, Bool.false_and]
theorem headsI_B {r : RuleD} {n : Int} (h : setOkB r.heads n = true) (hc : r.choice = true) : headsI r n = btwB (r.heads.length : Int) 1 20 := by simp only [headsI, h, hc, Bool.true_and, if_true]
theorem headsI_C {r : RuleD} {n : Int} (h : setOkB r.heads n = true) (hc : r.choice = false) : headsI r n = btwB (r.heads.length : Int) 0 1 := by simp [headsI, h, hc]

set_option maxHeartbeats 400000 in
theorem headsOk_calls {cs : List Value} {r : RuleD} {w : World} (n : Int) (h : Rd.R w cs r) :
  Calls Tryz.prog 164 #[.agg cs.toArray, .int .i64 n] w fun e w' => e = .returned (.bool (headsI r n)) ∧ Below w.heap.size w w' := by
 obtain ⟨c1, c4, rfl, hf, g1, g4⟩ := h
 obtain ⟨ah, ch, rfl, _, h1⟩ := g1.sl
 obtain ⟨ab, cb, rfl, _, h4⟩ := g4.sl
 have hm1 := h1.1
 clear g1 g4 hf h4
 cases hA : setOkB r.heads n
 ·have hv := Lib.hid (headsI_A hA)
  cases hc : r.choice
  all_goals
   go_enter Tryz.func164, Tryz.ntmps164
   go_wp2_with (first | (go_at_call 97; refine (implSetOk_calls _ _ _ _ _ (h1.later ((Below.refl _ _).alloc (by simp) _)).ints).mono ?_; rintro e w' ⟨rfl, rfl⟩) | (go_at_call 147; refine (within_calls _ _ _ _).mono ?_; rintro e w' ⟨rfl, rfl⟩))
   go_ret
   exact ⟨ret_bool hv.out.symm, (Below.refl _ _).alloc (by simp) _⟩
 ·cases hc : r.choice
  ·have hv := Lib.hid (headsI_C hA hc)
   go_enter Tryz.func164, Tryz.ntmps164
   go_wp2_with (first | (go_at_call 97; refine (implSetOk_calls _ _ _ _ _ (h1.later ((Below.refl _ _).alloc (by simp) _)).ints).mono ?_; rintro e w' ⟨rfl, rfl⟩) | (go_at_call 147; refine (within_calls _ _ _ _).mono ?_; rintro e w' ⟨rfl, rfl⟩))
   go_ret
   exact ⟨ret_bool hv.out.symm, (Below.refl _ _).alloc (by simp) _⟩
  ·have hv := Lib.hid (headsI_B hA hc)
   go_enter Tryz.func164, Tryz.ntmps164
   go_wp2_with (first | (go_at_call 97; refine (implSetOk_calls _ _ _ _ _ (h1.later ((Below.refl _ _).alloc (by simp) _)).ints).mono ?_; rintro e w' ⟨rfl, rfl⟩) | (go_at_call 147; refine (within_calls _ _ _ _).mono ?_; rintro e w' ⟨rfl, rfl⟩))
   go_ret
   exact ⟨ret_bool hv.out.symm, (Below.refl _ _).alloc (by simp) _⟩

def bodyI (r : RuleD) (n : Int) : Bool := if r.weight then btwB r.bound (-100000) 100000 && weighedB r.body n 1 1000 else btwB r.bound 0 0 && weighedB r.body n 1 1
theorem bodyI_T {r : RuleD} {n : Int} (hw : r.weight = true) : bodyI r n = (btwB r.bound (-100000) 100000 && weighedB r.body n 1 1000) := by simp only [bodyI, hw, if_true]
theorem bodyI_F {r : RuleD} {n : Int} (hw : r.weight = false) : bodyI r n = (btwB r.bound 0 0 && weighedB r.body n 1 1) := by simp [bodyI, hw]
set_option maxHeartbeats 400000 in
theorem bodyOk_calls {cs : List Value} {r : RuleD} {w : World} (n : Int) (h : Rd.R w cs r) :
  Calls Tryz.prog 165 #[.agg cs.toArray, .int .i64 n] w fun e w' => e = .returned (.bool (bodyI r n)) ∧ Below w.heap.size w w' := by
 obtain ⟨c1, c4, rfl, hf, g1, g4⟩ := h
 clear hf g1
 cases hw : r.weight
 ·cases hB : btwB r.bound 0 0
  ·have hv := Lib.hid ((bodyI_F (n := n) hw).trans (by rw [hB, Bool.false_and]))
   go_enter Tryz.func165, Tryz.ntmps165
   go_wp2_with (first | (go_at_call 225; refine (weighedOk_calls _ _ _ (Rd.mono (α := List (Int × Int)) ((Below.refl _ _).alloc (by simp) _) g4)).mono ?_; rintro e w1 ⟨rfl, b1⟩) | (go_at_call 147; refine (within_calls _ _ _ _).mono ?_; rintro e w' ⟨rfl, rfl⟩))
   go_ret
   exact ⟨ret_bool hv.out.symm, (Below.refl _ _).alloc (by simp) _⟩
  ·have hv := Lib.hid ((bodyI_F (n := n) hw).trans (by rw [hB, Bool.true_and]))
   go_enter Tryz.func165, Tryz.ntmps165
   go_wp2_with (first | (go_at_call 225; refine (weighedOk_calls _ _ _ (Rd.mono (α := List (Int × Int)) ((Below.refl _ _).alloc (by simp) _) g4)).mono ?_; rintro e w1 ⟨rfl, b1⟩) | (go_at_call 147; refine (within_calls _ _ _ _).mono ?_; rintro e w' ⟨rfl, rfl⟩))
   go_ret
   exact ⟨ret_bool hv.out.symm, ((Below.refl _ _).alloc (by simp) _).step b1⟩
 ·cases hB : btwB r.bound (-100000) 100000
  ·have hv := Lib.hid ((bodyI_T (n := n) hw).trans (by rw [hB, Bool.false_and]))
   go_enter Tryz.func165, Tryz.ntmps165
   go_wp2_with (first | (go_at_call 225; refine (weighedOk_calls _ _ _ (Rd.mono (α := List (Int × Int)) ((Below.refl _ _).alloc (by simp) _) g4)).mono ?_; rintro e w1 ⟨rfl, b1⟩) | (go_at_call 147; refine (within_calls _ _ _ _).mono ?_; rintro e w' ⟨rfl, rfl⟩))
   go_ret
   exact ⟨ret_bool hv.out.symm, (Below.refl _ _).alloc (by simp) _⟩
  ·have hv := Lib.hid ((bodyI_T (n := n) hw).trans (by rw [hB, Bool.true_and]))
   go_enter Tryz.func165, Tryz.ntmps165
   go_wp2_with (first | (go_at_call 225; refine (weighedOk_calls _ _ _ (Rd.mono (α := List (Int × Int)) ((Below.refl _ _).alloc (by simp) _) g4)).mono ?_; rintro e w1 ⟨rfl, b1⟩) | (go_at_call 147; refine (within_calls _ _ _ _).mono ?_; rintro e w' ⟨rfl, rfl⟩))
   go_ret
   exact ⟨ret_bool hv.out.symm, ((Below.refl _ _).alloc (by simp) _).step b1⟩

/-- The two readings of 'a literal of an atom up to n'. -/
theorem lit_same {l n : Int} (hl : Fits l) (h0 : 0 ≤ n) (h1 : n ≤ 12) : btwB (atomI l) 1 n = litB l n := by
 unfold Fits at hl
 unfold litB btwB
 rw [Bool.eq_iff_iff, Bool.or_eq_true, decide_eq_true_eq, decide_eq_true_eq, decide_eq_true_eq]
 unfold atomI
 split
 ·omega
 ·split <;> omega

/-- All numbers of a rule are of 64 bits. -/
def FitsR (r : RuleD) : Prop := Fits r.bound ∧ ∀ p ∈ r.body, Fits p.1 ∧ Fits p.2
theorem rd_pairs {w : World} {cs : List Value} {xs : List (Int × Int)} (h : RdL w cs xs) : ∀ p ∈ xs, Fits p.1 ∧ Fits p.2 := by
 obtain ⟨a, cap, rfl, _, _, _, h⟩ := h
 intro p hp
 obtain ⟨i, hi, rfl⟩ := List.getElem_of_mem hp
 obtain ⟨_, _, _, _, _, _, hf⟩ := h i hi
 rwa [nth_eq hi] at hf
theorem rd_rule {w : World} {cs : List Value} {r : RuleD} (h : Rd.R w cs r) : FitsR r := by
 obtain ⟨c1, c4, _, hf, _, h4⟩ := h
 exact ⟨hf, rd_pairs h4⟩

theorem all_congr {α : Type} {f g : α → Bool} {xs : List α} (h : ∀ x ∈ xs, f x = g x) : xs.all f = xs.all g := by
 induction xs with
 | nil => rfl
 | cons a r ih =>
  rw [List.all_cons, List.all_cons, h a (List.mem_cons_self ..), ih fun x hx => h x (List.mem_cons_of_mem _ hx)]

theorem ruleOk_same {r : RuleD} {n : Int} (hf : FitsR r) : (headsI r n && bodyI r n) = ruleOkB r n := by
 cases hA : setOkB r.heads n
 ·rw [headsI_A hA, ruleOkB_A hA, Bool.false_and]
 ·obtain ⟨h0, h1⟩ := setOkB_n hA
  have e1 : headsI r n = headsB r n := by
   unfold headsI headsB
   congr 1
   split
   ·rfl
   ·unfold btwB; rw [decide_eq_decide]; omega
  have e2 : bodyI r n = bodyB r n := by
   unfold bodyI bodyB weighedB
   cases hw : r.weight
   ·have e3 : r.body.all (wOkB n 1 1) = r.body.all (wlitB false n) := all_congr fun p hp => by
     unfold wOkB wlitB
     rw [lit_same (hf.2 p hp).1 h0 h1, Bool.and_assoc]
     congr 1
     rw [Bool.eq_iff_iff]
     simp [btwB]
     omega
    rw [e3]
    simp only [Bool.false_or, Bool.false_eq_true, if_false]
    by_cases hb : r.bound = 0
    ·rw [hb]; simp [btwB]
    ·have h1 : btwB r.bound 0 0 = false := btwB_no (by omega)
     have h2 : (r.bound == 0) = false := by simpa using hb
     rw [h1, h2]; simp
   ·have e3 : r.body.all (wOkB n 1 1000) = r.body.all (wlitB true n) := all_congr fun p hp => by
     unfold wOkB wlitB
     rw [lit_same (hf.2 p hp).1 h0 h1]
     simp
    rw [e3]
    simp only [Bool.true_or, if_true, Bool.and_true]
    cases decide (r.body.length ≤ 20) <;> cases btwB r.bound (-100000) 100000 <;> simp
  unfold ruleOkB
  rw [e1, e2]

set_option maxHeartbeats 400000 in
theorem implRuleOk_calls {cs : List Value} {r : RuleD} {w : World} (n : Int) (h : Rd.R w cs r) :
  Calls Tryz.prog 74 #[.agg cs.toArray, .int .i64 n] w fun e w' => e = .returned (.bool (ruleOkB r n)) ∧ Below w.heap.size w w' := by
 have hs := Lib.hid (ruleOk_same (n := n) (rd_rule h))
 have h' := h
 obtain ⟨c1, c4, rfl, hf, g1, g4⟩ := h'
 clear hf g1 g4
 cases hA : headsI r n
 ·have hv : Hid (ruleOkB r n = false) := by rw [← hs.out, hA]; rfl
  go_enter Tryz.func74, Tryz.ntmps74
  go_wp2_with fail
  refine (headsOk_calls _ (Rd.mono ((Below.refl _ _).alloc (by simp) _) h)).mono ?_
  rintro e w1 ⟨rfl, b1⟩
  go_wp2
  go_ret
  exact ⟨ret_bool hv.out.symm, ((Below.refl _ _).alloc (by simp) _).step b1⟩
 ·have hv : Hid (ruleOkB r n = bodyI r n) := by rw [← hs.out, hA]; rfl
  go_enter Tryz.func74, Tryz.ntmps74
  go_wp2_with fail
  refine (headsOk_calls _ (Rd.mono ((Below.refl _ _).alloc (by simp) _) h)).mono ?_
  rintro e w1 ⟨rfl, b1⟩
  obtain ⟨hc1, hf1⟩ := bcell b1
  have hz1 : w.heap.size < w1.heap.size := (by have := b1.size; simp at this; omega)
  have tb := (show Below w.heap.size w _ from (Below.refl _ _).alloc (by simp) _).step b1
  go_wp2_with fail
  refine (bodyOk_calls _ (Rd.mono tb h)).mono ?_
  rintro e w2 ⟨rfl, b2⟩
  go_wp2
  go_ret
  exact ⟨ret_bool hv.out.symm, tb.step b2⟩

end Go.Proofs.YthikhkeofcjdfaaGreat
