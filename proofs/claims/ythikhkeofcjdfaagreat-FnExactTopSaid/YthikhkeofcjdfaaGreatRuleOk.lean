/-
 RuleOk: what spec.RuleOk and impl.RuleOk answer. No condition of its own.
-/
import Derived.Test.YthikhkeofcjdfaaGreatHolds
import Derived.Test.YthikhkeofcjdfaaGreatFill
namespace Go.Proofs.YthikhkeofcjdfaaGreat
set_option linter.unusedVariables false
set_option linter.unusedSimpArgs false
open Go.RowKit
set_option maxRecDepth 100000

/-- A literal of an atom up to n. -/
def litB (l n : Int) : Bool := btwB l 1 n || btwB l (-n) (-1)
theorem litB_1 {l n : Int} (h : btwB l 1 n = true) : litB l n = true := by unfold litB; rw [h]; rfl
theorem litB_2 {l n : Int} (h : btwB l 1 n = false) : litB l n = btwB l (-n) (-1) := by unfold litB; rw [h]; rfl
def wlitB (wt : Bool) (n : Int) (p : Int × Int) : Bool := litB p.1 n && (wt || p.2 == 1) && btwB p.2 1 1000
def headsB (r : RuleD) (n : Int) : Bool := setOkB r.heads n && (if r.choice then btwB (r.heads.length : Int) 1 20 else decide (r.heads.length ≤ 1))
def bodyB (r : RuleD) (n : Int) : Bool := decide (r.body.length ≤ 20) && (r.weight || r.bound == 0) && btwB r.bound (-100000) 100000 && r.body.all (wlitB r.weight n)
def ruleOkB (r : RuleD) (n : Int) : Bool := headsB r n && bodyB r n

theorem setOkB_n {xs : List Int} {n : Int} (h : setOkB xs n = true) : 0 ≤ n ∧ n ≤ 12 := by
 apply Classical.byContradiction
 intro hn
 rw [setOkB_out hn] at h
 cases h

theorem all_take {α : Type} [Inhabited α] {f : α → Bool} {xs : List α} {k : Nat} (hk : k < xs.length) (h : (xs.take k).all f = true) (h1 : f (nth xs k) = true) : (xs.take (k + 1)).all f = true := by
 rw [take_nth hk, List.all_append, h]; simp [h1]
theorem all_no {α : Type} [Inhabited α] {f : α → Bool} {xs : List α} {k : Nat} (hk : k < xs.length) (h1 : f (nth xs k) = false) : xs.all f = false := by
 rw [List.all_eq_false]
 exact ⟨_, nth_mem hk, by rw [h1]; simp⟩
theorem all_end {α : Type} {f : α → Bool} {xs : List α} {k : Nat} (hk : xs.length ≤ k) (h : (xs.take k).all f = true) : xs.all f = true := by
 rwa [List.take_of_length_le hk] at h

theorem l02Lit_calls (l n : Int) (w : World) (h0 : 0 ≤ n) (h1 : n ≤ 12) :
  Calls Tryz.prog 67 #[.int .i64 l, .int .i64 n] w fun e w' => e = .returned (.bool (litB l n)) ∧ w = w' := by
 cases hb : btwB l 1 n
 ·have hv := Lib.hid (litB_2 hb)
  go_enter Tryz.func67, Tryz.ntmps67
  go_wp2_with (go_at_call 66; refine (between_calls _ _ _ _).mono ?_; rintro e w' ⟨rfl, rfl⟩)
  go_ret
  exact ⟨ret_bool hv.out.symm, rfl⟩
 ·have hv := Lib.hid (litB_1 hb)
  go_enter Tryz.func67, Tryz.ntmps67
  go_wp2_with (go_at_call 66; refine (between_calls _ _ _ _).mono ?_; rintro e w' ⟨rfl, rfl⟩)
  go_ret
  exact ⟨ret_bool hv.out.symm, rfl⟩

theorem ruleOkB_A {r : RuleD} {n : Int} (h : setOkB r.heads n = false) : ruleOkB r n = false := by simp [ruleOkB, headsB, h]
theorem ruleOkB_B {r : RuleD} {n : Int} (h : 20 < r.body.length) : ruleOkB r n = false := by
 have : decide (r.body.length ≤ 20) = false := decide_eq_false (by omega)
 simp [ruleOkB, bodyB, this]
theorem ruleOkB_C {r : RuleD} {n : Int} (hc : r.choice = true) (h : btwB (r.heads.length : Int) 1 20 = false) : ruleOkB r n = false := by simp [ruleOkB, headsB, hc, h]
theorem ruleOkB_D {r : RuleD} {n : Int} (hc : r.choice = false) (h : 1 < r.heads.length) : ruleOkB r n = false := by
 have : decide (r.heads.length ≤ 1) = false := decide_eq_false (by omega)
 simp only [ruleOkB, headsB, hc, Bool.false_eq_true, if_false, this, Bool.and_false, Bool.false_and]
theorem ruleOkB_E {r : RuleD} {n : Int} (hw : r.weight = false) (h : (r.bound == 0) = false) : ruleOkB r n = false := by simp only [ruleOkB, bodyB, hw, h, Bool.false_or, Bool.and_false, Bool.false_and]
theorem ruleOkB_F {r : RuleD} {n : Int} (h : btwB r.bound (-100000) 100000 = false) : ruleOkB r n = false := by simp [ruleOkB, bodyB, h]
theorem ruleOkB_G {r : RuleD} {n : Int} (h : r.body.all (wlitB r.weight n) = false) : ruleOkB r n = false := by simp only [ruleOkB, bodyB, h, Bool.and_false]
theorem ruleOkB_H {r : RuleD} {n : Int} (hA : setOkB r.heads n = true) (hB : r.body.length ≤ 20) (hC : (if r.choice then btwB (r.heads.length : Int) 1 20 else decide (r.heads.length ≤ 1)) = true) (hE : (r.weight || r.bound == 0) = true)
  (hF : btwB r.bound (-100000) 100000 = true) : ruleOkB r n = r.body.all (wlitB r.weight n) := by
 simp only [ruleOkB, headsB, bodyB, hA, decide_eq_true hB, hC, hE, hF, Bool.true_and]

theorem wlitB_A {wt : Bool} {n : Int} {p : Int × Int} (h : litB p.1 n = false) : wlitB wt n p = false := by simp [wlitB, h]
theorem wlitB_B {n : Int} {p : Int × Int} (h : (p.2 != 1) = true) : wlitB false n p = false := by
 have : (p.2 == 1) = false := by simpa using h
 simp [wlitB, this]
theorem wlitB_C {wt : Bool} {n : Int} {p : Int × Int} (h : btwB p.2 1 1000 = false) : wlitB wt n p = false := by simp [wlitB, h]
theorem wlitB_D {n : Int} {p : Int × Int} (h1 : litB p.1 n = true) (h3 : btwB p.2 1 1000 = true) : wlitB true n p = true := by simp [wlitB, h1, h3]
theorem wlitB_E {n : Int} {p : Int × Int} (h1 : litB p.1 n = true) (h2 : (p.2 != 1) = false) (h3 : btwB p.2 1 1000 = true) : wlitB false n p = true := by
 have : (p.2 == 1) = true := by simpa using h2
 simp [wlitB, h1, this, h3]

set_option maxHeartbeats 4000000 in
theorem specRuleOk_calls {cs : List Value} {r : RuleD} {w : World} (n : Int) (h : Rd.R w cs r) :
  Calls Tryz.prog 15 #[.agg cs.toArray, .int .i64 n] w fun e w' => e = .returned (.bool (ruleOkB r n)) ∧ Below w.heap.size w w' := by
 obtain ⟨c1, c4, rfl, hf, g1, g4⟩ := h
 obtain ⟨ah, ch, rfl, _, h1⟩ := g1.sl
 obtain ⟨ab, cb, rfl, _, h4⟩ := g4.sl
 unfold Fits at hf
 have hm1 := h1.1
 have hm4 := h4.1
 clear g1 g4
 cases hA : setOkB r.heads n
 ·have hv := Lib.hid (ruleOkB_A hA)
  go_enter Tryz.func15, Tryz.ntmps15
  go_wp2_with (first | (go_at_call 65; refine (specSetOk_calls _ _ _ _ _ (h1.later ((Below.refl _ _).alloc (by simp) _)).ints).mono ?_; rintro e w1 ⟨rfl, b1⟩; obtain ⟨hc1, hf1⟩ := bcell b1; have hz1 : w.heap.size < w1.heap.size := (by have := b1.size; simp at this; omega); have tb : Below w.heap.size w w1 := ((Below.refl _ _).alloc (by simp) _).step b1) | (go_at_call 66; refine (between_calls _ _ _ _).mono ?_; rintro e w' ⟨rfl, rfl⟩) | (go_at_call 67; refine (l02Lit_calls _ _ _ hn0 hn1).mono ?_; rintro e w' ⟨rfl, rfl⟩))
  go_ret
  exact ⟨ret_bool hv.out.symm, tb⟩
 ·obtain ⟨hn0, hn1⟩ := setOkB_n hA
  by_cases hB : 20 < r.body.length
  ·have hv := Lib.hid (ruleOkB_B (n := n) hB)
   have hBi : (20 : Int) < (r.body.length : Int) := by omega
   go_enter Tryz.func15, Tryz.ntmps15
   go_wp2_with (first | (go_at_call 65; refine (specSetOk_calls _ _ _ _ _ (h1.later ((Below.refl _ _).alloc (by simp) _)).ints).mono ?_; rintro e w1 ⟨rfl, b1⟩; obtain ⟨hc1, hf1⟩ := bcell b1; have hz1 : w.heap.size < w1.heap.size := (by have := b1.size; simp at this; omega); have tb : Below w.heap.size w w1 := ((Below.refl _ _).alloc (by simp) _).step b1) | (go_at_call 66; refine (between_calls _ _ _ _).mono ?_; rintro e w' ⟨rfl, rfl⟩) | (go_at_call 67; refine (l02Lit_calls _ _ _ hn0 hn1).mono ?_; rintro e w' ⟨rfl, rfl⟩))
   go_ret
   exact ⟨ret_bool hv.out.symm, tb⟩
  ·have hBi : (r.body.length : Int) ≤ 20 := by omega
   clear hB
   cases hc : r.choice
   ·by_cases hD : 1 < r.heads.length
    ·have hv := Lib.hid (ruleOkB_D (n := n) hc hD)
     have hDi : (1 : Int) < (r.heads.length : Int) := by omega
     go_enter Tryz.func15, Tryz.ntmps15
     go_wp2_with (first | (go_at_call 65; refine (specSetOk_calls _ _ _ _ _ (h1.later ((Below.refl _ _).alloc (by simp) _)).ints).mono ?_; rintro e w1 ⟨rfl, b1⟩; obtain ⟨hc1, hf1⟩ := bcell b1; have hz1 : w.heap.size < w1.heap.size := (by have := b1.size; simp at this; omega); have tb : Below w.heap.size w w1 := ((Below.refl _ _).alloc (by simp) _).step b1) | (go_at_call 66; refine (between_calls _ _ _ _).mono ?_; rintro e w' ⟨rfl, rfl⟩) | (go_at_call 67; refine (l02Lit_calls _ _ _ hn0 hn1).mono ?_; rintro e w' ⟨rfl, rfl⟩))
     go_ret
     exact ⟨ret_bool hv.out.symm, tb⟩
    ·have hDi : (r.heads.length : Int) ≤ 1 := by omega
     have hHC : (if r.choice then btwB (r.heads.length : Int) 1 20 else decide (r.heads.length ≤ 1)) = true := by rw [hc]; simp; omega
     clear hD
     cases hw : r.weight
     ·have hW := Lib.hid hw
      cases hE : (r.bound != 0)
      ·have hHE : (r.weight || r.bound == 0) = true := by rw [hw]; simpa using hE
       cases hF : btwB r.bound (-100000) 100000
       ·have hv := Lib.hid (ruleOkB_F (n := n) hF)
        clear hHC hHE
        go_enter Tryz.func15, Tryz.ntmps15
        go_wp2_with (first | (go_at_call 65; refine (specSetOk_calls _ _ _ _ _ (h1.later ((Below.refl _ _).alloc (by simp) _)).ints).mono ?_; rintro e w1 ⟨rfl, b1⟩; obtain ⟨hc1, hf1⟩ := bcell b1; have hz1 : w.heap.size < w1.heap.size := (by have := b1.size; simp at this; omega); have tb : Below w.heap.size w w1 := ((Below.refl _ _).alloc (by simp) _).step b1) | (go_at_call 66; refine (between_calls _ _ _ _).mono ?_; rintro e w' ⟨rfl, rfl⟩) | (go_at_call 67; refine (l02Lit_calls _ _ _ hn0 hn1).mono ?_; rintro e w' ⟨rfl, rfl⟩))
        go_ret
        exact ⟨ret_bool hv.out.symm, tb⟩
       ·skip
        have HV : Hid (ruleOkB r n = r.body.all (wlitB false n)) := by have hh := ruleOkB_H hA (by omega) hHC hHE hF; rw [hW.out] at hh; exact hh
        by_cases hne : 0 < r.body.length
        ·obtain ⟨b, off, rfl, hcb⟩ := h4.base hne
         have HCB := Lib.hid hcb
         clear hcb h4 hHC hHE
         go_enter Tryz.func15, Tryz.ntmps15
         go_wp2_with (first | (go_at_call 65; refine (specSetOk_calls _ _ _ _ _ (h1.later ((Below.refl _ _).alloc (by simp) _)).ints).mono ?_; rintro e w1 ⟨rfl, b1⟩; obtain ⟨hc1, hf1⟩ := bcell b1; have hz1 : w.heap.size < w1.heap.size := (by have := b1.size; simp at this; omega); have tb : Below w.heap.size w w1 := ((Below.refl _ _).alloc (by simp) _).step b1) | (go_at_call 66; refine (between_calls _ _ _ _).mono ?_; rintro e w' ⟨rfl, rfl⟩) | (go_at_call 67; refine (l02Lit_calls _ _ _ hn0 hn1).mono ?_; rintro e w' ⟨rfl, rfl⟩))
         go_loop [5] (fun i => ∃ k : Nat, k ≤ r.body.length ∧ i = .int .i64 k ∧ Hid ((r.body.take k).all (wlitB false n) = true)) (fun i => r.body.length - (intOf i).toNat)
         case atStart => exact ⟨0, Nat.zero_le _, rfl, show (r.body.take 0).all _ = true by simp⟩
         case round =>
          obtain ⟨k, hk, rfl, hS⟩ := hrel
          by_cases hlt : k < r.body.length
          ·obtain ⟨ecs, hC, hR⟩ := HCB.out k hlt
           have hC := hC.later tb
           obtain ⟨rfl, hf0, hf1'⟩ := hR
           unfold Fits at hf0 hf1'
           have u0 : w1.cell? ⟨b, off + k * 2, none⟩ = some (.int .i64 (nth r.body k).1) := hC.c0
           have u1 : w1.cell? ⟨b, off + k * 2 + 1, none⟩ = some (.int .i64 (nth r.body k).2) := hC.c1
           clear hC
           cases hL : litB (nth r.body k).1 n
           ·have hv : Hid (ruleOkB r n = false) := HV.out.trans (all_no hlt (wlitB_A hL))
            go_wp2_with (first | (go_at_call 65; refine (specSetOk_calls _ _ _ _ _ (h1.later ((Below.refl _ _).alloc (by simp) _)).ints).mono ?_; rintro e w1 ⟨rfl, b1⟩; obtain ⟨hc1, hf1⟩ := bcell b1; have hz1 : w.heap.size < w1.heap.size := (by have := b1.size; simp at this; omega); have tb : Below w.heap.size w w1 := ((Below.refl _ _).alloc (by simp) _).step b1) | (go_at_call 66; refine (between_calls _ _ _ _).mono ?_; rintro e w' ⟨rfl, rfl⟩) | (go_at_call 67; refine (l02Lit_calls _ _ _ hn0 hn1).mono ?_; rintro e w' ⟨rfl, rfl⟩))
            go_ret
            exact ⟨ret_bool hv.out.symm, tb⟩
           ·skip
            cases hJ : ((nth r.body k).2 != 1)
            ·cases hK : btwB (nth r.body k).2 1 1000
             ·have hv : Hid (ruleOkB r n = false) := HV.out.trans (all_no hlt (wlitB_C hK))
              go_wp2_with (first | (go_at_call 65; refine (specSetOk_calls _ _ _ _ _ (h1.later ((Below.refl _ _).alloc (by simp) _)).ints).mono ?_; rintro e w1 ⟨rfl, b1⟩; obtain ⟨hc1, hf1⟩ := bcell b1; have hz1 : w.heap.size < w1.heap.size := (by have := b1.size; simp at this; omega); have tb : Below w.heap.size w w1 := ((Below.refl _ _).alloc (by simp) _).step b1) | (go_at_call 66; refine (between_calls _ _ _ _).mono ?_; rintro e w' ⟨rfl, rfl⟩) | (go_at_call 67; refine (l02Lit_calls _ _ _ hn0 hn1).mono ?_; rintro e w' ⟨rfl, rfl⟩))
              go_ret
              exact ⟨ret_bool hv.out.symm, tb⟩
             ·have hQ := Lib.hid (wlitB_E hL hJ hK)
              have hS' : Hid ((r.body.take (k + 1)).all (wlitB false n) = true) := all_take hlt hS.out hQ.out
              clear hS hQ
              go_wp2_with (first | (go_at_call 65; refine (specSetOk_calls _ _ _ _ _ (h1.later ((Below.refl _ _).alloc (by simp) _)).ints).mono ?_; rintro e w1 ⟨rfl, b1⟩; obtain ⟨hc1, hf1⟩ := bcell b1; have hz1 : w.heap.size < w1.heap.size := (by have := b1.size; simp at this; omega); have tb : Below w.heap.size w w1 := ((Below.refl _ _).alloc (by simp) _).step b1) | (go_at_call 66; refine (between_calls _ _ _ _).mono ?_; rintro e w' ⟨rfl, rfl⟩) | (go_at_call 67; refine (l02Lit_calls _ _ _ hn0 hn1).mono ?_; rintro e w' ⟨rfl, rfl⟩))
              go_round
              case rel => exact ⟨k + 1, by omega, by go_num, hS'⟩
              case measure => simp [intOf]; omega
            ·have hv : Hid (ruleOkB r n = false) := HV.out.trans (all_no hlt (wlitB_B hJ))
             go_wp2_with (first | (go_at_call 65; refine (specSetOk_calls _ _ _ _ _ (h1.later ((Below.refl _ _).alloc (by simp) _)).ints).mono ?_; rintro e w1 ⟨rfl, b1⟩; obtain ⟨hc1, hf1⟩ := bcell b1; have hz1 : w.heap.size < w1.heap.size := (by have := b1.size; simp at this; omega); have tb : Below w.heap.size w w1 := ((Below.refl _ _).alloc (by simp) _).step b1) | (go_at_call 66; refine (between_calls _ _ _ _).mono ?_; rintro e w' ⟨rfl, rfl⟩) | (go_at_call 67; refine (l02Lit_calls _ _ _ hn0 hn1).mono ?_; rintro e w' ⟨rfl, rfl⟩))
             go_ret
             exact ⟨ret_bool hv.out.symm, tb⟩
          ·have hv : Hid (ruleOkB r n = true) := HV.out.trans (all_end (by omega) hS.out)
           go_wp2_with (first | (go_at_call 65; refine (specSetOk_calls _ _ _ _ _ (h1.later ((Below.refl _ _).alloc (by simp) _)).ints).mono ?_; rintro e w1 ⟨rfl, b1⟩; obtain ⟨hc1, hf1⟩ := bcell b1; have hz1 : w.heap.size < w1.heap.size := (by have := b1.size; simp at this; omega); have tb : Below w.heap.size w w1 := ((Below.refl _ _).alloc (by simp) _).step b1) | (go_at_call 66; refine (between_calls _ _ _ _).mono ?_; rintro e w' ⟨rfl, rfl⟩) | (go_at_call 67; refine (l02Lit_calls _ _ _ hn0 hn1).mono ?_; rintro e w' ⟨rfl, rfl⟩))
           go_ret
           exact ⟨ret_bool hv.out.symm, tb⟩
        ·have hbn : r.body = [] := by cases hh : r.body <;> simp_all
         have hv : Hid (ruleOkB r n = true) := HV.out.trans (by rw [hbn]; rfl)
         have hbl : (r.body.length : Int) = 0 := by rw [hbn]; rfl
         clear h4 hne hHC hHE hBi hbn hm4
         go_enter Tryz.func15, Tryz.ntmps15
         go_wp2_with (first | (go_at_call 65; refine (specSetOk_calls _ _ _ _ _ (h1.later ((Below.refl _ _).alloc (by simp) _)).ints).mono ?_; rintro e w1 ⟨rfl, b1⟩; obtain ⟨hc1, hf1⟩ := bcell b1; have hz1 : w.heap.size < w1.heap.size := (by have := b1.size; simp at this; omega); have tb : Below w.heap.size w w1 := ((Below.refl _ _).alloc (by simp) _).step b1) | (go_at_call 66; refine (between_calls _ _ _ _).mono ?_; rintro e w' ⟨rfl, rfl⟩) | (go_at_call 67; refine (l02Lit_calls _ _ _ hn0 hn1).mono ?_; rintro e w' ⟨rfl, rfl⟩))
         refine wp_loop_rounds 1 ?_
         rw [rounds_succ]
         go_wp2_with (first | (go_at_call 65; refine (specSetOk_calls _ _ _ _ _ (h1.later ((Below.refl _ _).alloc (by simp) _)).ints).mono ?_; rintro e w1 ⟨rfl, b1⟩; obtain ⟨hc1, hf1⟩ := bcell b1; have hz1 : w.heap.size < w1.heap.size := (by have := b1.size; simp at this; omega); have tb : Below w.heap.size w w1 := ((Below.refl _ _).alloc (by simp) _).step b1) | (go_at_call 66; refine (between_calls _ _ _ _).mono ?_; rintro e w' ⟨rfl, rfl⟩) | (go_at_call 67; refine (l02Lit_calls _ _ _ hn0 hn1).mono ?_; rintro e w' ⟨rfl, rfl⟩))
         go_ret
         exact ⟨ret_bool hv.out.symm, tb⟩
      ·have hv := Lib.hid (ruleOkB_E (n := n) hw (by simpa using hE))
       clear hHC
       go_enter Tryz.func15, Tryz.ntmps15
       go_wp2_with (first | (go_at_call 65; refine (specSetOk_calls _ _ _ _ _ (h1.later ((Below.refl _ _).alloc (by simp) _)).ints).mono ?_; rintro e w1 ⟨rfl, b1⟩; obtain ⟨hc1, hf1⟩ := bcell b1; have hz1 : w.heap.size < w1.heap.size := (by have := b1.size; simp at this; omega); have tb : Below w.heap.size w w1 := ((Below.refl _ _).alloc (by simp) _).step b1) | (go_at_call 66; refine (between_calls _ _ _ _).mono ?_; rintro e w' ⟨rfl, rfl⟩) | (go_at_call 67; refine (l02Lit_calls _ _ _ hn0 hn1).mono ?_; rintro e w' ⟨rfl, rfl⟩))
       go_ret
       exact ⟨ret_bool hv.out.symm, tb⟩
     ·have hW := Lib.hid hw
      have hHE : (r.weight || r.bound == 0) = true := by rw [hw]; rfl
      cases hF : btwB r.bound (-100000) 100000
      ·have hv := Lib.hid (ruleOkB_F (n := n) hF)
       clear hHC hHE
       go_enter Tryz.func15, Tryz.ntmps15
       go_wp2_with (first | (go_at_call 65; refine (specSetOk_calls _ _ _ _ _ (h1.later ((Below.refl _ _).alloc (by simp) _)).ints).mono ?_; rintro e w1 ⟨rfl, b1⟩; obtain ⟨hc1, hf1⟩ := bcell b1; have hz1 : w.heap.size < w1.heap.size := (by have := b1.size; simp at this; omega); have tb : Below w.heap.size w w1 := ((Below.refl _ _).alloc (by simp) _).step b1) | (go_at_call 66; refine (between_calls _ _ _ _).mono ?_; rintro e w' ⟨rfl, rfl⟩) | (go_at_call 67; refine (l02Lit_calls _ _ _ hn0 hn1).mono ?_; rintro e w' ⟨rfl, rfl⟩))
       go_ret
       exact ⟨ret_bool hv.out.symm, tb⟩
      ·skip
       have HV : Hid (ruleOkB r n = r.body.all (wlitB true n)) := by have hh := ruleOkB_H hA (by omega) hHC hHE hF; rw [hW.out] at hh; exact hh
       by_cases hne : 0 < r.body.length
       ·obtain ⟨b, off, rfl, hcb⟩ := h4.base hne
        have HCB := Lib.hid hcb
        clear hcb h4 hHC hHE
        go_enter Tryz.func15, Tryz.ntmps15
        go_wp2_with (first | (go_at_call 65; refine (specSetOk_calls _ _ _ _ _ (h1.later ((Below.refl _ _).alloc (by simp) _)).ints).mono ?_; rintro e w1 ⟨rfl, b1⟩; obtain ⟨hc1, hf1⟩ := bcell b1; have hz1 : w.heap.size < w1.heap.size := (by have := b1.size; simp at this; omega); have tb : Below w.heap.size w w1 := ((Below.refl _ _).alloc (by simp) _).step b1) | (go_at_call 66; refine (between_calls _ _ _ _).mono ?_; rintro e w' ⟨rfl, rfl⟩) | (go_at_call 67; refine (l02Lit_calls _ _ _ hn0 hn1).mono ?_; rintro e w' ⟨rfl, rfl⟩))
        go_loop [5] (fun i => ∃ k : Nat, k ≤ r.body.length ∧ i = .int .i64 k ∧ Hid ((r.body.take k).all (wlitB true n) = true)) (fun i => r.body.length - (intOf i).toNat)
        case atStart => exact ⟨0, Nat.zero_le _, rfl, show (r.body.take 0).all _ = true by simp⟩
        case round =>
         obtain ⟨k, hk, rfl, hS⟩ := hrel
         by_cases hlt : k < r.body.length
         ·obtain ⟨ecs, hC, hR⟩ := HCB.out k hlt
          have hC := hC.later tb
          obtain ⟨rfl, hf0, hf1'⟩ := hR
          unfold Fits at hf0 hf1'
          have u0 : w1.cell? ⟨b, off + k * 2, none⟩ = some (.int .i64 (nth r.body k).1) := hC.c0
          have u1 : w1.cell? ⟨b, off + k * 2 + 1, none⟩ = some (.int .i64 (nth r.body k).2) := hC.c1
          clear hC
          cases hL : litB (nth r.body k).1 n
          ·have hv : Hid (ruleOkB r n = false) := HV.out.trans (all_no hlt (wlitB_A hL))
           go_wp2_with (first | (go_at_call 65; refine (specSetOk_calls _ _ _ _ _ (h1.later ((Below.refl _ _).alloc (by simp) _)).ints).mono ?_; rintro e w1 ⟨rfl, b1⟩; obtain ⟨hc1, hf1⟩ := bcell b1; have hz1 : w.heap.size < w1.heap.size := (by have := b1.size; simp at this; omega); have tb : Below w.heap.size w w1 := ((Below.refl _ _).alloc (by simp) _).step b1) | (go_at_call 66; refine (between_calls _ _ _ _).mono ?_; rintro e w' ⟨rfl, rfl⟩) | (go_at_call 67; refine (l02Lit_calls _ _ _ hn0 hn1).mono ?_; rintro e w' ⟨rfl, rfl⟩))
           go_ret
           exact ⟨ret_bool hv.out.symm, tb⟩
          ·skip
           cases hK : btwB (nth r.body k).2 1 1000
           ·have hv : Hid (ruleOkB r n = false) := HV.out.trans (all_no hlt (wlitB_C hK))
            go_wp2_with (first | (go_at_call 65; refine (specSetOk_calls _ _ _ _ _ (h1.later ((Below.refl _ _).alloc (by simp) _)).ints).mono ?_; rintro e w1 ⟨rfl, b1⟩; obtain ⟨hc1, hf1⟩ := bcell b1; have hz1 : w.heap.size < w1.heap.size := (by have := b1.size; simp at this; omega); have tb : Below w.heap.size w w1 := ((Below.refl _ _).alloc (by simp) _).step b1) | (go_at_call 66; refine (between_calls _ _ _ _).mono ?_; rintro e w' ⟨rfl, rfl⟩) | (go_at_call 67; refine (l02Lit_calls _ _ _ hn0 hn1).mono ?_; rintro e w' ⟨rfl, rfl⟩))
            go_ret
            exact ⟨ret_bool hv.out.symm, tb⟩
           ·have hQ := Lib.hid (wlitB_D hL hK)
            have hS' : Hid ((r.body.take (k + 1)).all (wlitB true n) = true) := all_take hlt hS.out hQ.out
            clear hS hQ
            go_wp2_with (first | (go_at_call 65; refine (specSetOk_calls _ _ _ _ _ (h1.later ((Below.refl _ _).alloc (by simp) _)).ints).mono ?_; rintro e w1 ⟨rfl, b1⟩; obtain ⟨hc1, hf1⟩ := bcell b1; have hz1 : w.heap.size < w1.heap.size := (by have := b1.size; simp at this; omega); have tb : Below w.heap.size w w1 := ((Below.refl _ _).alloc (by simp) _).step b1) | (go_at_call 66; refine (between_calls _ _ _ _).mono ?_; rintro e w' ⟨rfl, rfl⟩) | (go_at_call 67; refine (l02Lit_calls _ _ _ hn0 hn1).mono ?_; rintro e w' ⟨rfl, rfl⟩))
            go_round
            case rel => exact ⟨k + 1, by omega, by go_num, hS'⟩
            case measure => simp [intOf]; omega
         ·have hv : Hid (ruleOkB r n = true) := HV.out.trans (all_end (by omega) hS.out)
          go_wp2_with (first | (go_at_call 65; refine (specSetOk_calls _ _ _ _ _ (h1.later ((Below.refl _ _).alloc (by simp) _)).ints).mono ?_; rintro e w1 ⟨rfl, b1⟩; obtain ⟨hc1, hf1⟩ := bcell b1; have hz1 : w.heap.size < w1.heap.size := (by have := b1.size; simp at this; omega); have tb : Below w.heap.size w w1 := ((Below.refl _ _).alloc (by simp) _).step b1) | (go_at_call 66; refine (between_calls _ _ _ _).mono ?_; rintro e w' ⟨rfl, rfl⟩) | (go_at_call 67; refine (l02Lit_calls _ _ _ hn0 hn1).mono ?_; rintro e w' ⟨rfl, rfl⟩))
          go_ret
          exact ⟨ret_bool hv.out.symm, tb⟩
       ·have hbn : r.body = [] := by cases hh : r.body <;> simp_all
        have hv : Hid (ruleOkB r n = true) := HV.out.trans (by rw [hbn]; rfl)
        have hbl : (r.body.length : Int) = 0 := by rw [hbn]; rfl
        clear h4 hne hHC hHE hBi hbn hm4
        go_enter Tryz.func15, Tryz.ntmps15
        go_wp2_with (first | (go_at_call 65; refine (specSetOk_calls _ _ _ _ _ (h1.later ((Below.refl _ _).alloc (by simp) _)).ints).mono ?_; rintro e w1 ⟨rfl, b1⟩; obtain ⟨hc1, hf1⟩ := bcell b1; have hz1 : w.heap.size < w1.heap.size := (by have := b1.size; simp at this; omega); have tb : Below w.heap.size w w1 := ((Below.refl _ _).alloc (by simp) _).step b1) | (go_at_call 66; refine (between_calls _ _ _ _).mono ?_; rintro e w' ⟨rfl, rfl⟩) | (go_at_call 67; refine (l02Lit_calls _ _ _ hn0 hn1).mono ?_; rintro e w' ⟨rfl, rfl⟩))
        refine wp_loop_rounds 1 ?_
        rw [rounds_succ]
        go_wp2_with (first | (go_at_call 65; refine (specSetOk_calls _ _ _ _ _ (h1.later ((Below.refl _ _).alloc (by simp) _)).ints).mono ?_; rintro e w1 ⟨rfl, b1⟩; obtain ⟨hc1, hf1⟩ := bcell b1; have hz1 : w.heap.size < w1.heap.size := (by have := b1.size; simp at this; omega); have tb : Below w.heap.size w w1 := ((Below.refl _ _).alloc (by simp) _).step b1) | (go_at_call 66; refine (between_calls _ _ _ _).mono ?_; rintro e w' ⟨rfl, rfl⟩) | (go_at_call 67; refine (l02Lit_calls _ _ _ hn0 hn1).mono ?_; rintro e w' ⟨rfl, rfl⟩))
        go_ret
        exact ⟨ret_bool hv.out.symm, tb⟩
   ·cases hC : btwB (r.heads.length : Int) 1 20
    ·have hv := Lib.hid (ruleOkB_C (n := n) hc hC)
     go_enter Tryz.func15, Tryz.ntmps15
     go_wp2_with (first | (go_at_call 65; refine (specSetOk_calls _ _ _ _ _ (h1.later ((Below.refl _ _).alloc (by simp) _)).ints).mono ?_; rintro e w1 ⟨rfl, b1⟩; obtain ⟨hc1, hf1⟩ := bcell b1; have hz1 : w.heap.size < w1.heap.size := (by have := b1.size; simp at this; omega); have tb : Below w.heap.size w w1 := ((Below.refl _ _).alloc (by simp) _).step b1) | (go_at_call 66; refine (between_calls _ _ _ _).mono ?_; rintro e w' ⟨rfl, rfl⟩) | (go_at_call 67; refine (l02Lit_calls _ _ _ hn0 hn1).mono ?_; rintro e w' ⟨rfl, rfl⟩))
     go_ret
     exact ⟨ret_bool hv.out.symm, tb⟩
    ·have hHC : (if r.choice then btwB (r.heads.length : Int) 1 20 else decide (r.heads.length ≤ 1)) = true := by rw [hc]; simpa using hC
     cases hw : r.weight
     ·have hW := Lib.hid hw
      cases hE : (r.bound != 0)
      ·have hHE : (r.weight || r.bound == 0) = true := by rw [hw]; simpa using hE
       cases hF : btwB r.bound (-100000) 100000
       ·have hv := Lib.hid (ruleOkB_F (n := n) hF)
        clear hHC hHE
        go_enter Tryz.func15, Tryz.ntmps15
        go_wp2_with (first | (go_at_call 65; refine (specSetOk_calls _ _ _ _ _ (h1.later ((Below.refl _ _).alloc (by simp) _)).ints).mono ?_; rintro e w1 ⟨rfl, b1⟩; obtain ⟨hc1, hf1⟩ := bcell b1; have hz1 : w.heap.size < w1.heap.size := (by have := b1.size; simp at this; omega); have tb : Below w.heap.size w w1 := ((Below.refl _ _).alloc (by simp) _).step b1) | (go_at_call 66; refine (between_calls _ _ _ _).mono ?_; rintro e w' ⟨rfl, rfl⟩) | (go_at_call 67; refine (l02Lit_calls _ _ _ hn0 hn1).mono ?_; rintro e w' ⟨rfl, rfl⟩))
        go_ret
        exact ⟨ret_bool hv.out.symm, tb⟩
       ·skip
        have HV : Hid (ruleOkB r n = r.body.all (wlitB false n)) := by have hh := ruleOkB_H hA (by omega) hHC hHE hF; rw [hW.out] at hh; exact hh
        by_cases hne : 0 < r.body.length
        ·obtain ⟨b, off, rfl, hcb⟩ := h4.base hne
         have HCB := Lib.hid hcb
         clear hcb h4 hHC hHE
         go_enter Tryz.func15, Tryz.ntmps15
         go_wp2_with (first | (go_at_call 65; refine (specSetOk_calls _ _ _ _ _ (h1.later ((Below.refl _ _).alloc (by simp) _)).ints).mono ?_; rintro e w1 ⟨rfl, b1⟩; obtain ⟨hc1, hf1⟩ := bcell b1; have hz1 : w.heap.size < w1.heap.size := (by have := b1.size; simp at this; omega); have tb : Below w.heap.size w w1 := ((Below.refl _ _).alloc (by simp) _).step b1) | (go_at_call 66; refine (between_calls _ _ _ _).mono ?_; rintro e w' ⟨rfl, rfl⟩) | (go_at_call 67; refine (l02Lit_calls _ _ _ hn0 hn1).mono ?_; rintro e w' ⟨rfl, rfl⟩))
         go_loop [5] (fun i => ∃ k : Nat, k ≤ r.body.length ∧ i = .int .i64 k ∧ Hid ((r.body.take k).all (wlitB false n) = true)) (fun i => r.body.length - (intOf i).toNat)
         case atStart => exact ⟨0, Nat.zero_le _, rfl, show (r.body.take 0).all _ = true by simp⟩
         case round =>
          obtain ⟨k, hk, rfl, hS⟩ := hrel
          by_cases hlt : k < r.body.length
          ·obtain ⟨ecs, hC, hR⟩ := HCB.out k hlt
           have hC := hC.later tb
           obtain ⟨rfl, hf0, hf1'⟩ := hR
           unfold Fits at hf0 hf1'
           have u0 : w1.cell? ⟨b, off + k * 2, none⟩ = some (.int .i64 (nth r.body k).1) := hC.c0
           have u1 : w1.cell? ⟨b, off + k * 2 + 1, none⟩ = some (.int .i64 (nth r.body k).2) := hC.c1
           clear hC
           cases hL : litB (nth r.body k).1 n
           ·have hv : Hid (ruleOkB r n = false) := HV.out.trans (all_no hlt (wlitB_A hL))
            go_wp2_with (first | (go_at_call 65; refine (specSetOk_calls _ _ _ _ _ (h1.later ((Below.refl _ _).alloc (by simp) _)).ints).mono ?_; rintro e w1 ⟨rfl, b1⟩; obtain ⟨hc1, hf1⟩ := bcell b1; have hz1 : w.heap.size < w1.heap.size := (by have := b1.size; simp at this; omega); have tb : Below w.heap.size w w1 := ((Below.refl _ _).alloc (by simp) _).step b1) | (go_at_call 66; refine (between_calls _ _ _ _).mono ?_; rintro e w' ⟨rfl, rfl⟩) | (go_at_call 67; refine (l02Lit_calls _ _ _ hn0 hn1).mono ?_; rintro e w' ⟨rfl, rfl⟩))
            go_ret
            exact ⟨ret_bool hv.out.symm, tb⟩
           ·skip
            cases hJ : ((nth r.body k).2 != 1)
            ·cases hK : btwB (nth r.body k).2 1 1000
             ·have hv : Hid (ruleOkB r n = false) := HV.out.trans (all_no hlt (wlitB_C hK))
              go_wp2_with (first | (go_at_call 65; refine (specSetOk_calls _ _ _ _ _ (h1.later ((Below.refl _ _).alloc (by simp) _)).ints).mono ?_; rintro e w1 ⟨rfl, b1⟩; obtain ⟨hc1, hf1⟩ := bcell b1; have hz1 : w.heap.size < w1.heap.size := (by have := b1.size; simp at this; omega); have tb : Below w.heap.size w w1 := ((Below.refl _ _).alloc (by simp) _).step b1) | (go_at_call 66; refine (between_calls _ _ _ _).mono ?_; rintro e w' ⟨rfl, rfl⟩) | (go_at_call 67; refine (l02Lit_calls _ _ _ hn0 hn1).mono ?_; rintro e w' ⟨rfl, rfl⟩))
              go_ret
              exact ⟨ret_bool hv.out.symm, tb⟩
             ·have hQ := Lib.hid (wlitB_E hL hJ hK)
              have hS' : Hid ((r.body.take (k + 1)).all (wlitB false n) = true) := all_take hlt hS.out hQ.out
              clear hS hQ
              go_wp2_with (first | (go_at_call 65; refine (specSetOk_calls _ _ _ _ _ (h1.later ((Below.refl _ _).alloc (by simp) _)).ints).mono ?_; rintro e w1 ⟨rfl, b1⟩; obtain ⟨hc1, hf1⟩ := bcell b1; have hz1 : w.heap.size < w1.heap.size := (by have := b1.size; simp at this; omega); have tb : Below w.heap.size w w1 := ((Below.refl _ _).alloc (by simp) _).step b1) | (go_at_call 66; refine (between_calls _ _ _ _).mono ?_; rintro e w' ⟨rfl, rfl⟩) | (go_at_call 67; refine (l02Lit_calls _ _ _ hn0 hn1).mono ?_; rintro e w' ⟨rfl, rfl⟩))
              go_round
              case rel => exact ⟨k + 1, by omega, by go_num, hS'⟩
              case measure => simp [intOf]; omega
            ·have hv : Hid (ruleOkB r n = false) := HV.out.trans (all_no hlt (wlitB_B hJ))
             go_wp2_with (first | (go_at_call 65; refine (specSetOk_calls _ _ _ _ _ (h1.later ((Below.refl _ _).alloc (by simp) _)).ints).mono ?_; rintro e w1 ⟨rfl, b1⟩; obtain ⟨hc1, hf1⟩ := bcell b1; have hz1 : w.heap.size < w1.heap.size := (by have := b1.size; simp at this; omega); have tb : Below w.heap.size w w1 := ((Below.refl _ _).alloc (by simp) _).step b1) | (go_at_call 66; refine (between_calls _ _ _ _).mono ?_; rintro e w' ⟨rfl, rfl⟩) | (go_at_call 67; refine (l02Lit_calls _ _ _ hn0 hn1).mono ?_; rintro e w' ⟨rfl, rfl⟩))
             go_ret
             exact ⟨ret_bool hv.out.symm, tb⟩
          ·have hv : Hid (ruleOkB r n = true) := HV.out.trans (all_end (by omega) hS.out)
           go_wp2_with (first | (go_at_call 65; refine (specSetOk_calls _ _ _ _ _ (h1.later ((Below.refl _ _).alloc (by simp) _)).ints).mono ?_; rintro e w1 ⟨rfl, b1⟩; obtain ⟨hc1, hf1⟩ := bcell b1; have hz1 : w.heap.size < w1.heap.size := (by have := b1.size; simp at this; omega); have tb : Below w.heap.size w w1 := ((Below.refl _ _).alloc (by simp) _).step b1) | (go_at_call 66; refine (between_calls _ _ _ _).mono ?_; rintro e w' ⟨rfl, rfl⟩) | (go_at_call 67; refine (l02Lit_calls _ _ _ hn0 hn1).mono ?_; rintro e w' ⟨rfl, rfl⟩))
           go_ret
           exact ⟨ret_bool hv.out.symm, tb⟩
        ·have hbn : r.body = [] := by cases hh : r.body <;> simp_all
         have hv : Hid (ruleOkB r n = true) := HV.out.trans (by rw [hbn]; rfl)
         have hbl : (r.body.length : Int) = 0 := by rw [hbn]; rfl
         clear h4 hne hHC hHE hBi hbn hm4
         go_enter Tryz.func15, Tryz.ntmps15
         go_wp2_with (first | (go_at_call 65; refine (specSetOk_calls _ _ _ _ _ (h1.later ((Below.refl _ _).alloc (by simp) _)).ints).mono ?_; rintro e w1 ⟨rfl, b1⟩; obtain ⟨hc1, hf1⟩ := bcell b1; have hz1 : w.heap.size < w1.heap.size := (by have := b1.size; simp at this; omega); have tb : Below w.heap.size w w1 := ((Below.refl _ _).alloc (by simp) _).step b1) | (go_at_call 66; refine (between_calls _ _ _ _).mono ?_; rintro e w' ⟨rfl, rfl⟩) | (go_at_call 67; refine (l02Lit_calls _ _ _ hn0 hn1).mono ?_; rintro e w' ⟨rfl, rfl⟩))
         refine wp_loop_rounds 1 ?_
         rw [rounds_succ]
         go_wp2_with (first | (go_at_call 65; refine (specSetOk_calls _ _ _ _ _ (h1.later ((Below.refl _ _).alloc (by simp) _)).ints).mono ?_; rintro e w1 ⟨rfl, b1⟩; obtain ⟨hc1, hf1⟩ := bcell b1; have hz1 : w.heap.size < w1.heap.size := (by have := b1.size; simp at this; omega); have tb : Below w.heap.size w w1 := ((Below.refl _ _).alloc (by simp) _).step b1) | (go_at_call 66; refine (between_calls _ _ _ _).mono ?_; rintro e w' ⟨rfl, rfl⟩) | (go_at_call 67; refine (l02Lit_calls _ _ _ hn0 hn1).mono ?_; rintro e w' ⟨rfl, rfl⟩))
         go_ret
         exact ⟨ret_bool hv.out.symm, tb⟩
      ·have hv := Lib.hid (ruleOkB_E (n := n) hw (by simpa using hE))
       clear hHC
       go_enter Tryz.func15, Tryz.ntmps15
       go_wp2_with (first | (go_at_call 65; refine (specSetOk_calls _ _ _ _ _ (h1.later ((Below.refl _ _).alloc (by simp) _)).ints).mono ?_; rintro e w1 ⟨rfl, b1⟩; obtain ⟨hc1, hf1⟩ := bcell b1; have hz1 : w.heap.size < w1.heap.size := (by have := b1.size; simp at this; omega); have tb : Below w.heap.size w w1 := ((Below.refl _ _).alloc (by simp) _).step b1) | (go_at_call 66; refine (between_calls _ _ _ _).mono ?_; rintro e w' ⟨rfl, rfl⟩) | (go_at_call 67; refine (l02Lit_calls _ _ _ hn0 hn1).mono ?_; rintro e w' ⟨rfl, rfl⟩))
       go_ret
       exact ⟨ret_bool hv.out.symm, tb⟩
     ·have hW := Lib.hid hw
      have hHE : (r.weight || r.bound == 0) = true := by rw [hw]; rfl
      cases hF : btwB r.bound (-100000) 100000
      ·have hv := Lib.hid (ruleOkB_F (n := n) hF)
       clear hHC hHE
       go_enter Tryz.func15, Tryz.ntmps15
       go_wp2_with (first | (go_at_call 65; refine (specSetOk_calls _ _ _ _ _ (h1.later ((Below.refl _ _).alloc (by simp) _)).ints).mono ?_; rintro e w1 ⟨rfl, b1⟩; obtain ⟨hc1, hf1⟩ := bcell b1; have hz1 : w.heap.size < w1.heap.size := (by have := b1.size; simp at this; omega); have tb : Below w.heap.size w w1 := ((Below.refl _ _).alloc (by simp) _).step b1) | (go_at_call 66; refine (between_calls _ _ _ _).mono ?_; rintro e w' ⟨rfl, rfl⟩) | (go_at_call 67; refine (l02Lit_calls _ _ _ hn0 hn1).mono ?_; rintro e w' ⟨rfl, rfl⟩))
       go_ret
       exact ⟨ret_bool hv.out.symm, tb⟩
      ·skip
       have HV : Hid (ruleOkB r n = r.body.all (wlitB true n)) := by have hh := ruleOkB_H hA (by omega) hHC hHE hF; rw [hW.out] at hh; exact hh
       by_cases hne : 0 < r.body.length
       ·obtain ⟨b, off, rfl, hcb⟩ := h4.base hne
        have HCB := Lib.hid hcb
        clear hcb h4 hHC hHE
        go_enter Tryz.func15, Tryz.ntmps15
        go_wp2_with (first | (go_at_call 65; refine (specSetOk_calls _ _ _ _ _ (h1.later ((Below.refl _ _).alloc (by simp) _)).ints).mono ?_; rintro e w1 ⟨rfl, b1⟩; obtain ⟨hc1, hf1⟩ := bcell b1; have hz1 : w.heap.size < w1.heap.size := (by have := b1.size; simp at this; omega); have tb : Below w.heap.size w w1 := ((Below.refl _ _).alloc (by simp) _).step b1) | (go_at_call 66; refine (between_calls _ _ _ _).mono ?_; rintro e w' ⟨rfl, rfl⟩) | (go_at_call 67; refine (l02Lit_calls _ _ _ hn0 hn1).mono ?_; rintro e w' ⟨rfl, rfl⟩))
        go_loop [5] (fun i => ∃ k : Nat, k ≤ r.body.length ∧ i = .int .i64 k ∧ Hid ((r.body.take k).all (wlitB true n) = true)) (fun i => r.body.length - (intOf i).toNat)
        case atStart => exact ⟨0, Nat.zero_le _, rfl, show (r.body.take 0).all _ = true by simp⟩
        case round =>
         obtain ⟨k, hk, rfl, hS⟩ := hrel
         by_cases hlt : k < r.body.length
         ·obtain ⟨ecs, hC, hR⟩ := HCB.out k hlt
          have hC := hC.later tb
          obtain ⟨rfl, hf0, hf1'⟩ := hR
          unfold Fits at hf0 hf1'
          have u0 : w1.cell? ⟨b, off + k * 2, none⟩ = some (.int .i64 (nth r.body k).1) := hC.c0
          have u1 : w1.cell? ⟨b, off + k * 2 + 1, none⟩ = some (.int .i64 (nth r.body k).2) := hC.c1
          clear hC
          cases hL : litB (nth r.body k).1 n
          ·have hv : Hid (ruleOkB r n = false) := HV.out.trans (all_no hlt (wlitB_A hL))
           go_wp2_with (first | (go_at_call 65; refine (specSetOk_calls _ _ _ _ _ (h1.later ((Below.refl _ _).alloc (by simp) _)).ints).mono ?_; rintro e w1 ⟨rfl, b1⟩; obtain ⟨hc1, hf1⟩ := bcell b1; have hz1 : w.heap.size < w1.heap.size := (by have := b1.size; simp at this; omega); have tb : Below w.heap.size w w1 := ((Below.refl _ _).alloc (by simp) _).step b1) | (go_at_call 66; refine (between_calls _ _ _ _).mono ?_; rintro e w' ⟨rfl, rfl⟩) | (go_at_call 67; refine (l02Lit_calls _ _ _ hn0 hn1).mono ?_; rintro e w' ⟨rfl, rfl⟩))
           go_ret
           exact ⟨ret_bool hv.out.symm, tb⟩
          ·skip
           cases hK : btwB (nth r.body k).2 1 1000
           ·have hv : Hid (ruleOkB r n = false) := HV.out.trans (all_no hlt (wlitB_C hK))
            go_wp2_with (first | (go_at_call 65; refine (specSetOk_calls _ _ _ _ _ (h1.later ((Below.refl _ _).alloc (by simp) _)).ints).mono ?_; rintro e w1 ⟨rfl, b1⟩; obtain ⟨hc1, hf1⟩ := bcell b1; have hz1 : w.heap.size < w1.heap.size := (by have := b1.size; simp at this; omega); have tb : Below w.heap.size w w1 := ((Below.refl _ _).alloc (by simp) _).step b1) | (go_at_call 66; refine (between_calls _ _ _ _).mono ?_; rintro e w' ⟨rfl, rfl⟩) | (go_at_call 67; refine (l02Lit_calls _ _ _ hn0 hn1).mono ?_; rintro e w' ⟨rfl, rfl⟩))
            go_ret
            exact ⟨ret_bool hv.out.symm, tb⟩
           ·have hQ := Lib.hid (wlitB_D hL hK)
            have hS' : Hid ((r.body.take (k + 1)).all (wlitB true n) = true) := all_take hlt hS.out hQ.out
            clear hS hQ
            go_wp2_with (first | (go_at_call 65; refine (specSetOk_calls _ _ _ _ _ (h1.later ((Below.refl _ _).alloc (by simp) _)).ints).mono ?_; rintro e w1 ⟨rfl, b1⟩; obtain ⟨hc1, hf1⟩ := bcell b1; have hz1 : w.heap.size < w1.heap.size := (by have := b1.size; simp at this; omega); have tb : Below w.heap.size w w1 := ((Below.refl _ _).alloc (by simp) _).step b1) | (go_at_call 66; refine (between_calls _ _ _ _).mono ?_; rintro e w' ⟨rfl, rfl⟩) | (go_at_call 67; refine (l02Lit_calls _ _ _ hn0 hn1).mono ?_; rintro e w' ⟨rfl, rfl⟩))
            go_round
            case rel => exact ⟨k + 1, by omega, by go_num, hS'⟩
            case measure => simp [intOf]; omega
         ·have hv : Hid (ruleOkB r n = true) := HV.out.trans (all_end (by omega) hS.out)
          go_wp2_with (first | (go_at_call 65; refine (specSetOk_calls _ _ _ _ _ (h1.later ((Below.refl _ _).alloc (by simp) _)).ints).mono ?_; rintro e w1 ⟨rfl, b1⟩; obtain ⟨hc1, hf1⟩ := bcell b1; have hz1 : w.heap.size < w1.heap.size := (by have := b1.size; simp at this; omega); have tb : Below w.heap.size w w1 := ((Below.refl _ _).alloc (by simp) _).step b1) | (go_at_call 66; refine (between_calls _ _ _ _).mono ?_; rintro e w' ⟨rfl, rfl⟩) | (go_at_call 67; refine (l02Lit_calls _ _ _ hn0 hn1).mono ?_; rintro e w' ⟨rfl, rfl⟩))
          go_ret
          exact ⟨ret_bool hv.out.symm, tb⟩
       ·have hbn : r.body = [] := by cases hh : r.body <;> simp_all
        have hv : Hid (ruleOkB r n = true) := HV.out.trans (by rw [hbn]; rfl)
        have hbl : (r.body.length : Int) = 0 := by rw [hbn]; rfl
        clear h4 hne hHC hHE hBi hbn hm4
        go_enter Tryz.func15, Tryz.ntmps15
        go_wp2_with (first | (go_at_call 65; refine (specSetOk_calls _ _ _ _ _ (h1.later ((Below.refl _ _).alloc (by simp) _)).ints).mono ?_; rintro e w1 ⟨rfl, b1⟩; obtain ⟨hc1, hf1⟩ := bcell b1; have hz1 : w.heap.size < w1.heap.size := (by have := b1.size; simp at this; omega); have tb : Below w.heap.size w w1 := ((Below.refl _ _).alloc (by simp) _).step b1) | (go_at_call 66; refine (between_calls _ _ _ _).mono ?_; rintro e w' ⟨rfl, rfl⟩) | (go_at_call 67; refine (l02Lit_calls _ _ _ hn0 hn1).mono ?_; rintro e w' ⟨rfl, rfl⟩))
        refine wp_loop_rounds 1 ?_
        rw [rounds_succ]
        go_wp2_with (first | (go_at_call 65; refine (specSetOk_calls _ _ _ _ _ (h1.later ((Below.refl _ _).alloc (by simp) _)).ints).mono ?_; rintro e w1 ⟨rfl, b1⟩; obtain ⟨hc1, hf1⟩ := bcell b1; have hz1 : w.heap.size < w1.heap.size := (by have := b1.size; simp at this; omega); have tb : Below w.heap.size w w1 := ((Below.refl _ _).alloc (by simp) _).step b1) | (go_at_call 66; refine (between_calls _ _ _ _).mono ?_; rintro e w' ⟨rfl, rfl⟩) | (go_at_call 67; refine (l02Lit_calls _ _ _ hn0 hn1).mono ?_; rintro e w' ⟨rfl, rfl⟩))
        go_ret
        exact ⟨ret_bool hv.out.symm, tb⟩

end Go.Proofs.YthikhkeofcjdfaaGreat
