/-
 Model: what spec.Model and impl.Model answer. No condition of its own.
-/
import Derived.Test.YthikhkeofcjdfaaGreatImplProg
import Derived.Test.YthikhkeofcjdfaaGreatSpecProg
import Derived.Test.YthikhkeofcjdfaaGreatBody
import Derived.Test.YthikhkeofcjdfaaGreatSetsPure
namespace Go.Proofs.YthikhkeofcjdfaaGreat
set_option linter.unusedVariables false
set_option linter.unusedSimpArgs false
open Go.RowKit
set_option maxRecDepth 100000

theorem okTo_mono {xs : List Int} {n m : Int} (h : n ≤ m) : ∀ k, okTo xs n k = true → okTo xs m k = true
 | 0, _ => rfl
 | k + 1, h1 => by
  simp only [okTo, okStep, Bool.and_eq_true, decide_eq_true_eq] at h1 ⊢
  exact ⟨okTo_mono h k h1.1, h1.2.1, by omega, h1.2.2.2⟩
theorem setOkB_mono {xs : List Int} {n m : Int} (h : setOkB xs n = true) (h1 : n ≤ m) (h2 : m ≤ 12) : setOkB xs m = true := by
 have h0 := setOkB_n h
 rw [setOkB_in h0] at h
 rw [setOkB_in (by omega)]
 exact okTo_mono h1 _ h
theorem litB_mono {l n m : Int} (h : litB l n = true) (h1 : n ≤ m) : litB l m = true := by
 simp only [litB, btwB, Bool.or_eq_true, decide_eq_true_eq] at h ⊢
 omega
theorem ruleOkB_mono {r : RuleD} {n m : Int} (h : ruleOkB r n = true) (h1 : n ≤ m) (h2 : m ≤ 12) : ruleOkB r m = true := by
 simp only [ruleOkB, headsB, bodyB, Bool.and_eq_true, List.all_eq_true, wlitB] at h ⊢
 obtain ⟨⟨a1, a2⟩, a3, a4⟩ := h
 exact ⟨⟨setOkB_mono a1 h1 h2, a2⟩, a3, fun p hp => ⟨⟨litB_mono (a4 p hp).1.1 h1, (a4 p hp).1.2⟩, (a4 p hp).2⟩⟩
theorem progOk_atoms {p : ProgD} (h : progOkB p = true) : 0 ≤ p.atoms ∧ p.atoms ≤ 12 := by
 simp only [progOkB, Bool.and_eq_true, btwB, decide_eq_true_eq] at h
 exact h.1
theorem progOk_rules {p : ProgD} (h : progOkB p = true) : p.rules.length ≤ 60 ∧ ∀ r ∈ p.rules, ruleOkB r p.atoms = true := by
 simp only [progOkB, Bool.and_eq_true, rulesB, decide_eq_true_eq, List.all_eq_true] at h
 exact h.2.1
theorem progOk_rule {p : ProgD} (h : progOkB p = true) {k : Nat} (hk : k < p.rules.length) : ruleOkB (nth p.rules k) 12 = true :=
 ruleOkB_mono ((progOk_rules h).2 _ (nth_mem hk)) (progOk_atoms h).2 (by omega)

theorem mask_zero {m : Nat} (hm : m < 4096) : m = 0 ↔ pickTo (hasM m) 12 = [] := by
 have hs := sum_bits m 12 (by omega)
 rw [Nat.mod_eq_of_lt (show m < 2 ^ 12 by omega)] at hs
 constructor
 ·intro h
  rw [List.eq_nil_iff_forall_not_mem]
  intro x hx
  have := (mem_pickTo (hasM m) x 12).1 hx
  rw [h] at this
  simp [hasM] at this
 ·intro h
  rw [← hs, sumTo_congr (g := fun _ => false) (n := 12) fun x h1 h2 => by
   cases hh : hasM m x
   ·rfl
   ·have : x ∈ pickTo (hasM m) 12 := (mem_pickTo (hasM m) x 12).2 ⟨h1, h2, hh⟩
    rw [h] at this; cases this]
  rfl
/-- The heads that are in the set. -/
def meetB (r : RuleD) (xs : List Int) : List Int := pickTo (pickM r.heads xs) 12
theorem meet_zero (r : RuleD) (xs : List Int) : (((maskOf xs &&& maskOf r.heads : Nat) : Int) == 0) = (((meetB r xs).length : Int) == 0) := by
 have hl : maskOf r.heads &&& maskOf xs < 4096 := Nat.and_lt_two_pow (n := 12) _ (maskOf_lt xs)
 have h := mask_zero hl
 rw [meet_same] at h
 rw [Nat.and_comm, Bool.eq_iff_iff, beq_iff_eq, beq_iff_eq]
 unfold meetB
 rw [← List.length_eq_zero_iff] at h
 omega

/-- Is it no rule that breaks? -/
def ruleHoldsB (xs : List Int) (r : RuleD) : Bool := r.choice || !bodyHoldsB r xs || !(((meetB r xs).length : Int) == 0)
theorem ruleHolds_A {xs : List Int} {r : RuleD} (h : r.choice = true) : ruleHoldsB xs r = true := by simp only [ruleHoldsB, h, Bool.true_or]
theorem ruleHolds_B {xs : List Int} {r : RuleD} (h : bodyHoldsB r xs = false) : ruleHoldsB xs r = true := by simp [ruleHoldsB, h]
theorem ruleHolds_C {xs : List Int} {r : RuleD} (h : (((meetB r xs).length : Int) == 0) = false) : ruleHoldsB xs r = true := by simp only [ruleHoldsB, h, Bool.not_false, Bool.or_true]
theorem ruleHolds_D {xs : List Int} {r : RuleD} (hc : r.choice = false) (hb : bodyHoldsB r xs = true) (h : (((meetB r xs).length : Int) == 0) = true) : ruleHoldsB xs r = false := by simp only [ruleHoldsB, hc, hb, h]; rfl
def modelB (p : ProgD) (xs : List Int) : Bool := progOkB p && p.rules.all (ruleHoldsB xs)
theorem modelB_no {p : ProgD} {xs : List Int} (h : progOkB p = false) : modelB p xs = false := by simp only [modelB, h, Bool.false_and]
theorem modelB_yes {p : ProgD} {xs : List Int} (h : progOkB p = true) : modelB p xs = p.rules.all (ruleHoldsB xs) := by simp only [modelB, h, Bool.true_and]


set_option maxHeartbeats 2000000 in
theorem specModel_calls {cs : List Value} {p : ProgD} {w : World} {v : Value} {xs : List Int} (h : Rd.R w cs p) (gx : RdL w [v] xs) :
  Calls Tryz.prog 161 #[.agg cs.toArray, v] w fun e w' => e = .returned (.bool (modelB p xs)) ∧ Below w.heap.size w w' := by
 have h0 := h
 obtain ⟨c1, c2, c4, c5, c6, c7, rfl, hf, g1, g2, g4, g5, g6, g7⟩ := h0
 obtain ⟨a1, k1, rfl, _, h1⟩ := g1.sl
 obtain ⟨ax, cx, rfl, _, hx⟩ := gx.sl
 have hm1 := h1.1
 have CX := Cells.new w [.int .i64 p.atoms, .slice a1 p.rules.length k1, c2, .bool p.projOn, c4, c5, c6, c7] 30
 have tb : Below w.heap.size w (w.alloc (.cells #[.int .i64 p.atoms, .slice a1 p.rules.length k1, c2, .bool p.projOn, c4, c5, c6, c7] 30)) := (Below.refl _ _).alloc (Nat.le_refl _) _
 clear g1 g2 g4 g5 g6 g7 hf
 cases hok : progOkB p
 ·have hv := Lib.hid (modelB_no (xs := xs) hok)
  go_enter Tryz.func161, Tryz.ntmps161
  go_wp2_with fail
  refine (specProgOk_calls (Rd.mono tb h)).mono ?_
  rintro e w1 ⟨he, b1⟩
  rw [hok] at he
  subst he
  go_wp2
  go_ret
  exact ⟨ret_bool hv.out.symm, tb.step b1⟩
 have HV := Lib.hid (modelB_yes (xs := xs) hok)
 have HOK := Lib.hid hok
 go_enter Tryz.func161, Tryz.ntmps161
 go_wp2_with fail
 refine (specProgOk_calls (Rd.mono tb h)).mono ?_
 rintro e w1 ⟨he, b1⟩
 rw [hok] at he
 subst he
 have t1 := tb.step b1
 have CX1 := Lib.hid (CX.later b1)
 clear hok tb CX b1
 go_wp2
 go_loopw [5] (fun i wr => ∃ k : Nat, k ≤ p.rules.length ∧ i = .int .i64 k ∧ Hid ((p.rules.take k).all (ruleHoldsB xs) = true) ∧ Hid (Cells wr w.heap.size 0 [.int .i64 p.atoms, .slice a1 p.rules.length k1, c2, .bool p.projOn, c4, c5, c6, c7]) ∧ Below w.heap.size w wr) (fun i _ => p.rules.length - (intOf i).toNat)
 case atStart => exact ⟨0, Nat.zero_le _, rfl, show (p.rules.take 0).all _ = true by simp, CX1, t1⟩
 case round =>
  obtain ⟨k, hk, rfl, hS, hX, hb⟩ := hrel
  obtain ⟨y0, y1, y2, y3, y4, y5, y6, y7⟩ := cells8 hX.out
  have hsz := hX.out.lt
  clear CX1 t1
  by_cases hlt : k < p.rules.length
  ·skip
   obtain ⟨b, off, rfl, hc⟩ := h1.base (by omega)
   obtain ⟨ecs, hC, hR⟩ := hc k hlt
   have hC := hC.later hb
   have hR := Rd.mono hb hR
   have hR0 := hR
   obtain ⟨d1, d4, rfl, hf', r1, r4⟩ := hR0
   obtain ⟨ah, kh, rfl, _, hh⟩ := r1.sl
   obtain ⟨ab, kb, rfl, _, _⟩ := r4.sl
   have u0 := hC.c0
   have u1 := hC.c1
   have u2 := hC.c2
   have u3 := hC.c3
   have u4 := hC.c4
   rw [show Rd.k RuleD = 5 from rfl] at u0 u1 u2 u3 u4
   have hbA := hb.alloc hb.size (.cells #[.bool (nth p.rules k).choice, .slice ah (nth p.rules k).heads.length kh, .bool (nth p.rules k).weight, .int .i64 (nth p.rules k).bound, .slice ab (nth p.rules k).body.length kb] 34)
   have hXA := Lib.hid (hX.out.alloc (.cells #[.bool (nth p.rules k).choice, .slice ah (nth p.rules k).heads.length kh, .bool (nth p.rules k).weight, .int .i64 (nth p.rules k).bound, .slice ab (nth p.rules k).body.length kb] 34))
   have hCL := Lib.hid (Cells.new wr [.bool (nth p.rules k).choice, .slice ah (nth p.rules k).heads.length kh, .bool (nth p.rules k).weight, .int .i64 (nth p.rules k).bound, .slice ab (nth p.rules k).body.length kb] 34)
   have hR := Rd.mono ((Below.refl wr.heap.size wr).alloc (Nat.le_refl _) (.cells #[.bool (nth p.rules k).choice, .slice ah (nth p.rules k).heads.length kh, .bool (nth p.rules k).weight, .int .i64 (nth p.rules k).bound, .slice ab (nth p.rules k).body.length kb] 34)) hR
   have hh := hh.later ((Below.refl wr.heap.size wr).alloc (Nat.le_refl _) (.cells #[.bool (nth p.rules k).choice, .slice ah (nth p.rules k).heads.length kh, .bool (nth p.rules k).weight, .int .i64 (nth p.rules k).bound, .slice ab (nth p.rules k).body.length kb] 34))
   first | (have hxA := hx.later hbA) | skip
   clear hC hc hX r1 r4
   cases hcc : (nth p.rules k).choice
   ·rw [hcc] at u0 hR hbA hXA hCL hh hxA
    cases hB : bodyHoldsB (nth p.rules k) xs
    ·have hS' := Lib.hid (all_take hlt hS.out (ruleHolds_B hB))
     clear hS
     go_wp2_with fail
     refine (specBodyHolds_calls hR (Rd.mono (α := List Int) hbA gx)).mono ?_
     rintro e w2 ⟨he, b2⟩
     rw [hB] at he
     subst he
     have hb2 := hbA.step b2
     have hX2 := Lib.hid (hXA.out.later b2)
     obtain ⟨z0, z1, z2, z3, z4⟩ := cells5 (hCL.out.later b2)
     clear hcc hB
     go_wp2
     go_roundw
     case rel => exact ⟨k + 1, by omega, by go_num, hS', hX2, hb2⟩
     case measure => simp [intOf]; omega
    ·cases hM : (((meetB (nth p.rules k) xs).length : Int) == 0)
     ·have hS' := Lib.hid (all_take hlt hS.out (ruleHolds_C hM))
      clear hS
      unfold meetB at hM
      go_wp2_with fail
      refine (specBodyHolds_calls hR (Rd.mono (α := List Int) hbA gx)).mono ?_
      rintro e w2 ⟨he, b2⟩
      rw [hB] at he
      subst he
      have hb2 := hbA.step b2
      have hX2 := Lib.hid (hXA.out.later b2)
      obtain ⟨z0, z1, z2, z3, z4⟩ := cells5 (hCL.out.later b2)
      clear hcc hB
      go_wp2_with fail
      refine (specSetMeet_calls _ _ _ _ _ _ _ (hh.later b2).ints (hxA.later b2).ints).mono ?_
      rintro e w3 ⟨v3, rfl, ho3, b3⟩
      obtain ⟨p3, q3, hv3, _, _⟩ := ho3.open
      subst hv3
      have hb3 := hb2.step b3
      have hX3 := Lib.hid (hX2.out.later b3)
      go_wp2
      go_roundw
      case rel => exact ⟨k + 1, by omega, by go_num, hS', hX3, hb3⟩
      case measure => simp [intOf]; omega
     ·have hv : Hid (modelB p xs = false) := by show _ = _; rw [HV.out, all_no hlt (ruleHolds_D hcc hB hM)]
      clear hS
      unfold meetB at hM
      go_wp2_with fail
      refine (specBodyHolds_calls hR (Rd.mono (α := List Int) hbA gx)).mono ?_
      rintro e w2 ⟨he, b2⟩
      rw [hB] at he
      subst he
      have hb2 := hbA.step b2
      have hX2 := Lib.hid (hXA.out.later b2)
      obtain ⟨z0, z1, z2, z3, z4⟩ := cells5 (hCL.out.later b2)
      clear hcc hB
      go_wp2_with fail
      refine (specSetMeet_calls _ _ _ _ _ _ _ (hh.later b2).ints (hxA.later b2).ints).mono ?_
      rintro e w3 ⟨v3, rfl, ho3, b3⟩
      obtain ⟨p3, q3, hv3, _, _⟩ := ho3.open
      subst hv3
      have hb3 := hb2.step b3
      have hX3 := Lib.hid (hX2.out.later b3)
      go_wp2
      go_ret
      exact ⟨ret_bool hv.out.symm, hb3⟩
   ·have hS' := Lib.hid (all_take hlt hS.out (ruleHolds_A (xs := xs) hcc))
    rw [hcc] at u0 hbA hXA hCL
    clear hS hR hh hxA
    go_wp2
    clear hcc
    go_roundw
    case rel => exact ⟨k + 1, by omega, by go_num, hS', hXA, hbA⟩
    case measure => simp [intOf]; omega
  ·have hv : Hid (modelB p xs = true) := by show _ = _; rw [HV.out]; exact all_end (by omega) hS.out
   go_wp2
   go_ret
   exact ⟨ret_bool hv.out.symm, hb⟩


set_option maxHeartbeats 1000000 in
theorem brokenBy_calls {cs : List Value} {r : RuleD} {w : World} (xs : List Int) (h : Rd.R w cs r) (hok : ruleOkB r 12 = true) :
  Calls Tryz.prog 188 #[.agg cs.toArray, .int .u16 (maskOf xs : Int)] w fun e w' => e = .returned (.bool (!ruleHoldsB xs r)) ∧ Below w.heap.size w w' := by
 have hfr := rd_rule h
 have hml := maskOf_lt xs
 have hml2 := maskOf_lt r.heads
 have hmz := meet_zero r xs
 have hR0 := h
 obtain ⟨d1, d4, rfl, hf, r1, r4⟩ := hR0
 obtain ⟨ah, kh, rfl, _, hh⟩ := r1.sl
 obtain ⟨ab, kb, rfl, _, _⟩ := r4.sl
 have CX := Cells.new w [.bool r.choice, .slice ah r.heads.length kh, .bool r.weight, .int .i64 r.bound, .slice ab r.body.length kb] 34
 have tb : Below w.heap.size w (w.alloc (.cells #[.bool r.choice, .slice ah r.heads.length kh, .bool r.weight, .int .i64 r.bound, .slice ab r.body.length kb] 34)) := (Below.refl _ _).alloc (Nat.le_refl _) _
 have hR := Rd.mono tb h
 have hh := hh.later tb
 clear r1 r4 hf h
 cases hcc : r.choice
 ·rw [hcc] at CX tb hR hh
  cases hB : bodyHoldsB r xs
  ·have hv : Hid ((!ruleHoldsB xs r) = false) := by show _ = _; rw [ruleHolds_B hB]; rfl
   clear hmz
   go_enter Tryz.func188, Tryz.ntmps188
   go_wp2_with fail
   refine (implReach_calls _ hml hR hok).mono ?_
   rintro e w2 ⟨he, b2⟩
   rw [reachI_same hok hfr, ← bodyHoldsB_yes hok, hB] at he
   subst he
   have t2 := tb.step b2
   obtain ⟨z0, z1, z2, z3, z4⟩ := cells5 (CX.later b2)
   clear hcc hB
   go_wp2
   go_ret
   exact ⟨ret_bool hv.out.symm, t2⟩
  ·cases hM : (((meetB r xs).length : Int) == 0)
   ·have hv : Hid ((!ruleHoldsB xs r) = false) := by show _ = _; rw [ruleHolds_C hM]; rfl
    rw [hM] at hmz
    clear hM
    go_enter Tryz.func188, Tryz.ntmps188
    go_wp2_with fail
    refine (implReach_calls _ hml hR hok).mono ?_
    rintro e w2 ⟨he, b2⟩
    rw [reachI_same hok hfr, ← bodyHoldsB_yes hok, hB] at he
    subst he
    have t2 := tb.step b2
    obtain ⟨z0, z1, z2, z3, z4⟩ := cells5 (CX.later b2)
    clear hcc hB
    go_wp2_with (first | (go_at_call 76; refine (atomsIn_calls _ _ _ _ (hh.later b2).ints).mono ?_; rintro e w' ⟨rfl, rfl⟩) | (go_at_call 183; refine (meet_calls _ _ _ hml hml2).mono ?_; rintro e w' ⟨rfl, rfl⟩))
    go_ret
    exact ⟨ret_bool hv.out.symm, t2⟩
   ·have hv : Hid ((!ruleHoldsB xs r) = true) := by show _ = _; rw [ruleHolds_D hcc hB hM]; rfl
    rw [hM] at hmz
    clear hM
    go_enter Tryz.func188, Tryz.ntmps188
    go_wp2_with fail
    refine (implReach_calls _ hml hR hok).mono ?_
    rintro e w2 ⟨he, b2⟩
    rw [reachI_same hok hfr, ← bodyHoldsB_yes hok, hB] at he
    subst he
    have t2 := tb.step b2
    obtain ⟨z0, z1, z2, z3, z4⟩ := cells5 (CX.later b2)
    clear hcc hB
    go_wp2_with (first | (go_at_call 76; refine (atomsIn_calls _ _ _ _ (hh.later b2).ints).mono ?_; rintro e w' ⟨rfl, rfl⟩) | (go_at_call 183; refine (meet_calls _ _ _ hml hml2).mono ?_; rintro e w' ⟨rfl, rfl⟩))
    go_ret
    exact ⟨ret_bool hv.out.symm, t2⟩
 ·have hv : Hid ((!ruleHoldsB xs r) = false) := by show _ = _; rw [ruleHolds_A hcc]; rfl
  rw [hcc] at CX tb
  clear hR hh hmz
  go_enter Tryz.func188, Tryz.ntmps188
  go_wp2
  go_ret
  exact ⟨ret_bool hv.out.symm, tb⟩

set_option maxHeartbeats 2000000 in
theorem implModelP_calls {cs : List Value} {p : ProgD} {w : World} (xs : List Int) (h : Rd.R w cs p) (hok : progOkB p = true) :
  Calls Tryz.prog 96 #[.agg cs.toArray, .int .u16 (maskOf xs : Int)] w fun e w' => e = .returned (.bool (modelB p xs)) ∧ Below w.heap.size w w' := by
 have h0 := h
 obtain ⟨c1, c2, c4, c5, c6, c7, rfl, hf, g1, g2, g4, g5, g6, g7⟩ := h0
 obtain ⟨a1, k1, rfl, _, h1⟩ := g1.sl
 have hm1 := h1.1
 have CX := Cells.new w [.int .i64 p.atoms, .slice a1 p.rules.length k1, c2, .bool p.projOn, c4, c5, c6, c7] 30
 have tb : Below w.heap.size w (w.alloc (.cells #[.int .i64 p.atoms, .slice a1 p.rules.length k1, c2, .bool p.projOn, c4, c5, c6, c7] 30)) := (Below.refl _ _).alloc (Nat.le_refl _) _
 clear g1 g2 g4 g5 g6 g7 hf
 have HV := Lib.hid (modelB_yes (xs := xs) hok)
 have HOK := Lib.hid hok
 have hml := maskOf_lt xs
 clear hok
 go_enter Tryz.func96, Tryz.ntmps96
 go_wp2_with fail
 have CX1 := Lib.hid CX
 have t1 := tb
 clear CX tb
 go_loopw [10] (fun i wr => ∃ k : Nat, k ≤ p.rules.length ∧ i = .int .i64 k ∧ Hid ((p.rules.take k).all (ruleHoldsB xs) = true) ∧ Hid (Cells wr w.heap.size 0 [.int .i64 p.atoms, .slice a1 p.rules.length k1, c2, .bool p.projOn, c4, c5, c6, c7]) ∧ Below w.heap.size w wr) (fun i _ => p.rules.length - (intOf i).toNat)
 case atStart => exact ⟨0, Nat.zero_le _, rfl, show (p.rules.take 0).all _ = true by simp, CX1, t1⟩
 case round =>
  obtain ⟨k, hk, rfl, hS, hX, hb⟩ := hrel
  have hsz := hX.out.lt
  clear CX1 t1
  by_cases hlt : k < p.rules.length
  ·have hok12 := progOk_rule HOK.out hlt
   have hx : True := trivial
   obtain ⟨b, off, rfl, hc⟩ := h1.base (by omega)
   obtain ⟨ecs, hC, hR⟩ := hc k hlt
   have hC := hC.later hb
   have hR := Rd.mono hb hR
   have hR0 := hR
   obtain ⟨d1, d4, rfl, hf', r1, r4⟩ := hR0
   obtain ⟨ah, kh, rfl, _, hh⟩ := r1.sl
   obtain ⟨ab, kb, rfl, _, _⟩ := r4.sl
   have u0 := hC.c0
   have u1 := hC.c1
   have u2 := hC.c2
   have u3 := hC.c3
   have u4 := hC.c4
   rw [show Rd.k RuleD = 5 from rfl] at u0 u1 u2 u3 u4
   have hbA := hb.alloc hb.size (.cells #[.bool (nth p.rules k).choice, .slice ah (nth p.rules k).heads.length kh, .bool (nth p.rules k).weight, .int .i64 (nth p.rules k).bound, .slice ab (nth p.rules k).body.length kb] 34)
   have hXA := Lib.hid (hX.out.alloc (.cells #[.bool (nth p.rules k).choice, .slice ah (nth p.rules k).heads.length kh, .bool (nth p.rules k).weight, .int .i64 (nth p.rules k).bound, .slice ab (nth p.rules k).body.length kb] 34))
   have hCL := Lib.hid (Cells.new wr [.bool (nth p.rules k).choice, .slice ah (nth p.rules k).heads.length kh, .bool (nth p.rules k).weight, .int .i64 (nth p.rules k).bound, .slice ab (nth p.rules k).body.length kb] 34)
   have hR := Rd.mono ((Below.refl wr.heap.size wr).alloc (Nat.le_refl _) (.cells #[.bool (nth p.rules k).choice, .slice ah (nth p.rules k).heads.length kh, .bool (nth p.rules k).weight, .int .i64 (nth p.rules k).bound, .slice ab (nth p.rules k).body.length kb] 34)) hR
   have hh := hh.later ((Below.refl wr.heap.size wr).alloc (Nat.le_refl _) (.cells #[.bool (nth p.rules k).choice, .slice ah (nth p.rules k).heads.length kh, .bool (nth p.rules k).weight, .int .i64 (nth p.rules k).bound, .slice ab (nth p.rules k).body.length kb] 34))
   first | (have hxA := hx.later hbA) | skip
   clear hC hc hX r1 r4
   clear hh
   cases hRH : ruleHoldsB xs (nth p.rules k)
   ·have hv : Hid (modelB p xs = false) := by show _ = _; rw [HV.out, all_no hlt hRH]
    clear hS
    go_wp2_with fail
    refine (brokenBy_calls xs hR hok12).mono ?_
    rintro e w2 ⟨he, b2⟩
    rw [hRH] at he
    subst he
    go_wp2
    go_ret
    exact ⟨ret_bool hv.out.symm, hbA.step b2⟩
   ·have hS' := Lib.hid (all_take hlt hS.out hRH)
    clear hS
    go_wp2_with fail
    refine (brokenBy_calls xs hR hok12).mono ?_
    rintro e w2 ⟨he, b2⟩
    rw [hRH] at he
    subst he
    have hb2 := hbA.step b2
    have hX2 := Lib.hid (hXA.out.later b2)
    go_wp2
    go_roundw
    case rel => exact ⟨k + 1, by omega, by go_num, hS', hX2, hb2⟩
    case measure => simp [intOf]; omega
  ·have hv : Hid (modelB p xs = true) := by show _ = _; rw [HV.out]; exact all_end (by omega) hS.out
   go_wp2
   go_ret
   exact ⟨ret_bool hv.out.symm, hb⟩

end Go.Proofs.YthikhkeofcjdfaaGreat
