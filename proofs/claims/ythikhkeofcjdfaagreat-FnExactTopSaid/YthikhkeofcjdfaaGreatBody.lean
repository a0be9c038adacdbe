/-
 BodyHolds: what spec.BodyHolds and impl.BodyHolds answer. No condition of its own.
-/
import Derived.Test.YthikhkeofcjdfaaGreatImplRule
import Derived.Deep.RegionHeld3
import Derived.Deep.RegionWith
namespace Go.Proofs.YthikhkeofcjdfaaGreat
set_option linter.unusedVariables false
set_option linter.unusedSimpArgs false
open Go.RowKit
set_option maxRecDepth 100000

theorem ruleOk_facts {r : RuleD} {n : Int} (h : ruleOkB r n = true) : r.body.length ≤ 20 ∧ (-100000 ≤ r.bound ∧ r.bound ≤ 100000) ∧ ∀ p ∈ r.body, litB p.1 n = true ∧ 1 ≤ p.2 ∧ p.2 ≤ 1000 ∧ (r.weight = false → p.2 = 1) := by
 simp only [ruleOkB, bodyB, Bool.and_eq_true, decide_eq_true_eq, List.all_eq_true, wlitB, btwB, Bool.or_eq_true, beq_iff_eq] at h
 obtain ⟨_, ⟨⟨h1, _⟩, h2⟩, h3⟩ := h
 refine ⟨h1, h2, fun p hp => ?_⟩
 obtain ⟨⟨h4, h5⟩, h6⟩ := h3 p hp
 refine ⟨h4, h6.1, h6.2, fun hw => ?_⟩
 rcases h5 with h5 | h5
 ·rw [hw] at h5; cases h5
 ·exact h5
theorem lit12 {l : Int} (h : litB l 12 = true) : (1 ≤ l ∧ l ≤ 12) ∨ (-12 ≤ l ∧ l ≤ -1) := by
 simpa [litB, btwB] using h

/-- The W of the literals for which f is true, together. -/
def sumH (f : Int × Int → Bool) : List (Int × Int) → Int
 | [] => 0
 | p :: l => (if f p then p.2 else 0) + sumH f l
theorem sumH_snoc (f : Int × Int → Bool) (p : Int × Int) : ∀ l, sumH f (l ++ [p]) = sumH f l + (if f p then p.2 else 0)
 | [] => by simp [sumH]
 | q :: l => by simp only [List.cons_append, sumH, sumH_snoc f p l]; omega
theorem sumH_take {f : Int × Int → Bool} {l : List (Int × Int)} {k : Nat} (hk : k < l.length) : sumH f (l.take (k + 1)) = sumH f (l.take k) + (if f (nth l k) then (nth l k).2 else 0) := by
 rw [take_nth hk, sumH_snoc]
theorem sumH_yes {f : Int × Int → Bool} {l : List (Int × Int)} {k : Nat} (hk : k < l.length) (h : f (nth l k) = true) : sumH f (l.take (k + 1)) = sumH f (l.take k) + (nth l k).2 := by
 rw [sumH_take hk, h]; rfl
theorem sumH_no {f : Int × Int → Bool} {l : List (Int × Int)} {k : Nat} (hk : k < l.length) (h : f (nth l k) = false) : sumH f (l.take (k + 1)) = sumH f (l.take k) := by
 rw [sumH_take hk, h]; simp
theorem sumH_end {f : Int × Int → Bool} {l : List (Int × Int)} {k : Nat} (hk : l.length ≤ k) : sumH f (l.take k) = sumH f l := by rw [List.take_of_length_le hk]
theorem sumH_bd {f : Int × Int → Bool} : ∀ {l : List (Int × Int)}, (∀ p ∈ l, 1 ≤ p.2 ∧ p.2 ≤ 1000) → 0 ≤ sumH f l ∧ sumH f l ≤ 1000 * l.length
 | [], _ => by simp [sumH]
 | p :: l, h => by
  have ih := sumH_bd (f := f) (l := l) fun q hq => h q (List.mem_cons_of_mem _ hq)
  have hp := h p (List.mem_cons_self ..)
  simp only [sumH, List.length_cons]
  split <;> omega
theorem sumH_take_bd {f : Int × Int → Bool} {l : List (Int × Int)} (k : Nat) (h : ∀ p ∈ l, 1 ≤ p.2 ∧ p.2 ≤ 1000) (hl : l.length ≤ 20) : 0 ≤ sumH f (l.take k) ∧ sumH f (l.take k) ≤ 20000 := by
 have h1 := sumH_bd (f := f) (l := l.take k) fun q hq => h q (List.mem_of_mem_take hq)
 have h2 : (l.take k).length ≤ l.length := by rw [List.length_take]; omega
 omega
theorem sumH_ones {f : Int × Int → Bool} : ∀ {l : List (Int × Int)}, (∀ p ∈ l, p.2 = 1) → sumH f l ≤ l.length ∧ ((l.length : Int) ≤ sumH f l ↔ l.all f = true)
 | [], _ => by simp [sumH]
 | p :: l, h => by
  have ih := sumH_ones (f := f) (l := l) fun q hq => h q (List.mem_cons_of_mem _ hq)
  have hp := h p (List.mem_cons_self ..)
  obtain ⟨h1, h2⟩ := ih
  cases hf : f p
  ·have e1 : sumH f (p :: l) = sumH f l := by simp [sumH, hf]
   have e2 : (p :: l).all f = false := by simp [hf]
   rw [e1, e2, List.length_cons]
   refine ⟨by omega, fun h => by omega, fun h => by cases h⟩
  ·have e1 : sumH f (p :: l) = 1 + sumH f l := by simp [sumH, hf, hp]
   have e2 : (p :: l).all f = l.all f := by simp [hf]
   rw [e1, e2, List.length_cons, ← h2]
   refine ⟨by omega, fun h => by omega, fun h => by omega⟩
theorem sumH_congr {f g : Int × Int → Bool} : ∀ {l : List (Int × Int)}, (∀ p ∈ l, f p = g p) → sumH f l = sumH g l
 | [], _ => rfl
 | p :: l, h => by
  simp only [sumH, h p (List.mem_cons_self ..), sumH_congr (l := l) fun q hq => h q (List.mem_cons_of_mem _ hq)]

/-- Does a body hold, told by which of its literals hold? (Of a rule that is ok.) -/
def reachB (r : RuleD) (f : Int × Int → Bool) : Bool := if r.weight then decide (r.bound ≤ sumH f r.body) else r.body.all f
theorem reachB_T {r : RuleD} {f : Int × Int → Bool} (hw : r.weight = true) : reachB r f = decide (r.bound ≤ sumH f r.body) := by simp only [reachB, hw, if_true]
theorem reachB_F {r : RuleD} {f : Int × Int → Bool} (hw : r.weight = false) : reachB r f = r.body.all f := by simp [reachB, hw]
theorem reachB_congr {r : RuleD} {f g : Int × Int → Bool} (h : ∀ p ∈ r.body, f p = g p) : reachB r f = reachB r g := by
 unfold reachB; rw [sumH_congr h, all_congr h]

/-- What is above 0 is asked of xs, what is below 0 of ys. -/
def h2B (xs ys : List Int) (p : Int × Int) : Bool := decide (0 < p.1) && holdsB xs p.1 || decide (p.1 < 0) && holdsB ys p.1
theorem h2B_pos {xs ys : List Int} {p : Int × Int} (h : 0 < p.1) : h2B xs ys p = holdsB xs p.1 := by
 unfold h2B; rw [decide_eq_true h, decide_eq_false (by omega)]; simp
theorem h2B_neg {xs ys : List Int} {p : Int × Int} (h : p.1 < 0) : h2B xs ys p = holdsB ys p.1 := by
 unfold h2B; rw [decide_eq_false (by omega), decide_eq_true h]; simp
theorem h2B_same {xs : List Int} {p : Int × Int} : h2B xs xs p = holdsB xs p.1 := by
 by_cases h : 0 < p.1
 ·exact h2B_pos h
 ·by_cases h' : p.1 < 0
  ·exact h2B_neg h'
  ·have e : p.1 = 0 := by omega
   unfold h2B
   rw [e]
   simp [holdsB]

theorem all_take_no {α : Type} [Inhabited α] {f : α → Bool} {xs : List α} {k : Nat} (hk : k < xs.length) (h1 : f (nth xs k) = false) : (xs.take (k + 1)).all f = false := by
 rw [take_nth hk, List.all_append]; simp [h1]
theorem all_take_yes {α : Type} [Inhabited α] {f : α → Bool} {xs : List α} {k : Nat} (hk : k < xs.length) (h1 : f (nth xs k) = true) : (xs.take (k + 1)).all f = (xs.take k).all f := by
 rw [take_nth hk, List.all_append]; simp [h1]

theorem takeD {P : Program} {ops : Array Oper} {Q : Exit → Act → World → Prop} {md : Region.Mode} {S : World → Prop} {i : Nat} {oi : Oper} {v : Value} (d : Option Tmp) {fuel : Nat} {listed : Array Bool} {a : Act} {w : World} (hi : ops[i]? = some oi) (hd : oi.dst = d)
  (hs : Region.noSelect ops = true) (hf : Region.free md ops listed i = true) (hr : (Region.ready md ops listed).contains i = true)
  (hQ : ∀ c a w, Q (.panic c) (a.put oi.dst v) w → Q (.panic c) a w) (hy : YieldsIf P ops S oi v a) (hS : S w)
  (h : wpAnyH P md ops Q S fuel (listed.setIfInBounds i true) (a.put d v) w) : wpAnyH P md ops Q S (fuel + 1) listed a w := by
 subst hd
 exact wpAnyH_take hi hs hf hr hQ hy hS h
/-- An operation that is wanted is taken. -/
theorem tkY {P : Program} {ops : Array Oper} {Q : Exit → Act → World → Prop} {md : Region.Mode} {S : World → Prop} (i : Nat) {oi : Oper} (v : Value) (d : Tmp) {fuel : Nat} {listed : Array Bool} {a : Act} {w : World} (hi : ops[i]? = some oi) (hd : oi.dst = some d)
  (hy : ∀ w, S w → (execOp a.eval oi).run P w = .ok (.value v) w) (hS : S w)
  (h : wpAnyH P md ops Q S fuel (listed.setIfInBounds i true) (a.put (some d) v) w)
  (hs : Region.noSelect ops = true := by kernel_rfl) (hf : Region.free md ops listed i = true := by kernel_rfl) (hr : (Region.ready md ops listed).contains i = true := by kernel_rfl)
  (hQ : ∀ c a w, Q (.panic c) (a.put oi.dst v) w → Q (.panic c) a w := by exact fun _ _ _ h => h) (hw : Region.wanted oi (yielded ops a.tmps) = true := by rfl) : wpAnyH P md ops Q S (fuel + 1) listed a w :=
 takeD (some d) hi hd hs hf hr hQ (.inl ⟨hw, hy⟩) hS h
/-- One that is not wanted is passed over. -/
theorem tkN {P : Program} {ops : Array Oper} {Q : Exit → Act → World → Prop} {md : Region.Mode} {S : World → Prop} (i : Nat) {oi : Oper} (d : Tmp) {fuel : Nat} {listed : Array Bool} {a : Act} {w : World} (hi : ops[i]? = some oi) (hd : oi.dst = some d)
  (hS : S w) (h : wpAnyH P md ops Q S fuel (listed.setIfInBounds i true) (a.put (some d) undef) w)
  (hs : Region.noSelect ops = true := by kernel_rfl) (hf : Region.free md ops listed i = true := by kernel_rfl) (hr : (Region.ready md ops listed).contains i = true := by kernel_rfl)
  (hQ : ∀ c a w, Q (.panic c) (a.put oi.dst undef) w → Q (.panic c) a w := by exact fun _ _ _ h => h) (hw : Region.wanted oi (yielded ops a.tmps) = false := by rfl) : wpAnyH P md ops Q S (fuel + 1) listed a w :=
 takeD (some d) hi hd hs hf hr hQ (.inr ⟨hw, rfl⟩) hS h

set_option maxHeartbeats 2000000 in
theorem l02Reaches_calls {cs : List Value} {r : RuleD} {w : World} {v v' : Value} {xs ys : List Int} (h : Rd.R w cs r) (gx : RdL w [v] xs) (gy : RdL w [v'] ys) (hok : ruleOkB r 12 = true) :
  Calls Tryz.prog 89 #[.agg cs.toArray, v, v'] w fun e w' => e = .returned (.bool (reachB r (h2B xs ys))) ∧ Below w.heap.size w w' := by
 obtain ⟨hl, ⟨hb0, hb1⟩, hall⟩ := ruleOk_facts hok
 have HALL := Lib.hid hall
 have HW : Hid (∀ p ∈ r.body, 1 ≤ p.2 ∧ p.2 ≤ 1000) := fun p hp => ⟨(hall p hp).2.1, (hall p hp).2.2.1⟩
 clear hok hall
 obtain ⟨c1, c4, rfl, hf, g1, g4⟩ := h
 obtain ⟨ab, cb, rfl, _, h4⟩ := g4.sl
 obtain ⟨ax, cx, rfl, _, hx⟩ := gx.sl
 obtain ⟨ay, cy, rfl, _, hy⟩ := gy.sl
 have hx := (hx.later ((Below.refl _ _).alloc (Nat.le_refl _) (.cells #[.bool r.choice, c1, .bool r.weight, .int .i64 r.bound, .slice ab r.body.length cb] 34))).ints
 have hy := (hy.later ((Below.refl _ _).alloc (Nat.le_refl _) (.cells #[.bool r.choice, c1, .bool r.weight, .int .i64 r.bound, .slice ab r.body.length cb] 34))).ints
 have hm4 := h4.1
 have tb : Below w.heap.size w (w.alloc (.cells #[.bool r.choice, c1, .bool r.weight, .int .i64 r.bound, .slice ab r.body.length cb] 34)) := (Below.refl _ _).alloc (Nat.le_refl _) _
 clear g1 g4 hf gx gy
 by_cases hne : 0 < r.body.length
 ·obtain ⟨b, off, rfl, hcb⟩ := h4.base hne
  have HCB := Lib.hid hcb
  clear hcb h4
  go_enter Tryz.func89, Tryz.ntmps89
  go_wp2_with fail
  go_loop [7, 8, 9, 10] (fun s a i _ => ∃ k : Nat, k ≤ r.body.length ∧ i = .int .i64 k ∧ s = .int .i64 (sumH (h2B xs ys) (r.body.take k)) ∧ a = .bool ((r.body.take k).all (h2B xs ys))) (fun _ _ i _ => r.body.length - (intOf i).toNat)
  case atStart => exact ⟨0, Nat.zero_le _, rfl, rfl, rfl⟩
  case round =>
   obtain ⟨k, hk, rfl, rfl, rfl⟩ := hrel
   have hsb := sumH_take_bd (f := h2B xs ys) k HW.out hl
   obtain ⟨hsb0, hsb1⟩ := hsb
   by_cases hlt : k < r.body.length
   ·obtain ⟨ecs, hC, hR⟩ := HCB.out k hlt
    have hC := hC.later tb
    obtain ⟨rfl, hF, hf1⟩ := hR
    have hp := HALL.out _ (nth_mem hlt)
    obtain ⟨hp1, hp2, hp3, _⟩ := hp
    have u0 := hC.c0
    have u1 := hC.c1
    rw [show Rd.k (Int × Int) = 2 from rfl] at u0 u1
    clear hC
    by_cases hpos : 0 < (nth r.body k).1
    ·have hv2 := h2B_pos (xs := xs) (ys := ys) hpos
     have hneg : ¬ (nth r.body k).1 < 0 := by omega
     have hnd : decide ((nth r.body k).1 < 0) = false := decide_eq_false hneg
     clear hneg
     cases hH : holdsB xs (nth r.body k).1
     ·have hs1 := Lib.hid (sumH_no (f := h2B xs ys) hlt (hv2.trans hH))
      have ha1 := Lib.hid (all_take_no (f := h2B xs ys) hlt (hv2.trans hH))
      clear hv2 hp1
      go_wp2_with (go_at_call 126; refine (specHolds_calls _ _ _ _ _ (by first | exact hx | exact hy) hF).mono ?_; rintro e w' ⟨rfl, rfl⟩)
      go_round
      case rel => exact ⟨k + 1, by omega, by go_num, by rw [hs1.out], by rw [ha1.out]⟩
      case measure => simp [intOf]; omega
     ·have hs1 := Lib.hid (sumH_yes (f := h2B xs ys) hlt (hv2.trans hH))
      have ha1 := Lib.hid (all_take_yes (f := h2B xs ys) hlt (hv2.trans hH))
      clear hv2 hp1
      go_wp2_with (go_at_call 126; refine (specHolds_calls _ _ _ _ _ (by first | exact hx | exact hy) hF).mono ?_; rintro e w' ⟨rfl, rfl⟩)
      go_round
      case rel => exact ⟨k + 1, by omega, by go_num, by rw [hs1.out], by rw [ha1.out]⟩
      case measure => simp [intOf]; omega
    ·have hneg : (nth r.body k).1 < 0 := by have := lit12 hp1; omega
     have hv2 := h2B_neg (xs := xs) (ys := ys) hneg
     have hnp : decide (0 < (nth r.body k).1) = false := decide_eq_false hpos
     clear hpos
     cases hH : holdsB ys (nth r.body k).1
     ·have hs1 := Lib.hid (sumH_no (f := h2B xs ys) hlt (hv2.trans hH))
      have ha1 := Lib.hid (all_take_no (f := h2B xs ys) hlt (hv2.trans hH))
      clear hv2 hp1
      go_wp2_with (go_at_call 126; refine (specHolds_calls _ _ _ _ _ (by first | exact hx | exact hy) hF).mono ?_; rintro e w' ⟨rfl, rfl⟩)
      go_round
      case rel => exact ⟨k + 1, by omega, by go_num, by rw [hs1.out], by rw [ha1.out]⟩
      case measure => simp [intOf]; omega
     ·have hs1 := Lib.hid (sumH_yes (f := h2B xs ys) hlt (hv2.trans hH))
      have ha1 := Lib.hid (all_take_yes (f := h2B xs ys) hlt (hv2.trans hH))
      clear hv2 hp1
      go_wp2_with (go_at_call 126; refine (specHolds_calls _ _ _ _ _ (by first | exact hx | exact hy) hF).mono ?_; rintro e w' ⟨rfl, rfl⟩)
      go_round
      case rel => exact ⟨k + 1, by omega, by go_num, by rw [hs1.out], by rw [ha1.out]⟩
      case measure => simp [intOf]; omega
   ·have hk' : k = r.body.length := by omega
    have hse := Lib.hid (sumH_end (f := h2B xs ys) (l := r.body) (k := k) (by omega))
    have hae : Hid ((r.body.take k).all (h2B xs ys) = r.body.all (h2B xs ys)) := by show _ = _; rw [List.take_of_length_le (by omega)]
    clear hk'
    cases hw : r.weight
    ·have hv := Lib.hid (reachB_F (f := h2B xs ys) hw)
     go_wp2_with (go_at_call 126; refine (specHolds_calls _ _ _ _ _ (by first | exact hx | exact hy) hF).mono ?_; rintro e w' ⟨rfl, rfl⟩)
     go_ret
     exact ⟨ret_bool (by rw [hv.out, hae.out]), by have := tb; rw [hw] at this; exact this⟩
    ·have hv := Lib.hid (reachB_T (f := h2B xs ys) hw)
     go_wp2_with (go_at_call 126; refine (specHolds_calls _ _ _ _ _ (by first | exact hx | exact hy) hF).mono ?_; rintro e w' ⟨rfl, rfl⟩)
     go_ret
     exact ⟨ret_bool (by rw [hv.out, hse.out]), by have := tb; rw [hw] at this; exact this⟩
 ·have hbn : r.body = [] := by cases hh : r.body <;> simp_all
  have hbl : (r.body.length : Int) = 0 := by rw [hbn]; rfl
  have hv1 : Hid (r.weight = true → reachB r (h2B xs ys) = decide (r.bound ≤ 0)) := fun hw => by rw [reachB_T hw, hbn]; rfl
  have hv2 : Hid (r.weight = false → reachB r (h2B xs ys) = true) := fun hw => by rw [reachB_F hw, hbn]; rfl
  clear h4 hne hbn hm4 hl
  cases hw : r.weight
  ·have hv := Lib.hid (hv2.out hw)
   go_enter Tryz.func89, Tryz.ntmps89
   go_wp2_with fail
   refine wp_loop_rounds 1 ?_
   rw [rounds_succ]
   go_wp2_with (go_at_call 126; refine (specHolds_calls _ _ _ _ _ (by first | exact hx | exact hy) hF).mono ?_; rintro e w' ⟨rfl, rfl⟩)
   go_ret
   exact ⟨ret_bool hv.out.symm, by have := tb; rw [hw] at this; exact this⟩
  ·have hv := Lib.hid (hv1.out hw)
   go_enter Tryz.func89, Tryz.ntmps89
   go_wp2_with fail
   refine wp_loop_rounds 1 ?_
   rw [rounds_succ]
   go_wp2_with (go_at_call 126; refine (specHolds_calls _ _ _ _ _ (by first | exact hx | exact hy) hF).mono ?_; rintro e w' ⟨rfl, rfl⟩)
   go_ret
   exact ⟨ret_bool hv.out.symm, by have := tb; rw [hw] at this; exact this⟩

/-- BodyHolds. -/
def bodyHoldsB (r : RuleD) (xs : List Int) : Bool := ruleOkB r 12 && reachB r (fun p => holdsB xs p.1)
theorem bodyHoldsB_no {r : RuleD} {xs : List Int} (h : ruleOkB r 12 = false) : bodyHoldsB r xs = false := by simp only [bodyHoldsB, h, Bool.false_and]
theorem bodyHoldsB_yes {r : RuleD} {xs : List Int} (h : ruleOkB r 12 = true) : bodyHoldsB r xs = reachB r (fun p => holdsB xs p.1) := by simp only [bodyHoldsB, h, Bool.true_and]
theorem reach_same (r : RuleD) (xs : List Int) : reachB r (h2B xs xs) = reachB r (fun p => holdsB xs p.1) := reachB_congr fun _ _ => h2B_same

set_option maxHeartbeats 400000 in
theorem specBodyHolds_calls {cs : List Value} {r : RuleD} {w : World} {v : Value} {xs : List Int} (h : Rd.R w cs r) (gx : RdL w [v] xs) :
  Calls Tryz.prog 228 #[.agg cs.toArray, v] w fun e w' => e = .returned (.bool (bodyHoldsB r xs)) ∧ Below w.heap.size w w' := by
 obtain ⟨e0, e1, e2, e3, e4, rfl⟩ := list5 (Rd.len h)
 have t0 : Below w.heap.size w (w.alloc (.cells #[e0, e1, e2, e3, e4] 34)) := (Below.refl _ _).alloc (by simp) _
 cases hok : ruleOkB r 12
 ·have hv := Lib.hid (bodyHoldsB_no (xs := xs) hok)
  go_enter Tryz.func228, Tryz.ntmps228
  go_wp2_with fail
  refine (specRuleOk_calls 12 (Rd.mono t0 h)).mono ?_
  rintro e w1 ⟨rfl, b1⟩
  go_wp2
  go_ret
  exact ⟨ret_bool hv.out.symm, t0.step b1⟩
 ·have hv : Hid (bodyHoldsB r xs = reachB r (h2B xs xs)) := by show _ = _; rw [reach_same]; exact bodyHoldsB_yes hok
  go_enter Tryz.func228, Tryz.ntmps228
  go_wp2_with fail
  refine (specRuleOk_calls 12 (Rd.mono t0 h)).mono ?_
  rintro e w1 ⟨rfl, b1⟩
  obtain ⟨hc1, hf1⟩ := bcell b1
  have hz1 : w.heap.size < w1.heap.size := by have := b1.size; simp at this; omega
  have t1 := t0.step b1
  go_wp2_with fail
  refine (l02Reaches_calls (Rd.mono t1 h) (Rd.mono (α := List Int) t1 gx) (Rd.mono (α := List Int) t1 gx) hok).mono ?_
  rintro e w2 ⟨rfl, b2⟩
  go_wp2
  go_ret
  exact ⟨ret_bool hv.out.symm, t1.step b2⟩

/-- What the code adds up. -/
def needI (r : RuleD) : Int := if r.weight then r.bound else r.body.length
theorem needI_T {r : RuleD} (hw : r.weight = true) : needI r = r.bound := by simp only [needI, hw, if_true]
theorem needI_F {r : RuleD} (hw : r.weight = false) : needI r = r.body.length := by simp [needI, hw]

theorem need_calls {cs : List Value} {r : RuleD} {w : World} (h : Rd.R w cs r) :
  Calls Tryz.prog 230 #[.agg cs.toArray] w fun e w' => e = .returned (.int .i64 (needI r)) ∧ Below w.heap.size w w' := by
 obtain ⟨c1, c4, rfl, hf, g1, g4⟩ := h
 obtain ⟨ab, cb, rfl, _, h4⟩ := g4.sl
 clear g1 g4 hf h4
 cases hw : r.weight
 ·have hv := Lib.hid (needI_F hw)
  go_enter Tryz.func230, Tryz.ntmps230
  go_wp2
  go_ret
  exact ⟨ret_int hv.out.symm, (Below.refl _ _).alloc (Nat.le_refl _) _⟩
 ·have hv := Lib.hid (needI_T hw)
  go_enter Tryz.func230, Tryz.ntmps230
  go_wp2
  go_ret
  exact ⟨ret_int hv.out.symm, (Below.refl _ _).alloc (Nat.le_refl _) _⟩

/-- What is above 0 is asked of the set a, what is below 0 of the set b. -/
def litW (a b : Nat) (l : Int) : Bool := litM (if 0 < l then a else b) l
theorem litW_pos {a b : Nat} {l : Int} (h : 0 < l) : litW a b l = litM a l := by unfold litW; rw [if_pos h]
theorem litW_neg {a b : Nat} {l : Int} (h : ¬ 0 < l) : litW a b l = litM b l := by unfold litW; rw [if_neg h]
def reachI (r : RuleD) (a b : Nat) : Bool := decide (needI r ≤ sumH (fun p => litW a b p.1) r.body)
theorem reachI_of {r : RuleD} {a b : Nat} {f : Int × Int → Bool} (hok : ruleOkB r 12 = true) (hc : ∀ p ∈ r.body, litW a b p.1 = f p) : reachI r a b = reachB r f := by
 unfold reachI
 rw [sumH_congr (g := f) hc]
 obtain ⟨_, _, hall⟩ := ruleOk_facts hok
 cases hw : r.weight
 ·rw [reachB_F hw, needI_F hw]
  have := (sumH_ones (f := f) (l := r.body) fun p hp => (hall p hp).2.2.2 hw).2
  rw [Bool.eq_iff_iff, decide_eq_true_eq]
  exact this
 ·rw [reachB_T hw, needI_T hw]
theorem reachI_h2 {r : RuleD} {xs ys : List Int} (hok : ruleOkB r 12 = true) (hf : FitsR r) : reachI r (maskOf xs) (maskOf ys) = reachB r (h2B xs ys) := by
 refine reachI_of hok fun p hp => ?_
 have hF := (hf.2 p hp).1
 by_cases h : 0 < p.1
 ·rw [litW_pos h, h2B_pos h, litM_same xs p.1 hF]
 ·have hl := lit12 ((ruleOk_facts hok).2.2 p hp).1
  rw [litW_neg h, h2B_neg (by omega), litM_same ys p.1 hF]
theorem reachI_same {r : RuleD} {xs : List Int} (hok : ruleOkB r 12 = true) (hf : FitsR r) : reachI r (maskOf xs) (maskOf xs) = reachB r (fun p => holdsB xs p.1) := by
 rw [reachI_h2 hok hf]; exact reach_same r xs

theorem sumH_ab {f : Int × Int → Bool} : ∀ {l : List (Int × Int)}, (∀ p ∈ l, -1000 ≤ p.2 ∧ p.2 ≤ 1000) → -(1000 * (l.length : Int)) ≤ sumH f l ∧ sumH f l ≤ 1000 * (l.length : Int)
 | [], _ => by simp [sumH]
 | p :: l, h => by
  have ih := sumH_ab (f := f) (l := l) fun q hq => h q (List.mem_cons_of_mem _ hq)
  have hp := h p (List.mem_cons_self ..)
  simp only [sumH, List.length_cons]
  split <;> omega
theorem sumH_take_ab {f : Int × Int → Bool} {l : List (Int × Int)} (k : Nat) (h : ∀ p ∈ l, -1000 ≤ p.2 ∧ p.2 ≤ 1000) (hl : l.length ≤ 1048576) : -1048576000 ≤ sumH f (l.take k) ∧ sumH f (l.take k) ≤ 1048576000 := by
 have h1 := sumH_ab (f := f) (l := l.take k) fun q hq => h q (List.mem_of_mem_take hq)
 have h2 : (l.take k).length ≤ l.length := by rw [List.length_take]; omega
 omega
set_option maxHeartbeats 2000000 in
theorem reached_calls {v : Value} {row : List (Int × Int)} {w : World} (ma mb : Nat) (hma : ma < 4096) (hmb : mb < 4096) (h : RdL w [v] row) (hw : ∀ p ∈ row, -1000 ≤ p.2 ∧ p.2 ≤ 1000) (hl : row.length ≤ 1048576) :
  Calls Tryz.prog 229 #[v, .int .u16 (ma : Int), .int .u16 (mb : Int)] w fun e w' => e = .returned (.int .i64 (sumH (fun p => litW ma mb p.1) row)) ∧ Below w.heap.size w w' := by
 have HW := Lib.hid hw
 obtain ⟨ab, cb, rfl, _, h4⟩ := h.sl
 have hm4 := h4.1
 clear hw h
 by_cases hne : 0 < row.length
 ·obtain ⟨b, off, rfl, hcb⟩ := h4.base hne
  have HCB := Lib.hid hcb
  clear hcb h4
  go_enter Tryz.func229, Tryz.ntmps229
  go_wp2
  go_loopw [7, 13] (fun s i wr => ∃ k : Nat, k ≤ row.length ∧ i = .int .i64 k ∧ s = .int .i64 (sumH (fun p => litW ma mb p.1) (row.take k)) ∧ Below w.heap.size w wr) (fun _ i _ => row.length - (intOf i).toNat)
  case atStart => exact ⟨0, Nat.zero_le _, rfl, rfl, Below.refl _ _⟩
  case round =>
   obtain ⟨k, hk, rfl, rfl, hb⟩ := hrel
   have hsb := sumH_take_ab (f := fun p => litW ma mb p.1) k HW.out hl
   obtain ⟨hsb0, hsb1⟩ := hsb
   by_cases hlt : k < row.length
   ·obtain ⟨ecs, hC, hR⟩ := HCB.out k hlt
    have hC := hC.later hb
    obtain ⟨rfl, hF, hf1⟩ := hR
    have hp := HW.out _ (nth_mem hlt)
    obtain ⟨hp2, hp3⟩ := hp
    have u0 := hC.c0
    have u1 := hC.c1
    rw [show Rd.k (Int × Int) = 2 from rfl] at u0 u1
    have hb' := hb.alloc hb.size (.cells #[.int .i64 (nth row k).1, .int .i64 (nth row k).2] 94)
    clear hC
    by_cases hpos : 0 < (nth row k).1
    ·have hlw := litW_pos (a := ma) (b := mb) hpos
     cases hH : litM ma (nth row k).1
     ·have hs1 := Lib.hid (sumH_no (f := fun p => litW ma mb p.1) hlt (hlw.trans hH))
      go_wp2_with (go_at_call 262; refine (litHolds_calls _ _ _ (by first | exact hma | exact hmb) hF).mono ?_; rintro e w' ⟨rfl, rfl⟩)
      go_roundw
      case rel => exact ⟨k + 1, by omega, by go_num, by rw [hs1.out], hb'⟩
      case measure => simp [intOf]; omega
     ·have hs1 := Lib.hid (sumH_yes (f := fun p => litW ma mb p.1) hlt (hlw.trans hH))
      go_wp2_with (go_at_call 262; refine (litHolds_calls _ _ _ (by first | exact hma | exact hmb) hF).mono ?_; rintro e w' ⟨rfl, rfl⟩)
      go_roundw
      case rel => exact ⟨k + 1, by omega, by go_num, by rw [hs1.out], hb'⟩
      case measure => simp [intOf]; omega
    ·have hlw := litW_neg (a := ma) (b := mb) hpos
     cases hH : litM mb (nth row k).1
     ·have hs1 := Lib.hid (sumH_no (f := fun p => litW ma mb p.1) hlt (hlw.trans hH))
      go_wp2_with (go_at_call 262; refine (litHolds_calls _ _ _ (by first | exact hma | exact hmb) hF).mono ?_; rintro e w' ⟨rfl, rfl⟩)
      go_roundw
      case rel => exact ⟨k + 1, by omega, by go_num, by rw [hs1.out], hb'⟩
      case measure => simp [intOf]; omega
     ·have hs1 := Lib.hid (sumH_yes (f := fun p => litW ma mb p.1) hlt (hlw.trans hH))
      go_wp2_with (go_at_call 262; refine (litHolds_calls _ _ _ (by first | exact hma | exact hmb) hF).mono ?_; rintro e w' ⟨rfl, rfl⟩)
      go_roundw
      case rel => exact ⟨k + 1, by omega, by go_num, by rw [hs1.out], hb'⟩
      case measure => simp [intOf]; omega
   ·have hse := Lib.hid (sumH_end (f := fun p => litW ma mb p.1) (l := row) (k := k) (by omega))
    go_wp2
    go_ret
    exact ⟨ret_int hse.out, hb⟩
 ·have hbn : row = [] := by cases hh : row <;> simp_all
  have hbl : (row.length : Int) = 0 := by rw [hbn]; rfl
  have hse : Hid (0 = sumH (fun p => litW ma mb p.1) row) := by show _ = _; rw [hbn]; rfl
  clear h4 hne hbn hm4 hl
  go_enter Tryz.func229, Tryz.ntmps229
  go_wp2_with fail
  refine wp_loop_rounds 1 ?_
  rw [rounds_succ]
  go_wp2
  go_ret
  exact ⟨ret_int hse.out, Below.refl _ _⟩

set_option maxHeartbeats 2000000 in
theorem implReach2_calls {cs : List Value} {r : RuleD} {w : World} (ma mb : Nat) (hma : ma < 4096) (hmb : mb < 4096) (h : Rd.R w cs r) (hok : ruleOkB r 12 = true) :
  Calls Tryz.prog 166 #[.agg cs.toArray, .int .u16 (ma : Int), .int .u16 (mb : Int)] w fun e w' => e = .returned (.bool (reachI r ma mb)) ∧ Below w.heap.size w w' := by
 obtain ⟨hl, _, hall⟩ := ruleOk_facts hok
 have HW : ∀ p ∈ r.body, -1000 ≤ p.2 ∧ p.2 ≤ 1000 := fun p hp => ⟨by have := (hall p hp).2.1; omega, (hall p hp).2.2.1⟩
 have HR := Lib.hid h
 obtain ⟨c1, c4, rfl, hf, g1, g4⟩ := h
 have CX := Cells.new w [.bool r.choice, c1, .bool r.weight, .int .i64 r.bound, c4] 34
 have tb : Below w.heap.size w (w.alloc (.cells #[.bool r.choice, c1, .bool r.weight, .int .i64 r.bound, c4] 34)) := (Below.refl _ _).alloc (Nat.le_refl _) _
 have hv : Hid (reachI r ma mb = decide (needI r ≤ sumH (fun p => litW ma mb p.1) r.body)) := rfl
 have HQ := fun (W : World) (hb : Below w.heap.size w W) => Lib.hid (reached_calls ma mb hma hmb (Rd.mono (α := List (Int × Int)) hb g4) HW (by omega))
 have HN := fun (W : World) (hb : Below w.heap.size w W) => Lib.hid (need_calls (Rd.mono hb HR.out))
 clear hok hall g1 g4 hf HW
 generalize sumH (fun p => litW ma mb p.1) r.body = sm at *
 generalize needI r = nd at *
 go_enter Tryz.func166, Tryz.ntmps166
 go_wp2_with fail
 go_region_held3 (fun w' => w'.cell? ⟨w.heap.size, 0, none⟩ = some (.bool r.choice) ∧ w'.cell? ⟨w.heap.size, 1, none⟩ = some c1 ∧ w'.cell? ⟨w.heap.size, 2, none⟩ = some (.bool r.weight) ∧ w'.cell? ⟨w.heap.size, 3, none⟩ = some (.int .i64 r.bound) ∧ w'.cell? ⟨w.heap.size, 4, none⟩ = some c4)
  (first | exact cells5 CX | exact cells5 (CX.drew.later b1) | exact cells5 ((CX.drew.later b1).later b2))
  (first | (go_at_call 229; refine (HQ _ tb.drew).out.mono ?_; rintro e w1 ⟨rfl, b1⟩) | (go_at_call 230; refine (HN _ (tb.drew.step b1)).out.mono ?_; rintro e w2 ⟨rfl, b2⟩))
 go_wp2
 go_ret
 exact ⟨ret_bool hv.out.symm, (tb.drew.step b1).step b2⟩

theorem implReach_calls {cs : List Value} {r : RuleD} {w : World} (m : Nat) (hm : m < 4096) (h : Rd.R w cs r) (hok : ruleOkB r 12 = true) :
  Calls Tryz.prog 75 #[.agg cs.toArray, .int .u16 (m : Int)] w fun e w' => e = .returned (.bool (reachI r m m)) ∧ Below w.heap.size w w' := by
 obtain ⟨e0, e1, e2, e3, e4, rfl⟩ := list5 (Rd.len h)
 have t0 : Below w.heap.size w (w.alloc (.cells #[e0, e1, e2, e3, e4] 34)) := (Below.refl _ _).alloc (by simp) _
 go_enter Tryz.func75, Tryz.ntmps75
 go_wp2_with fail
 refine (implReach2_calls m m hm hm (Rd.mono t0 h) hok).mono ?_
 rintro e w1 ⟨rfl, b1⟩
 go_wp2
 go_ret
 exact ⟨rfl, t0.step b1⟩

theorem meet_calls (a b : Nat) (w : World) (ha : a < 4096) (hb : b < 4096) :
  Calls Tryz.prog 183 #[.int .u16 (a : Int), .int .u16 (b : Int)] w fun e w' => e = .returned (.int .u16 ((a &&& b : Nat) : Int)) ∧ w = w' := by
 have hor := and_u16 a b ha hb
 go_enter Tryz.func183, Tryz.ntmps183
 go_wp2
 go_ret
 exact ⟨rfl, rfl⟩

set_option maxHeartbeats 1000000 in
theorem implBodyHolds_calls {cs : List Value} {r : RuleD} {w : World} {v : Value} {xs : List Int} (h : Rd.R w cs r) (gx : RdL w [v] xs) :
  Calls Tryz.prog 18 #[.agg cs.toArray, v] w fun e w' => e = .returned (.bool (bodyHoldsB r xs)) ∧ Below w.heap.size w w' := by
 have hfr := rd_rule h
 have hml := maskOf_lt xs
 obtain ⟨e0, e1, e2, e3, e4, rfl⟩ := list5 (Rd.len h)
 have CX := Cells.new w [e0, e1, e2, e3, e4] 34
 obtain ⟨x0, x1, x2, x3, x4⟩ := cells5 CX
 have t0 : Below w.heap.size w (w.alloc (.cells #[e0, e1, e2, e3, e4] 34)) := (Below.refl _ _).alloc (by simp) _
 obtain ⟨ax, cx, rfl, _, hx⟩ := gx.sl
 cases hok : ruleOkB r 12
 ·have hv := Lib.hid (bodyHoldsB_no (xs := xs) hok)
  go_enter Tryz.func18, Tryz.ntmps18
  go_wp2_with fail
  refine wp_region_held_drew (S := fun w' => w'.cell? ⟨w.heap.size, 0, none⟩ = some e0 ∧ w'.cell? ⟨w.heap.size, 1, none⟩ = some e1 ∧ w'.cell? ⟨w.heap.size, 2, none⟩ = some e2 ∧ w'.cell? ⟨w.heap.size, 3, none⟩ = some e3 ∧ w'.cell? ⟨w.heap.size, 4, none⟩ = some e4) (by kernel_rfl) (cells5 CX) (fun hHeld => ?_)
  refine tkY 0 (.agg #[e0, e1, e2, e3, e4]) 5 rfl rfl (fun w' hw' => ?_) hHeld ?_
  ·first | (go_simp; done) | (obtain ⟨s0, s1, s2, s3, s4⟩ := hw'; go_simp)
  try simp only [Act.put, put1, put2, put3]
  refine wpAnyH_ready (rs := [1]) (by kernel_rfl) (by simp) ?_
  refine AllReadyH.cons rfl (fun K hK => ?_) AllReadyH.nil
  go_simp
  refine (implRuleOk_calls 12 (Rd.mono t0.drew h)).mono ?_
  rintro e w1 ⟨he, b1⟩
  rw [hok] at he
  subst he
  refine hK.out _ _ (cells5 (CX.drew.later b1)) (fun hHeld => ?_)
  clear hK K
  try simp only [Act.put, put1, put2, put3]
  refine tkY 2 (.bool false) 7 rfl rfl (fun w' hw' => ?_) hHeld ?_
  ·first | (go_simp; done) | (obtain ⟨s0, s1, s2, s3, s4⟩ := hw'; go_simp)
  try simp only [Act.put, put1, put2, put3]
  refine tkN 3 8 rfl rfl hHeld ?_
  try simp only [Act.put, put1, put2, put3]
  refine tkN 4 9 rfl rfl hHeld ?_
  try simp only [Act.put, put1, put2, put3]
  refine tkN 5 10 rfl rfl hHeld ?_
  try simp only [Act.put, put1, put2, put3]
  refine tkN 6 11 rfl rfl hHeld ?_
  try simp only [Act.put, put1, put2, put3]
  refine tkY 7 (.bool false) 12 rfl rfl (fun w' hw' => ?_) hHeld ?_
  ·first | (go_simp; done) | (obtain ⟨s0, s1, s2, s3, s4⟩ := hw'; go_simp)
  try simp only [Act.put, put1, put2, put3]
  refine tkY 8 (.bool false) 4 rfl rfl (fun w' hw' => ?_) hHeld ?_
  ·first | (go_simp; done) | (obtain ⟨s0, s1, s2, s3, s4⟩ := hw'; go_simp)
  try simp only [Act.put, put1, put2, put3]
  refine wpAnyH_done (by kernel_rfl) ?_ _
  go_wp2
  go_ret
  exact ⟨ret_bool hv.out.symm, t0.drew.step b1⟩
 ·have hv : Hid (bodyHoldsB r xs = reachI r (maskOf xs) (maskOf xs)) := by show _ = _; rw [reachI_same hok hfr]; exact bodyHoldsB_yes hok
  go_enter Tryz.func18, Tryz.ntmps18
  go_wp2_with fail
  go_region_held3 (fun w' => w'.cell? ⟨w.heap.size, 0, none⟩ = some e0 ∧ w'.cell? ⟨w.heap.size, 1, none⟩ = some e1 ∧ w'.cell? ⟨w.heap.size, 2, none⟩ = some e2 ∧ w'.cell? ⟨w.heap.size, 3, none⟩ = some e3 ∧ w'.cell? ⟨w.heap.size, 4, none⟩ = some e4)
   (first | exact cells5 CX | exact cells5 (CX.drew.later b1) | exact cells5 ((CX.drew.later b1).later b2))
   (first | (go_at_call 74; refine (implRuleOk_calls 12 (Rd.mono t0.drew h)).mono ?_; rintro e w1 ⟨he, b1⟩; rw [hok] at he; subst he) | (go_at_call 76; refine (atomsIn_calls _ _ _ _ (hx.later (t0.drew.step b1)).ints).mono ?_; rintro e w' ⟨rfl, rfl⟩) |
    (go_at_call 75; refine (implReach_calls _ hml (Rd.mono (t0.drew.step b1) h) hok).mono ?_; rintro e w2 ⟨rfl, b2⟩))
  go_wp2
  go_ret
  exact ⟨ret_bool hv.out.symm, (t0.drew.step b1).step b2⟩

end Go.Proofs.YthikhkeofcjdfaaGreat
