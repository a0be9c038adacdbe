/-
  laws.FnExactCheaper returns true, whatever its arguments; they read afterwards as before.
  Conditions: none (what every row of this form says by itself: the arguments can be read as data).
-/
import Derived.Test.YtnapbjifbppndaaLawsInts
import Derived.Test.YtnapbjifbppndaaCheap
import Derived.Test.YtnapbjifbppndaaOpen
import Derived.Test.YtnapbjifbppndaaRows
import Derived.WalkKit
import Derived.ProofKit
import Derived.OpenShut
import Derived.ShutString
import Derived.ChangeOld
import Derived.Below
namespace Go.Proofs.Ytnapbjifbppndaa.fnExactCheaper
open Go.ChangeShapes Go.WideShapes Go.ChangeAt Go.RowKit
open Go.ChangeMaps (open_string shut_string)
set_option linter.unusedVariables false
set_option linter.unusedSimpArgs false

theorem own : ownKnob Try.prog.godebug = none := by kernel_rfl
theorem laidOut : laidOutB Try.prog = true := by kernel_rfl

set_option maxHeartbeats 2000000 in
theorem law {v v' : Value} {xs ys : List Int} {w : World} (g : RdL w [v] xs) (g' : RdL w [v'] ys) :
    Calls Try.prog 3 #[v, v'] w fun e w' => e = .returned (.bool true) ∧ Below w.heap.size w w' := by
  obtain ⟨p, c, rfl, _, hx0⟩ := g.sl
  obtain ⟨q, d, rfl, _, hy0⟩ := g'.sl
  have h := hx0.ints
  have h' := hy0.ints
  clear hx0 hy0 g g'
  by_cases hx : 1048576 < xs.length
  · have hx' : (1048576 : Int) < (xs.length : Int) := by omega
    go_enter Try.func3, Try.ntmps3
    go_wp2
    go_ret
    exact ⟨rfl, Below.refl _ _⟩
  by_cases hy : 1048576 < ys.length
  · have hy' : (1048576 : Int) < (ys.length : Int) := by omega
    have hx' : (xs.length : Int) ≤ 1048576 := by omega
    go_enter Try.func3, Try.ntmps3
    go_wp2
    go_ret
    exact ⟨rfl, Below.refl _ _⟩
  have hx1 : xs.length ≤ 1048576 := by omega
  have hy1 : ys.length ≤ 1048576 := by omega
  have hx' : (xs.length : Int) ≤ 1048576 := by omega
  have hy' : (ys.length : Int) ≤ 1048576 := by omega
  have t0 : Below w.heap.size w w := Below.refl _ _
  clear hx hy
  have qx := eqB_self xs
  have qy := eqB_self ys
  go_enter Try.func3, Try.ntmps3
  go_wp2_with fail
  refine (toIntS_calls _ _ _ _ (h.later t0) hx1).mono ?_
  intro e w1 hr1
  obtain ⟨p1, c1, he, o1, b1⟩ := retI hr1
  subst he
  clear hr1
  have t1 := t0.step b1
  go_wp2_with fail
  refine (toIntS_calls _ _ _ _ (h'.later t1) hy1).mono ?_
  intro e w2 hr2
  obtain ⟨p2, c2, he, o2, b2⟩ := retI hr2
  subst he
  clear hr2
  have t2 := t1.step b2
  go_wp2_with fail
  refine (specCheaper_calls _ _ _ _ _ _ _ (o1.kept b2).ints o2.ints).mono ?_
  intro e w3 hr3
  obtain ⟨he, b3⟩ := hr3
  subst he
  have t3 := t2.step b3
  go_wp2_with fail
  refine (toIntS_calls _ _ _ _ (h.later t3) hx1).mono ?_
  intro e w4 hr4
  obtain ⟨p4, c4, he, o4, b4⟩ := retI hr4
  subst he
  clear hr4
  have t4 := t3.step b4
  go_wp2_with fail
  refine (toIntS_calls _ _ _ _ (h'.later t4) hy1).mono ?_
  intro e w5 hr5
  obtain ⟨p5, c5, he, o5, b5⟩ := retI hr5
  subst he
  clear hr5
  have t5 := t4.step b5
  go_wp2_with fail
  refine (implCheaper_calls _ _ _ _ _ _ _ (o4.kept b5).ints o5.ints).mono ?_
  rintro e w' ⟨rfl, rfl⟩
  go_wp2_with fail
  refine (toIntS_calls _ _ _ _ (h.later t5) hx1).mono ?_
  intro e w6 hr6
  obtain ⟨p6, c6, he, o6, b6⟩ := retI hr6
  subst he
  clear hr6
  have t6 := t5.step b6
  go_wp2_with fail
  refine (eqIntS_calls _ _ _ _ _ _ _ ((o4.kept b5).kept b6).ints o6.ints).mono ?_
  intro e w7 hr7
  obtain ⟨he, b7⟩ := hr7
  subst he
  have t7 := t6.step b7
  go_wp2_with fail
  refine (toIntS_calls _ _ _ _ (h'.later t7) hy1).mono ?_
  intro e w8 hr8
  obtain ⟨p8, c8, he, o8, b8⟩ := retI hr8
  subst he
  clear hr8
  have t8 := t7.step b8
  go_wp2_with fail
  refine (eqIntS_calls _ _ _ _ _ _ _ (((o5.kept b6).kept b7).kept b8).ints o8.ints).mono ?_
  intro e w9 hr9
  obtain ⟨he, b9⟩ := hr9
  subst he
  have t9 := t8.step b9
  go_wp2
  go_ret
  exact ⟨rfl, t9⟩

set_option maxRecDepth 100000 in
theorem lifted (os : Os) (started : os.Started) (H : Type) (enc : TypeId × Value → H) :
    ReturnsInHanded {} Try.checked os 3 .any (Rows.fnExactCheaperSpec.pre6 enc Try.prog Try.f3 Rows.fnExactCheaperRow.domain false) (Rows.fnExactCheaperSpec.post enc Try.prog Try.f3 false true false false) := by
  refine returnsInHanded_of_change (C := Try.checked) own started (by kernel_rfl) Try.func3
    (ChangeSpec.witness6 (enc := enc) (C := Try.checked) false ⟨#[], #[.slice none 0 0, .slice none 0 0], []⟩ 8 (by kernel_rfl) (by kernel_rfl) (by kernel_rfl) (by kernel_rfl)) ?_
  intro W base args ds gs before hval0 hW hcnd _
  have hval : ∀ (j : Nat) t v, Try.f3.params[j]? = some t → args[j]? = some v → Value.okWide Try.prog W .any base t v := hval0
  have hW' := hW
  obtain ⟨p, q, hA0, hV, rfl, hfz, hnd⟩ := hW
  have hA : DataW.TrodAll enc Try.prog W 0 (fun _ => true) true Try.f3.params.toList args.toList ds p := hA0
  rw [Try.params3] at hA hval
  obtain ⟨v0, vs0, d0, ds0, p0, q0, hargs, rfl, rfl, h0, r0⟩ := trodAll_cons hA
  obtain ⟨v1, vs1, d1, ds1, p1, q1, rfl, rfl, rfl, h1, r1⟩ := trodAll_cons r0
  obtain ⟨rfl, rfl, rfl⟩ := trodAll_nil r1
  obtain rfl : args = #[v0, v1] := by cases args; simp_all
  obtain ⟨rfl, rfl⟩ := trodVars_none hV
  have k0 := h0
  have lt0 : ∀ x ∈ p0, x.block < W.heap.size := by obtain ⟨m, hm⟩ := k0; exact DataW.trod_lt m _ _ _ hm
  obtain ⟨x0, w0⟩ := arg_slice Try.underlying22 opens_ints (hval 0 22 v0 rfl rfl) h0
  have k1 := h1
  have lt1 : ∀ x ∈ p1, x.block < W.heap.size := by obtain ⟨m, hm⟩ := k1; exact DataW.trod_lt m _ _ _ hm
  obtain ⟨x1, w1⟩ := arg_slice Try.underlying22 opens_ints (hval 1 22 v1 rfl rfl) h1
  clear hA0 hval0
  refine (law w0 w1).mono fun e W' ⟨he, bel⟩ => ?_
  subst he
  exact ⟨_, rfl, _, _, _, [], _, [], hW', trodAll_mk1 (shut_bool Try.underlying4 _), (trodAll_cons_mk (Below.trod laidOut (by kernel_rfl) (of_decide_eq_true (by kernel_rfl)) k0 bel lt0) (trodAll_cons_mk (Below.trod laidOut (by kernel_rfl) (of_decide_eq_true (by kernel_rfl)) k1 bel lt1) trodAll_mk0)), rfl, bel.frame _, fun h => by cases h⟩

theorem over : Rows.fnExactCheaperRow.holds Try.pinned (OpenSpec.ofChange Rows.fnExactCheaperSpec) :=
  OpenClaim.holds_of_wide 3 Try.f3 rfl rfl rfl rfl rfl rfl rfl ⟨rfl, rfl, rfl, rfl, rfl⟩ rfl rfl rfl rfl rfl (by kernel_rfl) Try.func3 (by kernel_rfl)
    (of_decide_eq_true (by kernel_rfl)) (by unfold Func.isWrapper; first | (rw [if_pos (by decide +kernel)]; kernel_rfl) | (rw [if_neg (by decide +kernel)]; exact ⟨rfl, rfl⟩))
    (fun os started H enc _ => lifted os started H enc)

theorem proved : Rows.FnExactCheaperSaid := over
end Go.Proofs.Ytnapbjifbppndaa.fnExactCheaper
