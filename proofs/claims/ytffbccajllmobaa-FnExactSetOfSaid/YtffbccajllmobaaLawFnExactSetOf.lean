/-
  laws.FnExactSetOf returns true, whatever its arguments; they read afterwards as before.
  Conditions: none (what every row of this form says by itself: the arguments can be read as data).
-/
import Derived.Test.YtffbccajllmobaaLawsInts
import Derived.Test.YtffbccajllmobaaSetsPure
import Derived.Test.YtffbccajllmobaaRows
import Derived.WalkKit
import Derived.ProofKit
import Derived.OpenShut
import Derived.ShutString
namespace Go.Proofs.Ytffbccajllmobaa.fnExactSetOf
open Go.ChangeShapes Go.WideShapes Go.ChangeAt Go.RowKit
open Go.ChangeMaps (open_string shut_string)
set_option linter.unusedVariables false      -- a walk need not use every 'w<i>' (that an integer argument fits its kind)

theorem own : ownKnob Try.prog.godebug = none := by kernel_rfl

set_option maxHeartbeats 1000000 in
theorem law (n : Int) (w : World) :
    Calls Try.prog 10 #[.int .i64 n] w fun e w' => e = .returned (.bool true) ∧ Below w.heap.size w w' := by
  have t0 : Below w.heap.size w w := Below.refl _ _
  have hr := setOfS_len n
  have qr := eqB_self (setOfS n)
  go_enter Try.func10, Try.ntmps10
  go_wp2_with fail
  refine (specSetOf_calls _ _).mono ?_
  intro e w1 hr1
  obtain ⟨p1, c1, he, o1, b1⟩ := retI hr1
  subst he
  clear hr1
  have t1 := t0.step b1
  go_wp2_with fail
  refine (implSetOfR_calls _ _).mono ?_
  intro e w2 hr2
  obtain ⟨p2, c2, he, o2, b2⟩ := retI hr2
  subst he
  clear hr2
  have t2 := t1.step b2
  have a12 := own_apart o1 o2 (Nat.le_refl _)
  go_wp2_with fail
  refine (eqIntS_calls _ _ _ _ _ _ _ o2.ints (o1.kept b2).ints).mono ?_
  intro e w3 hr3
  obtain ⟨he, b3⟩ := hr3
  subst he
  have t3 := t2.step b3
  have k1 := o1.kept (b2.step b3)
  have k2 := o2.kept b3
  clear o1 o2
  go_wp2_with fail
  refine (markIntS_calls _ _ _ _ _ _ _ k2 (by omega) (by omega)).mono ?_
  intro e w4 hr4
  obtain ⟨he, m4, g4, l4⟩ := hr4
  subst he
  have t4 := t3.mark g4 (fun k hk => Nat.le_trans t1.size (l4 k hk))
  have k1 := k1.grown g4 a12.1
  go_wp2_with fail
  refine (heldIntS_calls _ _ _ _ _ m4.ints (by omega) (by omega)).mono ?_
  rintro e w' ⟨rfl, rfl⟩
  go_wp2_with fail
  refine (implSetOfR_calls _ _).mono ?_
  intro e w5 hr5
  obtain ⟨p5, c5, he, o5, b5⟩ := retI hr5
  subst he
  clear hr5
  have t5 := t4.step b5
  go_wp2_with fail
  refine (eqIntS_calls _ _ _ _ _ _ _ o5.ints (k1.kept b5).ints).mono ?_
  intro e w6 hr6
  obtain ⟨he, b6⟩ := hr6
  subst he
  have t6 := t5.step b6
  go_wp2_with fail
  refine (heldIntS_calls _ _ _ _ _ (m4.kept (b5.step b6)).ints (by omega) (by omega)).mono ?_
  rintro e w' ⟨rfl, rfl⟩
  go_wp2
  go_ret
  exact ⟨rfl, t6⟩

theorem walk (a0 : Int) (w0 : (Lit.int .i64 a0).wf = true) (w : World) :
    Calls Try.prog 10 #[.int .i64 a0] w fun e w' => e = .returned (.bool true) ∧ Below w.heap.size w w' := by
  exact law _ _

/-! ### THE ROW's STEP: WRITTEN OUT: LEAVE IT -/
set_option maxRecDepth 100000 in
theorem lifted (os : Os) (started : os.Started) (H : Type) (enc : TypeId × Value → H) :
    ReturnsInHanded {} Try.checked os 10 .any (Rows.fnExactSetOfSpec.pre6 enc Try.prog Try.f10 Rows.fnExactSetOfRow.domain false) (Rows.fnExactSetOfSpec.post enc Try.prog Try.f10 false true false false) := by
  refine returnsInHanded_of_change (C := Try.checked) own started (by kernel_rfl) Try.func10
    (ChangeSpec.witness6 (enc := enc) (C := Try.checked) false ⟨#[], #[.int .i64 0], []⟩ 8 (by kernel_rfl) (by kernel_rfl) (by kernel_rfl) (by kernel_rfl)) ?_
  intro W base args ds gs before hval0 hW hcnd _
  have hval : ∀ (j : Nat) t v, Try.f10.params[j]? = some t → args[j]? = some v → Value.okWide Try.prog W .any base t v := hval0
  have hW' := hW
  obtain ⟨p, q, hA0, hV, rfl, hfz, hnd⟩ := hW
  have hA : DataW.TrodAll enc Try.prog W 0 (fun _ => true) true Try.f10.params.toList args.toList ds p := hA0
  rw [Try.params10] at hA hval
  obtain ⟨v0, vs0, d0, ds0, p0, q0, hargs, rfl, rfl, h0, r0⟩ := trodAll_cons hA
  obtain ⟨rfl, rfl, rfl⟩ := trodAll_nil r0
  obtain rfl : args = #[v0] := by cases args; simp_all
  obtain ⟨rfl, rfl⟩ := trodVars_none hV
  obtain ⟨a0, rfl, rfl, rfl, w0⟩ := open_int Try.underlying3 (hval 0 3 v0 rfl rfl) h0
  clear hA0 hval0
  simp only [List.append_nil] at hW'
  refine (walk a0 w0 W).mono fun e W' ⟨he, hg⟩ => ?_
  subst he
  exact ⟨_, rfl, _, _, _, [], [], [], hW', (trodAll_cons_mk (shut_bool Try.underlying4 _) trodAll_mk0), (trodAll_cons_mk (shut_int Try.underlying3 w0) trodAll_mk0), rfl, hg.frame _, fun h => by cases h⟩

theorem over : Rows.fnExactSetOfRow.holds Try.pinned (OpenSpec.ofChange Rows.fnExactSetOfSpec) :=
  OpenClaim.holds_of_wide 10 Try.f10 rfl rfl rfl rfl rfl rfl rfl ⟨rfl, rfl, rfl, rfl, rfl⟩ rfl rfl rfl rfl rfl (by kernel_rfl) Try.func10 (by kernel_rfl)
    (of_decide_eq_true (by kernel_rfl)) (by unfold Func.isWrapper; first | (rw [if_pos (by decide +kernel)]; kernel_rfl) | (rw [if_neg (by decide +kernel)]; exact ⟨rfl, rfl⟩))
    (fun os started H enc _ => lifted os started H enc)

theorem proved : Rows.FnExactSetOfSaid :=
  over
end Go.Proofs.Ytffbccajllmobaa.fnExactSetOf
