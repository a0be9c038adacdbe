/-
  laws.FnExactTrueOf returns true, whatever its arguments; they read afterwards as before.
  Conditions: none (what every row of this form says by itself: the arguments can be read as data).
-/
import Derived.Test.YteeoiplakfajkaaLawsInts
import Derived.Test.YteeoiplakfajkaaVal
import Derived.Test.YteeoiplakfajkaaOpen
import Derived.Test.YteeoiplakfajkaaRows
import Derived.WalkKit
import Derived.ProofKit
import Derived.OpenShut
import Derived.ShutString
import Derived.ChangeOld
import Derived.Below
namespace Go.Proofs.Yteeoiplakfajkaa.fnExactTrueOf
open Go.ChangeShapes Go.WideShapes Go.ChangeAt Go.RowKit
open Go.ChangeMaps (open_string shut_string)
set_option linter.unusedVariables false
set_option linter.unusedSimpArgs false

theorem own : ownKnob Try.prog.godebug = none := by kernel_rfl
theorem laidOut : laidOutB Try.prog = true := by kernel_rfl

set_option maxHeartbeats 2000000 in
theorem law {v : Value} {xs : List Int} {w : World} (g : RdL w [v] xs) :
    Calls Try.prog 5 #[v] w fun e w' => e = .returned (.bool true) ∧ Below w.heap.size w w' := by
  obtain ⟨p, c, rfl, _, hx0⟩ := g.sl
  have h := hx0.ints
  clear hx0 g
  by_cases hx : 1048576 < xs.length
  · have hx' : (1048576 : Int) < (xs.length : Int) := by omega
    go_enter Try.func5, Try.ntmps5
    go_wp2
    go_ret
    exact ⟨rfl, Below.refl _ _⟩
  have hx1 : xs.length ≤ 1048576 := by omega
  have hx' : (xs.length : Int) ≤ 1048576 := by omega
  have t0 : Below w.heap.size w w := Below.refl _ _
  clear hx
  have qx := eqB_self xs
  have qr := eqB_self (withL xs 1)
  have hr := withL_len xs 1
  generalize hR : withL xs 1 = R at *
  have HR := Lib.hid hR
  clear hR
  go_enter Try.func5, Try.ntmps5
  go_wp2_with fail
  refine (toIntS_calls _ _ _ _ (h.later t0) hx1).mono ?_
  intro e w1 hr1
  obtain ⟨p1, c1, he, o1, b1⟩ := retI hr1
  subst he
  clear hr1
  have t1 := t0.step b1
  go_wp2_with fail
  refine (HR.out ▸ specTrueOf_calls _ _ _ _ o1.ints).mono ?_
  intro e w2 hr2
  obtain ⟨p2, c2, he, o2, b2⟩ := retI hr2
  subst he
  clear hr2
  have t2 := t1.step b2
  go_wp2_with fail
  refine (toIntS_calls _ _ _ _ (h.later t2) hx1).mono ?_
  intro e w3 hr3
  obtain ⟨p3, c3, he, o3, b3⟩ := retI hr3
  subst he
  clear hr3
  have t3 := t2.step b3
  go_wp2_with fail
  refine (HR.out ▸ implTrueOf_calls _ _ _ _ o3.ints).mono ?_
  intro e w4 hr4
  obtain ⟨p4, c4, he, o4, b4⟩ := retI hr4
  subst he
  clear hr4
  have t4 := t3.step b4
  have a23 := own_apart o2 o3 (Nat.le_refl _)
  have a24 := own_apart o2 o4 b3.size
  have a34 := own_apart o3 o4 (Nat.le_refl _)
  go_wp2_with fail
  refine (eqIntS_calls _ _ _ _ _ _ _ o4.ints (o2.kept (b3.step b4)).ints).mono ?_
  intro e w5 hr5
  obtain ⟨he, b5⟩ := hr5
  subst he
  have t5 := t4.step b5
  go_wp2_with fail
  refine (toIntS_calls _ _ _ _ (h.later t5) hx1).mono ?_
  intro e w6 hr6
  obtain ⟨p6, c6, he, o6, b6⟩ := retI hr6
  subst he
  clear hr6
  have t6 := t5.step b6
  go_wp2_with fail
  refine (eqIntS_calls _ _ _ _ _ _ _ (o3.kept ((b4.step b5).step b6)).ints o6.ints).mono ?_
  intro e w7 hr7
  obtain ⟨he, b7⟩ := hr7
  subst he
  have t7 := t6.step b7
  have k2 := o2.kept ((((b3.step b4).step b5).step b6).step b7)
  have k3 := o3.kept (((b4.step b5).step b6).step b7)
  have k4 := o4.kept ((b5.step b6).step b7)
  clear o1 o2 o3 o4 o6
  go_wp2_with fail
  refine (markIntS_calls _ _ _ _ _ _ _ k3 (by omega) (by omega)).mono ?_
  intro e w8 hr8
  obtain ⟨he, m8, g8, l8⟩ := hr8
  subst he
  have t8 := t7.mark g8 (fun k hk => Nat.le_trans t2.size (l8 k hk))
  have k2 := k2.grown g8 a23.1
  have k4 := k4.grown g8 a34.2
  go_wp2_with fail
  refine (eqIntS_calls _ _ _ _ _ _ _ k4.ints k2.ints).mono ?_
  intro e w9 hr9
  obtain ⟨he, b9⟩ := hr9
  subst he
  have t9 := t8.step b9
  have k2 := k2.kept b9
  have k4 := k4.kept b9
  go_wp2_with fail
  refine (markIntS_calls _ _ _ _ _ _ _ k4 (by omega) (by omega)).mono ?_
  intro e w10 hr10
  obtain ⟨he, m10, g10, l10⟩ := hr10
  subst he
  have t10 := t9.mark g10 (fun k hk => Nat.le_trans t3.size (l10 k hk))
  have k2 := k2.grown g10 a24.1
  go_wp2_with fail
  refine (heldIntS_calls _ _ _ _ _ m10.ints (by omega) (by omega)).mono ?_
  rintro e w' ⟨rfl, rfl⟩
  go_wp2_with fail
  refine (toIntS_calls _ _ _ _ (h.later t10) hx1).mono ?_
  intro e w11 hr11
  obtain ⟨p11, c11, he, o11, b11⟩ := retI hr11
  subst he
  clear hr11
  have t11 := t10.step b11
  go_wp2_with fail
  refine (HR.out ▸ implTrueOf_calls _ _ _ _ o11.ints).mono ?_
  intro e w12 hr12
  obtain ⟨p12, c12, he, o12, b12⟩ := retI hr12
  subst he
  clear hr12
  have t12 := t11.step b12
  go_wp2_with fail
  refine (eqIntS_calls _ _ _ _ _ _ _ o12.ints (k2.kept (b11.step b12)).ints).mono ?_
  intro e w13 hr13
  obtain ⟨he, b13⟩ := hr13
  subst he
  have t13 := t12.step b13
  go_wp2_with fail
  refine (heldIntS_calls _ _ _ _ _ (m10.kept ((b11.step b12).step b13)).ints (by omega) (by omega)).mono ?_
  rintro e w' ⟨rfl, rfl⟩
  go_wp2
  go_ret
  exact ⟨rfl, t13⟩

set_option maxRecDepth 100000 in
theorem lifted (os : Os) (started : os.Started) (H : Type) (enc : TypeId × Value → H) :
    ReturnsInHanded {} Try.checked os 5 .any (Rows.fnExactTrueOfSpec.pre6 enc Try.prog Try.f5 Rows.fnExactTrueOfRow.domain false) (Rows.fnExactTrueOfSpec.post enc Try.prog Try.f5 false true false false) := by
  refine returnsInHanded_of_change (C := Try.checked) own started (by kernel_rfl) Try.func5
    (ChangeSpec.witness6 (enc := enc) (C := Try.checked) false ⟨#[], #[.slice none 0 0], []⟩ 8 (by kernel_rfl) (by kernel_rfl) (by kernel_rfl) (by kernel_rfl)) ?_
  intro W base args ds gs before hval0 hW hcnd _
  have hval : ∀ (j : Nat) t v, Try.f5.params[j]? = some t → args[j]? = some v → Value.okWide Try.prog W .any base t v := hval0
  have hW' := hW
  obtain ⟨p, q, hA0, hV, rfl, hfz, hnd⟩ := hW
  have hA : DataW.TrodAll enc Try.prog W 0 (fun _ => true) true Try.f5.params.toList args.toList ds p := hA0
  rw [Try.params5] at hA hval
  obtain ⟨v0, vs0, d0, ds0, p0, q0, hargs, rfl, rfl, h0, r0⟩ := trodAll_cons hA
  obtain ⟨rfl, rfl, rfl⟩ := trodAll_nil r0
  obtain rfl : args = #[v0] := by cases args; simp_all
  obtain ⟨rfl, rfl⟩ := trodVars_none hV
  have k0 := h0
  have lt0 : ∀ x ∈ p0, x.block < W.heap.size := by obtain ⟨m, hm⟩ := k0; exact DataW.trod_lt m _ _ _ hm
  obtain ⟨x0, w0⟩ := arg_slice Try.underlying24 opens_ints (hval 0 24 v0 rfl rfl) h0
  clear hA0 hval0
  refine (law w0).mono fun e W' ⟨he, bel⟩ => ?_
  subst he
  exact ⟨_, rfl, _, _, _, [], _, [], hW', trodAll_mk1 (shut_bool Try.underlying4 _), (trodAll_cons_mk (Below.trod laidOut (by kernel_rfl) (of_decide_eq_true (by kernel_rfl)) k0 bel lt0) trodAll_mk0), rfl, bel.frame _, fun h => by cases h⟩

theorem over : Rows.fnExactTrueOfRow.holds Try.pinned (OpenSpec.ofChange Rows.fnExactTrueOfSpec) :=
  OpenClaim.holds_of_wide 5 Try.f5 rfl rfl rfl rfl rfl rfl rfl ⟨rfl, rfl, rfl, rfl, rfl⟩ rfl rfl rfl rfl rfl (by kernel_rfl) Try.func5 (by kernel_rfl)
    (of_decide_eq_true (by kernel_rfl)) (by unfold Func.isWrapper; first | (rw [if_pos (by decide +kernel)]; kernel_rfl) | (rw [if_neg (by decide +kernel)]; exact ⟨rfl, rfl⟩))
    (fun os started H enc _ => lifted os started H enc)

theorem proved : Rows.FnExactTrueOfSaid := over
end Go.Proofs.Yteeoiplakfajkaa.fnExactTrueOf
