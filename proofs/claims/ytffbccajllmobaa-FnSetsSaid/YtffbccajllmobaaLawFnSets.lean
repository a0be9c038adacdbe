/-
  FnSets returns true for all byte strings: both, either, one without the other go together as sets do; a set is got from its number.
  Conditions: none (what every row of this form says by itself: the arguments can be read as data).
-/
import Derived.Test.YtffbccajllmobaaLawsInts
import Derived.Test.YtffbccajllmobaaSetsLaw
import Derived.Test.YtffbccajllmobaaDraw
import Derived.Test.YtffbccajllmobaaRows
import Derived.WalkKit
import Derived.ProofKit
import Derived.OpenShut
import Derived.ShutString
import Derived.ChangeOld
import Derived.Below
namespace Go.Proofs.Ytffbccajllmobaa.fnSets
open Go.ChangeShapes Go.WideShapes Go.ChangeAt Go.RowKit
open Go.ChangeMaps (open_string shut_string)
set_option linter.unusedVariables false

theorem own : ownKnob Try.prog.godebug = none := by kernel_rfl
theorem laidOut : laidOutB Try.prog = true := by kernel_rfl

set_option maxRecDepth 100000 in
set_option maxHeartbeats 4000000 in
theorem law (p q : Option Addr) (bs ms : List Int) (c d : Nat) (w : World) (h : Bytes w p bs) (h' : Bytes w q ms) :
    Calls Try.prog 3 #[.slice p bs.length c, .slice q ms.length d] w fun e w' => e = .returned (.bool true) ∧ Below w.heap.size w w' := by
  have hb1 : decide (1048576 < (bs.length : Int)) = false := decide_eq_false (by have := h.1; omega)
  have hb2 : decide (1048576 < (ms.length : Int)) = false := decide_eq_false (by have := h'.1; omega)
  have t0 : Below w.heap.size w w := Below.refl _ _
  go_enter Try.func3, Try.ntmps3
  go_wp2_with (first | (go_at_call 11; refine (big_calls _ _ _ _ _ (by first | exact hb1 | exact hb2)).mono ?_; rintro e w' ⟨rfl, rfl⟩) | (go_at_call 12; fail))
  refine (DrawSetJoin_calls _ _ _ _ h).mono ?_
  rintro e w1 ⟨p1, c1, p2, c2, xs, ys, he, hx, hy, k1, k2, b1⟩
  subst he
  have t1 := t0.step b1
  go_wp2_with fail
  refine (DrawSetMeet_calls _ _ _ _ (h'.later t1)).mono ?_
  rintro e w2 ⟨p3, c3, p4, c4, zs, z2, he, hz, hz2, k3, k4, b2⟩
  subst he
  have t2 := t1.step b2
  replace k1 := k1.kept b2
  replace k2 := k2.kept b2
  clear k4 h h'
  cases ex : setOkB xs 12
  · skip
    go_wp2_with fail
    refine (specSetOk_calls _ _ _ _ _ k1.ints).mono ?_
    intro e w3 hr3
    obtain ⟨he, b3⟩ := hr3
    subst he
    have t3 := t2.step b3
    go_wp2
    go_ret
    exact ⟨rfl, t3⟩
  go_wp2_with fail
  refine (specSetOk_calls _ _ _ _ _ k1.ints).mono ?_
  intro e w3 hr3
  obtain ⟨he, b3⟩ := hr3
  subst he
  have t3 := t2.step b3
  replace k1 := k1.kept b3
  replace k2 := k2.kept b3
  replace k3 := k3.kept b3
  cases ey : setOkB ys 12
  · skip
    go_wp2_with fail
    refine (specSetOk_calls _ _ _ _ _ k2.ints).mono ?_
    intro e w4 hr4
    obtain ⟨he, b4⟩ := hr4
    subst he
    have t4 := t3.step b4
    go_wp2
    go_ret
    exact ⟨rfl, t4⟩
  go_wp2_with fail
  refine (specSetOk_calls _ _ _ _ _ k2.ints).mono ?_
  intro e w4 hr4
  obtain ⟨he, b4⟩ := hr4
  subst he
  have t4 := t3.step b4
  replace k1 := k1.kept b4
  replace k2 := k2.kept b4
  replace k3 := k3.kept b4
  cases ez : setOkB zs 12
  · skip
    go_wp2_with fail
    refine (specSetOk_calls _ _ _ _ _ k3.ints).mono ?_
    intro e w5 hr5
    obtain ⟨he, b5⟩ := hr5
    subst he
    have t5 := t4.step b5
    go_wp2
    go_ret
    exact ⟨rfl, t5⟩
  go_wp2_with fail
  refine (specSetOk_calls _ _ _ _ _ k3.ints).mono ?_
  intro e w5 hr5
  obtain ⟨he, b5⟩ := hr5
  subst he
  have t5 := t4.step b5
  replace k1 := k1.kept b5
  replace k2 := k2.kept b5
  replace k3 := k3.kept b5
  have EX := Lib.hid ex
  have EY := Lib.hid ey
  clear ex ey
  obtain ⟨J, hJ⟩ : ∃ J, pickTo (pickJ xs ys) 12 = J := ⟨_, rfl⟩
  obtain ⟨M, hM⟩ : ∃ J, pickTo (pickM xs ys) 12 = J := ⟨_, rfl⟩
  obtain ⟨L, hL⟩ : ∃ J, pickTo (pickL xs ys) 12 = J := ⟨_, rfl⟩
  obtain ⟨K, hK⟩ : ∃ J, pickTo (pickJ ys zs) 12 = J := ⟨_, rfl⟩
  obtain ⟨A, hA⟩ : ∃ J, pickTo (pickL xs K) 12 = J := ⟨_, rfl⟩
  have lJ : J.length ≤ 12 := by rw [← hJ]; exact pickTo_len _ _
  have lM : M.length ≤ 12 := by rw [← hM]; exact pickTo_len _ _
  have lL : L.length ≤ 12 := by rw [← hL]; exact pickTo_len _ _
  have hlen : ((J.length : Int) + (M.length : Int) != (xs.length : Int) + (ys.length : Int)) = false := by
    have := law_len EX.out EY.out; rw [hJ, hM] at this
    rw [bne_eq_false_iff_eq]; omega
  have hnum : ((sumTo (hasB xs) 12 : Nat) : Int) + (sumTo (hasB ys) 12 : Int) = (sumTo (hasB J) 12 : Int) + (sumTo (hasB M) 12 : Int) := by
    have := law_num (xs := xs) (ys := ys); rw [hJ, hM] at this; omega
  have nX := sumTo_small (hasB xs) (Nat.le_refl 12)
  have nY := sumTo_small (hasB ys) (Nat.le_refl 12)
  have nJ := sumTo_small (hasB J) (Nat.le_refl 12)
  have nM := sumTo_small (hasB M) (Nat.le_refl 12)
  have hof := Lib.hid (law_of EX.out)
  obtain ⟨SX, hSX⟩ : ∃ S, sumTo (hasB xs) 12 = S := ⟨_, rfl⟩
  obtain ⟨SY, hSY⟩ : ∃ S, sumTo (hasB ys) 12 = S := ⟨_, rfl⟩
  obtain ⟨SJ, hSJ⟩ : ∃ S, sumTo (hasB J) 12 = S := ⟨_, rfl⟩
  obtain ⟨SM, hSM⟩ : ∃ S, sumTo (hasB M) 12 = S := ⟨_, rfl⟩
  rw [hSX, hSY, hSJ, hSM] at hnum
  rw [hSX] at nX hof
  rw [hSY] at nY
  rw [hSJ] at nJ
  rw [hSM] at nM
  have hnumB : ((SX : Int) + (SY : Int) == (SJ : Int) + (SM : Int)) = true := by rw [beq_iff_eq]; exact hnum
  have HJ := Lib.hid hJ
  have HM := Lib.hid hM
  have HL := Lib.hid hL
  have HK := Lib.hid hK
  have HA := Lib.hid hA
  have GX := Lib.hid hSX
  have GY := Lib.hid hSY
  have GJ := Lib.hid hSJ
  have GM := Lib.hid hSM
  have qx := eqB_self xs
  have qa := eqB_self A
  clear hJ hM hL hK hA hSX hSY hSJ hSM hnum
  cases hz0 : ((L.length : Int) == 0)
  all_goals
    go_wp2_with fail
    refine (implSetJoinN_calls _ _ _ _ _ _ _ HJ.out k1.ints k2.ints).mono ?_
    intro e w6 hr6
    obtain ⟨p6, c6, he, o6, b6⟩ := retI hr6
    subst he
    clear hr6
    have t6 := t5.step b6
    replace k1 := k1.kept b6
    replace k2 := k2.kept b6
    replace k3 := k3.kept b6
    go_wp2_with fail
    refine (implSetMeetN_calls _ _ _ _ _ _ _ HM.out k1.ints k2.ints).mono ?_
    intro e w7 hr7
    obtain ⟨p7, c7, he, o7, b7⟩ := retI hr7
    subst he
    clear hr7
    have t7 := t6.step b7
    replace k1 := k1.kept b7
    replace k2 := k2.kept b7
    replace k3 := k3.kept b7
    replace o6 := o6.kept b7
    go_wp2_with fail
    refine (implSetLessN_calls _ _ _ _ _ _ _ HL.out k1.ints k2.ints).mono ?_
    intro e w8 hr8
    obtain ⟨p8, c8, he, o8, b8⟩ := retI hr8
    subst he
    clear hr8
    have t8 := t7.step b8
    replace k1 := k1.kept b8
    replace k2 := k2.kept b8
    replace k3 := k3.kept b8
    replace o6 := o6.kept b8
    replace o7 := o7.kept b8
    go_wp2_with fail
    refine (implSetJoinN_calls (R := xs) _ _ _ _ _ _ _ (by rw [← HM.out, ← HL.out]; exact law_join EX.out) o7.ints o8.ints).mono ?_
    intro e w9 hr9
    obtain ⟨p9, c9, he, o9, b9⟩ := retI hr9
    subst he
    clear hr9
    have t9 := t8.step b9
    replace k1 := k1.kept b9
    replace k2 := k2.kept b9
    replace k3 := k3.kept b9
    replace o6 := o6.kept b9
    replace o7 := o7.kept b9
    replace o8 := o8.kept b9
    go_wp2_with fail
    refine (same_calls _ _ _ _ _ _ _ o9.ints k1.ints).mono ?_
    intro e w10 hr10
    obtain ⟨he, b10⟩ := hr10
    subst he
    have t10 := t9.step b10
    replace k1 := k1.kept b10
    replace k2 := k2.kept b10
    replace k3 := k3.kept b10
    replace o6 := o6.kept b10
    replace o7 := o7.kept b10
    replace o8 := o8.kept b10
    go_wp2_with fail
    refine (implSetMeetN_calls (R := xs) _ _ _ _ _ _ _ (by rw [← HJ.out]; exact law_meet EX.out) o6.ints k1.ints).mono ?_
    intro e w11 hr11
    obtain ⟨p11, c11, he, o11, b11⟩ := retI hr11
    subst he
    clear hr11
    have t11 := t10.step b11
    replace k1 := k1.kept b11
    replace k2 := k2.kept b11
    replace k3 := k3.kept b11
    replace o6 := o6.kept b11
    replace o7 := o7.kept b11
    replace o8 := o8.kept b11
    go_wp2_with fail
    refine (same_calls _ _ _ _ _ _ _ o11.ints k1.ints).mono ?_
    intro e w12 hr12
    obtain ⟨he, b12⟩ := hr12
    subst he
    have t12 := t11.step b12
    replace k1 := k1.kept b12
    replace k2 := k2.kept b12
    replace k3 := k3.kept b12
    replace o6 := o6.kept b12
    replace o7 := o7.kept b12
    replace o8 := o8.kept b12
    go_wp2_with fail
    refine (implSetMeetN_calls (R := []) _ _ _ _ _ _ _ (by rw [← HL.out]; exact law_none) o8.ints k2.ints).mono ?_
    intro e w13 hr13
    obtain ⟨p13, c13, he, o13, b13⟩ := retI hr13
    subst he
    clear hr13
    have t13 := t12.step b13
    replace k1 := k1.kept b13
    replace k2 := k2.kept b13
    replace k3 := k3.kept b13
    replace o6 := o6.kept b13
    replace o7 := o7.kept b13
    replace o8 := o8.kept b13
    go_wp2_with fail
    refine (implSetJoinN_calls _ _ _ _ _ _ _ HK.out k2.ints k3.ints).mono ?_
    intro e w14 hr14
    obtain ⟨p14, c14, he, o14, b14⟩ := retI hr14
    subst he
    clear hr14
    have t14 := t13.step b14
    replace k1 := k1.kept b14
    replace k2 := k2.kept b14
    replace k3 := k3.kept b14
    replace o6 := o6.kept b14
    replace o7 := o7.kept b14
    replace o8 := o8.kept b14
    go_wp2_with fail
    refine (implSetLessN_calls _ _ _ _ _ _ _ HA.out k1.ints o14.ints).mono ?_
    intro e w15 hr15
    obtain ⟨p15, c15, he, o15, b15⟩ := retI hr15
    subst he
    clear hr15
    have t15 := t14.step b15
    replace k1 := k1.kept b15
    replace k2 := k2.kept b15
    replace k3 := k3.kept b15
    replace o6 := o6.kept b15
    replace o7 := o7.kept b15
    replace o8 := o8.kept b15
    go_wp2_with fail
    refine (implSetLessN_calls _ _ _ _ _ _ _ HL.out k1.ints k2.ints).mono ?_
    intro e w16 hr16
    obtain ⟨p16, c16, he, o16, b16⟩ := retI hr16
    subst he
    clear hr16
    have t16 := t15.step b16
    replace k1 := k1.kept b16
    replace k2 := k2.kept b16
    replace k3 := k3.kept b16
    replace o6 := o6.kept b16
    replace o7 := o7.kept b16
    replace o8 := o8.kept b16
    replace o15 := o15.kept b16
    go_wp2_with fail
    refine (implSetLessN_calls (R := A) _ _ _ _ _ _ _ (by rw [← HL.out, ← HA.out, ← HK.out]; exact law_less.symm) o16.ints k3.ints).mono ?_
    intro e w17 hr17
    obtain ⟨p17, c17, he, o17, b17⟩ := retI hr17
    subst he
    clear hr17
    have t17 := t16.step b17
    replace k1 := k1.kept b17
    replace k2 := k2.kept b17
    replace o6 := o6.kept b17
    replace o7 := o7.kept b17
    replace o8 := o8.kept b17
    replace o15 := o15.kept b17
    go_wp2_with fail
    refine (same_calls _ _ _ _ _ _ _ o15.ints o17.ints).mono ?_
    intro e w18 hr18
    obtain ⟨he, b18⟩ := hr18
    subst he
    have t18 := t17.step b18
    replace k1 := k1.kept b18
    replace k2 := k2.kept b18
    replace o6 := o6.kept b18
    replace o7 := o7.kept b18
    replace o8 := o8.kept b18
    go_wp2_with fail
    refine (implSetInN_calls _ _ _ _ _ _ _ _ HL.out k1.ints k2.ints).mono ?_
    rintro e w' ⟨rfl, rfl⟩
    go_wp2_with fail
    refine (GX.out ▸ implSetNumR_calls _ _ _ _ k1.ints).mono ?_
    rintro e w' ⟨rfl, rfl⟩
    go_wp2_with fail
    refine (implSetOfN_calls _ _ hof.out).mono ?_
    intro e w19 hr19
    obtain ⟨p19, c19, he, o19, b19⟩ := retI hr19
    subst he
    clear hr19
    have t19 := t18.step b19
    replace k1 := k1.kept b19
    replace k2 := k2.kept b19
    replace o6 := o6.kept b19
    replace o7 := o7.kept b19
    go_wp2_with fail
    refine (same_calls _ _ _ _ _ _ _ o19.ints k1.ints).mono ?_
    intro e w20 hr20
    obtain ⟨he, b20⟩ := hr20
    subst he
    have t20 := t19.step b20
    replace k1 := k1.kept b20
    replace k2 := k2.kept b20
    replace o6 := o6.kept b20
    replace o7 := o7.kept b20
    go_wp2_with fail
    refine (GX.out ▸ implSetNumR_calls _ _ _ _ k1.ints).mono ?_
    rintro e w' ⟨rfl, rfl⟩
    go_wp2_with fail
    refine (GY.out ▸ implSetNumR_calls _ _ _ _ k2.ints).mono ?_
    rintro e w' ⟨rfl, rfl⟩
    go_wp2_with fail
    refine (GJ.out ▸ implSetNumR_calls _ _ _ _ o6.ints).mono ?_
    rintro e w' ⟨rfl, rfl⟩
    go_wp2_with fail
    refine (GM.out ▸ implSetNumR_calls _ _ _ _ o7.ints).mono ?_
    rintro e w' ⟨rfl, rfl⟩
    go_wp2
    go_ret
    exact ⟨rfl, t20⟩

theorem walk (a0 : Option Addr) (len0 cap0 : Nat) (z0 : List Int) (a1 : Option Addr) (len1 cap1 : Nat) (z1 : List Int) (w : World) (w0 : IsRow .u8 w a0 len0 cap0 z0) (w1 : IsRow .u8 w a1 len1 cap1 z1) :
    Calls Try.prog 3 #[.slice a0 len0 cap0, .slice a1 len1 cap1] w fun e w' => e = .returned (.bool true) ∧ Below w.heap.size w w' := by
  by_cases s0 : 1048576 < len0
  · have hb1 : decide (1048576 < (len0 : Int)) = true := decide_eq_true (by omega)
    go_enter Try.func3, Try.ntmps3
    go_wp2_with (go_at_call 11; refine (big_calls _ _ _ _ _ hb1).mono ?_; rintro e w' ⟨rfl, rfl⟩)
    go_ret
    exact ⟨rfl, Below.refl _ _⟩
  by_cases s1 : 1048576 < len1
  · have hb1 : decide (1048576 < (len0 : Int)) = false := decide_eq_false (by omega)
    have hb2 : decide (1048576 < (len1 : Int)) = true := decide_eq_true (by omega)
    go_enter Try.func3, Try.ntmps3
    go_wp2_with (go_at_call 11; refine (big_calls _ _ _ _ _ (by first | exact hb1 | exact hb2)).mono ?_; rintro e w' ⟨rfl, rfl⟩)
    go_ret
    exact ⟨rfl, Below.refl _ _⟩
  obtain ⟨bs, rfl, h⟩ := isRow_bytes w0 (by omega)
  obtain ⟨ms, rfl, h'⟩ := isRow_bytes w1 (by omega)
  exact law _ _ _ _ _ _ _ h h'

/-! ### THE ROW's STEP: WRITTEN OUT: LEAVE IT -/
set_option maxRecDepth 100000 in
theorem lifted (os : Os) (started : os.Started) (H : Type) (enc : TypeId × Value → H) :
    ReturnsInHanded {} Try.checked os 3 .any (Rows.fnSetsSpec.pre6 enc Try.prog Try.f3 Rows.fnSetsRow.domain false) (Rows.fnSetsSpec.post enc Try.prog Try.f3 false true false false) := by
  refine returnsInHanded_of_change (C := Try.checked) own started (by kernel_rfl) Try.func3
    (ChangeSpec.witness6 (enc := enc) (C := Try.checked) false ⟨#[], #[.slice none 0 0, .slice none 0 0], []⟩ 8 (by kernel_rfl) (by kernel_rfl) (by kernel_rfl) (by kernel_rfl)) ?_
  intro W base args ds gs before hval0 hW hcnd _
  have hval : ∀ (j : Nat) t v, Try.f3.params[j]? = some t → args[j]? = some v → Value.okWide Try.prog W .any base t v := hval0
  have hW' := hW
  obtain ⟨p, q, hA0, hV, rfl, hfz, hnd⟩ := hW
  have hA : DataW.TrodAll enc Try.prog W 0 (fun _ => true) true Try.f3.params.toList args.toList ds p := hA0
  rw [Try.params3] at hA hval
  obtain ⟨v0, vs0, d0, ds0, p0, q0, hargs, rfl, rfl, h0, r0⟩ := trodAll_cons hA
  obtain ⟨v1, vs1, d1, ds1, p1, q1, rfl, rfl, rfl, h1, r1⟩ := trodAll_cons r0
  obtain ⟨rfl, rfl, rfl⟩ := trodAll_nil r1
  obtain rfl : args = #[v0, v1] := by cases args; simp_all
  obtain ⟨rfl, rfl⟩ := trodVars_none hV
  obtain ⟨a0, len0, cap0, rfl⟩ := okWide_slice Try.underlying22 (hval 0 22 v0 rfl rfl)
  have k0 := h0
  have lt0 : ∀ x ∈ p0, x.block < W.heap.size := by obtain ⟨m, hm⟩ := k0; exact DataW.trod_lt m _ _ _ hm
  obtain ⟨z0, w0⟩ : ∃ zs, IsRow .u8 W a0 len0 cap0 zs := by
    obtain ⟨fuel, hf⟩ := h0
    rcases open_ints Try.underlying22 Try.underlying5 (by kernel_rfl) hf with ⟨hcs, _⟩ | ⟨x, l, c, zs, hcs, _, hl, hm, hz, _, hcell, hwz⟩
    · simp [Value.cells] at hcs
      obtain ⟨rfl, rfl, rfl⟩ := hcs
      exact ⟨[], .inl ⟨rfl, rfl, rfl, rfl⟩⟩
    · simp [Value.cells] at hcs
      obtain ⟨rfl, rfl, rfl⟩ := hcs
      exact ⟨zs, .inr ⟨_, rfl, hl, hm, by simpa using hz, hcell, hwz⟩⟩
  obtain ⟨a1, len1, cap1, rfl⟩ := okWide_slice Try.underlying22 (hval 1 22 v1 rfl rfl)
  have k1 := h1
  have lt1 : ∀ x ∈ p1, x.block < W.heap.size := by obtain ⟨m, hm⟩ := k1; exact DataW.trod_lt m _ _ _ hm
  obtain ⟨z1, w1⟩ : ∃ zs, IsRow .u8 W a1 len1 cap1 zs := by
    obtain ⟨fuel, hf⟩ := h1
    rcases open_ints Try.underlying22 Try.underlying5 (by kernel_rfl) hf with ⟨hcs, _⟩ | ⟨x, l, c, zs, hcs, _, hl, hm, hz, _, hcell, hwz⟩
    · simp [Value.cells] at hcs
      obtain ⟨rfl, rfl, rfl⟩ := hcs
      exact ⟨[], .inl ⟨rfl, rfl, rfl, rfl⟩⟩
    · simp [Value.cells] at hcs
      obtain ⟨rfl, rfl, rfl⟩ := hcs
      exact ⟨zs, .inr ⟨_, rfl, hl, hm, by simpa using hz, hcell, hwz⟩⟩
  clear hA0 hval0
  refine (walk a0 len0 cap0 z0 a1 len1 cap1 z1 W w0 w1).mono fun e W' ⟨he, bel⟩ => ?_
  subst he
  exact ⟨_, rfl, _, _, _, [], _, [], hW', trodAll_mk1 (shut_bool Try.underlying4 _), (trodAll_cons_mk (Below.trod laidOut (by kernel_rfl) (of_decide_eq_true (by kernel_rfl)) k0 bel lt0) (trodAll_cons_mk (Below.trod laidOut (by kernel_rfl) (of_decide_eq_true (by kernel_rfl)) k1 bel lt1) trodAll_mk0)), rfl, bel.frame _, fun h => by cases h⟩

theorem over : Rows.fnSetsRow.holds Try.pinned (OpenSpec.ofChange Rows.fnSetsSpec) :=
  OpenClaim.holds_of_wide 3 Try.f3 rfl rfl rfl rfl rfl rfl rfl ⟨rfl, rfl, rfl, rfl, rfl⟩ rfl rfl rfl rfl rfl (by kernel_rfl) Try.func3 (by kernel_rfl)
    (of_decide_eq_true (by kernel_rfl)) (by unfold Func.isWrapper; first | (rw [if_pos (by decide +kernel)]; kernel_rfl) | (rw [if_neg (by decide +kernel)]; exact ⟨rfl, rfl⟩))
    (fun os started H enc _ => lifted os started H enc)

theorem proved : Rows.FnSetsSaid := over
end Go.Proofs.Ytffbccajllmobaa.fnSets
