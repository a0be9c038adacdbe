/-
  laws.FnExactSetLess returns true, whatever its arguments; they read afterwards as before.
  Conditions: none (what every row of this form says by itself: the arguments can be read as data).
-/
import Derived.Test.YtffbccajllmobaaLawsInts
import Derived.Test.YtffbccajllmobaaSetsPure
import Derived.Test.YtffbccajllmobaaRows
import Derived.WalkKit
import Derived.ProofKit
import Derived.OpenShut
import Derived.ShutString
import Derived.ChangeOld
import Derived.Below
namespace Go.Proofs.Ytffbccajllmobaa.fnExactSetLess
open Go.ChangeShapes Go.WideShapes Go.ChangeAt Go.RowKit
open Go.ChangeMaps (open_string shut_string)
set_option linter.unusedVariables false

theorem own : ownKnob Try.prog.godebug = none := by kernel_rfl
theorem laidOut : laidOutB Try.prog = true := by kernel_rfl

set_option maxHeartbeats 2000000 in
theorem law (p q : Option Addr) (xs ys : List Int) (c d : Nat) (w : World) (h : Ints w p xs) (h' : Ints w q ys) :
    Calls Try.prog 7 #[.slice p xs.length c, .slice q ys.length d] w fun e w' => e = .returned (.bool true) ∧ Below w.heap.size w w' := by
  by_cases hx : 1048576 < xs.length
  · have hx' : (1048576 : Int) < (xs.length : Int) := by omega
    go_enter Try.func7, Try.ntmps7
    go_wp2
    go_ret
    exact ⟨rfl, Below.refl _ _⟩
  by_cases hy : 1048576 < ys.length
  · have hy' : (1048576 : Int) < (ys.length : Int) := by omega
    have hx' : (xs.length : Int) ≤ 1048576 := by omega
    go_enter Try.func7, Try.ntmps7
    go_wp2
    go_ret
    exact ⟨rfl, Below.refl _ _⟩
  have hx1 : xs.length ≤ 1048576 := by omega
  have hy1 : ys.length ≤ 1048576 := by omega
  have hx' : (xs.length : Int) ≤ 1048576 := by omega
  have hy' : (ys.length : Int) ≤ 1048576 := by omega
  have t0 : Below w.heap.size w w := Below.refl _ _
  clear hx hy
  have qx := eqB_self xs
  have qy := eqB_self ys
  have qr := eqB_self (pickTo (pickL xs ys) 12)
  have hr := pickTo_len (pickL xs ys) 12
  generalize hR : pickTo (pickL xs ys) 12 = R at *
  have HR := Lib.hid hR
  clear hR
  go_enter Try.func7, Try.ntmps7
  go_wp2_with fail
  refine (toIntS_calls _ _ _ _ (h.later t0) hx1).mono ?_
  intro e w1 hr1
  obtain ⟨p1, c1, he, o1, b1⟩ := retI hr1
  subst he
  clear hr1
  have t1 := t0.step b1
  go_wp2_with fail
  refine (toIntS_calls _ _ _ _ (h'.later t1) hy1).mono ?_
  intro e w2 hr2
  obtain ⟨p2, c2, he, o2, b2⟩ := retI hr2
  subst he
  clear hr2
  have t2 := t1.step b2
  go_wp2_with fail
  refine (HR.out ▸ specSetLess_calls _ _ _ _ _ _ _ (o1.kept b2).ints o2.ints).mono ?_
  intro e w3 hr3
  obtain ⟨p3, c3, he, o3, b3⟩ := retI hr3
  subst he
  clear hr3
  have t3 := t2.step b3
  go_wp2_with fail
  refine (toIntS_calls _ _ _ _ (h.later t3) hx1).mono ?_
  intro e w4 hr4
  obtain ⟨p4, c4, he, o4, b4⟩ := retI hr4
  subst he
  clear hr4
  have t4 := t3.step b4
  go_wp2_with fail
  refine (toIntS_calls _ _ _ _ (h'.later t4) hy1).mono ?_
  intro e w5 hr5
  obtain ⟨p5, c5, he, o5, b5⟩ := retI hr5
  subst he
  clear hr5
  have t5 := t4.step b5
  go_wp2_with fail
  refine (HR.out ▸ implSetLessR_calls _ _ _ _ _ _ _ (o4.kept b5).ints o5.ints).mono ?_
  intro e w6 hr6
  obtain ⟨p6, c6, he, o6, b6⟩ := retI hr6
  subst he
  clear hr6
  have t6 := t5.step b6
  have a34 := own_apart o3 o4 (Nat.le_refl _)
  have a35 := own_apart o3 o5 b4.size
  have a36 := own_apart o3 o6 (b4.step b5).size
  have a45 := own_apart o4 o5 (Nat.le_refl _)
  have a46 := own_apart o4 o6 b5.size
  have a56 := own_apart o5 o6 (Nat.le_refl _)
  go_wp2_with fail
  refine (eqIntS_calls _ _ _ _ _ _ _ o6.ints (o3.kept ((b4.step b5).step b6)).ints).mono ?_
  intro e w7 hr7
  obtain ⟨he, b7⟩ := hr7
  subst he
  have t7 := t6.step b7
  go_wp2_with fail
  refine (toIntS_calls _ _ _ _ (h.later t7) hx1).mono ?_
  intro e w8 hr8
  obtain ⟨p8, c8, he, o8, b8⟩ := retI hr8
  subst he
  clear hr8
  have t8 := t7.step b8
  go_wp2_with fail
  refine (eqIntS_calls _ _ _ _ _ _ _ (o4.kept (((b5.step b6).step b7).step b8)).ints o8.ints).mono ?_
  intro e w9 hr9
  obtain ⟨he, b9⟩ := hr9
  subst he
  have t9 := t8.step b9
  go_wp2_with fail
  refine (toIntS_calls _ _ _ _ (h'.later t9) hy1).mono ?_
  intro e w10 hr10
  obtain ⟨p10, c10, he, o10, b10⟩ := retI hr10
  subst he
  clear hr10
  have t10 := t9.step b10
  go_wp2_with fail
  refine (eqIntS_calls _ _ _ _ _ _ _ (o5.kept ((((b6.step b7).step b8).step b9).step b10)).ints o10.ints).mono ?_
  intro e w11 hr11
  obtain ⟨he, b11⟩ := hr11
  subst he
  have t11 := t10.step b11
  have k3 := o3.kept (((((((b4.step b5).step b6).step b7).step b8).step b9).step b10).step b11)
  have k4 := o4.kept ((((((b5.step b6).step b7).step b8).step b9).step b10).step b11)
  have k5 := o5.kept (((((b6.step b7).step b8).step b9).step b10).step b11)
  have k6 := o6.kept ((((b7.step b8).step b9).step b10).step b11)
  clear o1 o2 o3 o4 o5 o6 o8 o10
  go_wp2_with fail
  refine (markIntS_calls _ _ _ _ _ _ _ k4 (by omega) (by omega)).mono ?_
  intro e w12 hr12
  obtain ⟨he, m12, g12, l12⟩ := hr12
  subst he
  have t12 := t11.mark g12 (fun k hk => Nat.le_trans t3.size (l12 k hk))
  have k3 := k3.grown g12 a34.1
  have k5 := k5.grown g12 a45.2
  have k6 := k6.grown g12 a46.2
  go_wp2_with fail
  refine (markIntS_calls _ _ _ _ _ _ _ k5 (by omega) (by omega)).mono ?_
  intro e w13 hr13
  obtain ⟨he, m13, g13, l13⟩ := hr13
  subst he
  have t13 := t12.mark g13 (fun k hk => Nat.le_trans t4.size (l13 k hk))
  have k3 := k3.grown g13 a35.1
  have k6 := k6.grown g13 a56.2
  go_wp2_with fail
  refine (eqIntS_calls _ _ _ _ _ _ _ k6.ints k3.ints).mono ?_
  intro e w14 hr14
  obtain ⟨he, b14⟩ := hr14
  subst he
  have t14 := t13.step b14
  have k3 := k3.kept b14
  have k6 := k6.kept b14
  go_wp2_with fail
  refine (markIntS_calls _ _ _ _ _ _ _ k6 (by omega) (by omega)).mono ?_
  intro e w15 hr15
  obtain ⟨he, m15, g15, l15⟩ := hr15
  subst he
  have t15 := t14.mark g15 (fun k hk => Nat.le_trans t5.size (l15 k hk))
  have k3 := k3.grown g15 a36.1
  go_wp2_with fail
  refine (heldIntS_calls _ _ _ _ _ m15.ints (by omega) (by omega)).mono ?_
  rintro e w' ⟨rfl, rfl⟩
  go_wp2_with fail
  refine (toIntS_calls _ _ _ _ (h.later t15) hx1).mono ?_
  intro e w17 hr17
  obtain ⟨p17, c17, he, o17, b17⟩ := retI hr17
  subst he
  clear hr17
  have t17 := t15.step b17
  go_wp2_with fail
  refine (toIntS_calls _ _ _ _ (h'.later t17) hy1).mono ?_
  intro e w18 hr18
  obtain ⟨p18, c18, he, o18, b18⟩ := retI hr18
  subst he
  clear hr18
  have t18 := t17.step b18
  go_wp2_with fail
  refine (HR.out ▸ implSetLessR_calls _ _ _ _ _ _ _ (o17.kept b18).ints o18.ints).mono ?_
  intro e w19 hr19
  obtain ⟨p19, c19, he, o19, b19⟩ := retI hr19
  subst he
  clear hr19
  have t19 := t18.step b19
  go_wp2_with fail
  refine (eqIntS_calls _ _ _ _ _ _ _ o19.ints (k3.kept ((b17.step b18).step b19)).ints).mono ?_
  intro e w20 hr20
  obtain ⟨he, b20⟩ := hr20
  subst he
  have t20 := t19.step b20
  go_wp2_with fail
  refine (heldIntS_calls _ _ _ _ _ (m15.kept (((b17.step b18).step b19).step b20)).ints (by omega) (by omega)).mono ?_
  rintro e w' ⟨rfl, rfl⟩
  go_wp2
  go_ret
  exact ⟨rfl, t20⟩

theorem walk (a0 : Option Addr) (len0 cap0 : Nat) (z0 : List Int) (a1 : Option Addr) (len1 cap1 : Nat) (z1 : List Int) (w : World) (w0 : IsRow .i64 w a0 len0 cap0 z0) (w1 : IsRow .i64 w a1 len1 cap1 z1) :
    Calls Try.prog 7 #[.slice a0 len0 cap0, .slice a1 len1 cap1] w fun e w' => e = .returned (.bool true) ∧ Below w.heap.size w w' := by
  obtain ⟨xs, rfl, h⟩ := isRow_ints w0
  obtain ⟨ys, rfl, h'⟩ := isRow_ints w1
  exact law _ _ _ _ _ _ _ h h'

/-! ### THE ROW's STEP: WRITTEN OUT: LEAVE IT -/
set_option maxRecDepth 100000 in
theorem lifted (os : Os) (started : os.Started) (H : Type) (enc : TypeId × Value → H) :
    ReturnsInHanded {} Try.checked os 7 .any (Rows.fnExactSetLessSpec.pre6 enc Try.prog Try.f7 Rows.fnExactSetLessRow.domain false) (Rows.fnExactSetLessSpec.post enc Try.prog Try.f7 false true false false) := by
  refine returnsInHanded_of_change (C := Try.checked) own started (by kernel_rfl) Try.func7
    (ChangeSpec.witness6 (enc := enc) (C := Try.checked) false ⟨#[], #[.slice none 0 0, .slice none 0 0], []⟩ 8 (by kernel_rfl) (by kernel_rfl) (by kernel_rfl) (by kernel_rfl)) ?_
  intro W base args ds gs before hval0 hW hcnd _
  have hval : ∀ (j : Nat) t v, Try.f7.params[j]? = some t → args[j]? = some v → Value.okWide Try.prog W .any base t v := hval0
  have hW' := hW
  obtain ⟨p, q, hA0, hV, rfl, hfz, hnd⟩ := hW
  have hA : DataW.TrodAll enc Try.prog W 0 (fun _ => true) true Try.f7.params.toList args.toList ds p := hA0
  rw [Try.params7] at hA hval
  obtain ⟨v0, vs0, d0, ds0, p0, q0, hargs, rfl, rfl, h0, r0⟩ := trodAll_cons hA
  obtain ⟨v1, vs1, d1, ds1, p1, q1, rfl, rfl, rfl, h1, r1⟩ := trodAll_cons r0
  obtain ⟨rfl, rfl, rfl⟩ := trodAll_nil r1
  obtain rfl : args = #[v0, v1] := by cases args; simp_all
  obtain ⟨rfl, rfl⟩ := trodVars_none hV
  obtain ⟨a0, len0, cap0, rfl⟩ := okWide_slice Try.underlying24 (hval 0 24 v0 rfl rfl)
  have k0 := h0
  have lt0 : ∀ x ∈ p0, x.block < W.heap.size := by obtain ⟨m, hm⟩ := k0; exact DataW.trod_lt m _ _ _ hm
  obtain ⟨z0, w0⟩ : ∃ zs, IsRow .i64 W a0 len0 cap0 zs := by
    obtain ⟨fuel, hf⟩ := h0
    rcases open_ints Try.underlying24 Try.underlying3 (by kernel_rfl) hf with ⟨hcs, _⟩ | ⟨x, l, c, zs, hcs, _, hl, hm, hz, _, hcell, hwz⟩
    · simp [Value.cells] at hcs
      obtain ⟨rfl, rfl, rfl⟩ := hcs
      exact ⟨[], .inl ⟨rfl, rfl, rfl, rfl⟩⟩
    · simp [Value.cells] at hcs
      obtain ⟨rfl, rfl, rfl⟩ := hcs
      exact ⟨zs, .inr ⟨_, rfl, hl, hm, by simpa using hz, hcell, hwz⟩⟩
  obtain ⟨a1, len1, cap1, rfl⟩ := okWide_slice Try.underlying24 (hval 1 24 v1 rfl rfl)
  have k1 := h1
  have lt1 : ∀ x ∈ p1, x.block < W.heap.size := by obtain ⟨m, hm⟩ := k1; exact DataW.trod_lt m _ _ _ hm
  obtain ⟨z1, w1⟩ : ∃ zs, IsRow .i64 W a1 len1 cap1 zs := by
    obtain ⟨fuel, hf⟩ := h1
    rcases open_ints Try.underlying24 Try.underlying3 (by kernel_rfl) hf with ⟨hcs, _⟩ | ⟨x, l, c, zs, hcs, _, hl, hm, hz, _, hcell, hwz⟩
    · simp [Value.cells] at hcs
      obtain ⟨rfl, rfl, rfl⟩ := hcs
      exact ⟨[], .inl ⟨rfl, rfl, rfl, rfl⟩⟩
    · simp [Value.cells] at hcs
      obtain ⟨rfl, rfl, rfl⟩ := hcs
      exact ⟨zs, .inr ⟨_, rfl, hl, hm, by simpa using hz, hcell, hwz⟩⟩
  clear hA0 hval0
  refine (walk a0 len0 cap0 z0 a1 len1 cap1 z1 W w0 w1).mono fun e W' ⟨he, bel⟩ => ?_
  subst he
  exact ⟨_, rfl, _, _, _, [], _, [], hW', trodAll_mk1 (shut_bool Try.underlying4 _), (trodAll_cons_mk (Below.trod laidOut (by kernel_rfl) (of_decide_eq_true (by kernel_rfl)) k0 bel lt0) (trodAll_cons_mk (Below.trod laidOut (by kernel_rfl) (of_decide_eq_true (by kernel_rfl)) k1 bel lt1) trodAll_mk0)), rfl, bel.frame _, fun h => by cases h⟩

theorem over : Rows.fnExactSetLessRow.holds Try.pinned (OpenSpec.ofChange Rows.fnExactSetLessSpec) :=
  OpenClaim.holds_of_wide 7 Try.f7 rfl rfl rfl rfl rfl rfl rfl ⟨rfl, rfl, rfl, rfl, rfl⟩ rfl rfl rfl rfl rfl (by kernel_rfl) Try.func7 (by kernel_rfl)
    (of_decide_eq_true (by kernel_rfl)) (by unfold Func.isWrapper; first | (rw [if_pos (by decide +kernel)]; kernel_rfl) | (rw [if_neg (by decide +kernel)]; exact ⟨rfl, rfl⟩))
    (fun os started H enc _ => lifted os started H enc)

theorem proved : Rows.FnExactSetLessSaid := over
end Go.Proofs.Ytffbccajllmobaa.fnExactSetLess
