/-
  laws.FnExactTidyRule returns true, whatever its arguments; they read afterwards as before.
  Conditions: none (what every row of this form says by itself: the arguments can be read as data).
-/
import Derived.Test.YtgckeaijbmcdcaaTidyRS
import Derived.Test.YtgckeaijbmcdcaaTidyRI
import Derived.Test.YtgckeaijbmcdcaaTidyLaw
import Derived.Deep.RegionHeld3
import Derived.Test.YtgckeaijbmcdcaaOpen
import Derived.Test.YtgckeaijbmcdcaaRows
import Derived.WalkKit
import Derived.ProofKit
import Derived.OpenShut
import Derived.ShutString
import Derived.ChangeOld
import Derived.Below
namespace Go.Proofs.Ytgckeaijbmcdcaa.fnExactTidyRule
open Go.ChangeShapes Go.WideShapes Go.ChangeAt Go.RowKit
open Go.ChangeMaps (open_string shut_string)
set_option linter.unusedVariables false

theorem own : ownKnob Try.prog.godebug = none := by kernel_rfl
theorem laidOut : laidOutB Try.prog = true := by kernel_rfl

set_option maxRecDepth 100000 in
set_option maxHeartbeats 8000000 in
theorem law {cs : List Value} {r : RuleD} {w : World} (h : Rd.R w cs r) :
    Calls Try.prog 4 #[.agg cs.toArray] w fun e w' => e = .returned (.bool true) ∧ Below w.heap.size w w' := by
  obtain ⟨e0, e1, e2, e3, e4, rfl⟩ := list5 (Rd.len h)
  have t0 : Below w.heap.size w (w.alloc (.cells #[e0, e1, e2, e3, e4] 44)) := (Below.refl _ _).alloc (by simp) _
  have CXA := Cells.new w [e0, e1, e2, e3, e4] 44
  go_enter Try.func4, Try.ntmps4
  go_wp2_with fail
  refine (szRule_calls 1048576 (Rd.mono t0 h) (by omega) (by omega)).mono ?_
  rintro e w1 ⟨⟨n1, rfl, _, m1, q1⟩, b1⟩
  have t1 := t0.step b1
  by_cases n01 : 0 ≤ n1
  case neg =>
    have hng : n1 < 0 := by omega
    clear n01 q1
    go_wp2
    go_ret
    exact ⟨rfl, t1⟩
  have s1 := Lib.hid (q1 n01)
  clear q1
  replace CXA := CXA.later b1
  obtain ⟨c0Aat1, c1Aat1, c2Aat1, c3Aat1, c4Aat1⟩ := cells5 CXA
  have hlAat1 := CXA.lt
  clear c0Aat1 c1Aat1 c2Aat1 c3Aat1 c4Aat1
  obtain ⟨⟨s1a, _⟩, ⟨s1b, _⟩⟩ := s1.out
  have hrl := tidyRR_len r
  have hc1 := cntRuleV_eq r
  have hc2 := cntRuleV_eq (tidyRR r)
  have zA := CXA.lt
  clear b1 t0
  obtain ⟨s0A, s1A, s2A, s3A, s4A⟩ := cells5 CXA
  go_wp2_with fail
  clear s0A s1A s2A s3A s4A
  refine (toRule_calls (Rd.mono t1 h) s1.out).mono ?_
  rintro e w2 ⟨cs2, rfl, o2, b2⟩
  have t2 := t1.step b2
  replace CXA := CXA.later b2
  go_wp2_with fail
  refine (specTidyRule_calls o2.rd).mono ?_
  rintro e w3 ⟨cs3, rfl, o3, b3⟩
  have t3 := t2.step b3
  replace CXA := CXA.later b3
  have o3 := o3.shut
  have z2 := b2.size
  have z3 := b3.size
  clear o2
  have l3 := Rd.one o3.rd
  obtain ⟨x03, x13, x23, x33, x43, rfl⟩ := list5 (Rd.len o3.rd)
  have st03 := sto Try.prog (l3 x03 (by simp))
  have st13 := sto Try.prog (l3 x13 (by simp))
  have st23 := sto Try.prog (l3 x23 (by simp))
  have st33 := sto Try.prog (l3 x33 (by simp))
  have st43 := sto Try.prog (l3 x43 (by simp))
  have o3 := o3.alloc (.cells #[x03, x13, x23, x33, x43] 48)
  have CX3 := Cells.new w3 [x03, x13, x23, x33, x43] 48
  replace CXA := CXA.alloc (.cells #[x03, x13, x23, x33, x43] 48)
  have t3 := t3.alloc t3.size (.cells #[x03, x13, x23, x33, x43] 48)
  clear l3
  obtain ⟨s0A, s1A, s2A, s3A, s4A⟩ := cells5 CXA
  go_wp2_with fail
  clear s0A s1A s2A s3A s4A
  refine (toRule_calls (Rd.mono t3 h) s1.out).mono ?_
  rintro e w4 ⟨cs4, rfl, o4, b4⟩
  have t4 := t3.step b4
  replace CXA := CXA.later b4
  replace CX3 := CX3.later b4
  have o4 := o4.shut
  have z4 := b4.size
  rw [World.size_alloc] at z4 o4
  clear st03 st13 st23 st33 st43
  replace o3 := o3.later b4
  have l4 := Rd.one o4.rd
  obtain ⟨x04, x14, x24, x34, x44, rfl⟩ := list5 (Rd.len o4.rd)
  have st04 := sto Try.prog (l4 x04 (by simp))
  have st14 := sto Try.prog (l4 x14 (by simp))
  have st24 := sto Try.prog (l4 x24 (by simp))
  have st34 := sto Try.prog (l4 x34 (by simp))
  have st44 := sto Try.prog (l4 x44 (by simp))
  have o4 := o4.alloc (.cells #[x04, x14, x24, x34, x44] 48)
  have CX4 := Cells.new w4 [x04, x14, x24, x34, x44] 48
  replace CXA := CXA.alloc (.cells #[x04, x14, x24, x34, x44] 48)
  replace CX3 := CX3.alloc (.cells #[x04, x14, x24, x34, x44] 48)
  replace o3 := o3.alloc (.cells #[x04, x14, x24, x34, x44] 48)
  have t4 := t4.alloc t4.size (.cells #[x04, x14, x24, x34, x44] 48)
  clear l4
  obtain ⟨s04, s14, s24, s34, s44⟩ := cells5 CX4
  go_wp2_with fail
  clear s04 s14 s24 s34 s44
  refine (implTidyRule_calls o4.rd).mono ?_
  rintro e w5 ⟨cs5, rfl, o5, b5⟩
  have t5 := t4.step b5
  replace CXA := CXA.later b5
  replace CX3 := CX3.later b5
  replace CX4 := CX4.later b5
  have o5 := o5.shut
  have z5 := b5.size
  rw [World.size_alloc] at z5 o5
  clear st04 st14 st24 st34 st44
  replace o3 := o3.later b5
  replace o4 := o4.later b5
  have l5 := Rd.one o5.rd
  obtain ⟨x05, x15, x25, x35, x45, rfl⟩ := list5 (Rd.len o5.rd)
  have st05 := sto Try.prog (l5 x05 (by simp))
  have st15 := sto Try.prog (l5 x15 (by simp))
  have st25 := sto Try.prog (l5 x25 (by simp))
  have st35 := sto Try.prog (l5 x35 (by simp))
  have st45 := sto Try.prog (l5 x45 (by simp))
  have o5 := o5.alloc (.cells #[x05, x15, x25, x35, x45] 48)
  have CX5 := Cells.new w5 [x05, x15, x25, x35, x45] 48
  replace CXA := CXA.alloc (.cells #[x05, x15, x25, x35, x45] 48)
  replace CX3 := CX3.alloc (.cells #[x05, x15, x25, x35, x45] 48)
  replace CX4 := CX4.alloc (.cells #[x05, x15, x25, x35, x45] 48)
  replace o3 := o3.alloc (.cells #[x05, x15, x25, x35, x45] 48)
  replace o4 := o4.alloc (.cells #[x05, x15, x25, x35, x45] 48)
  have t5 := t5.alloc t5.size (.cells #[x05, x15, x25, x35, x45] 48)
  clear l5
  obtain ⟨s05, s15, s25, s35, s45⟩ := cells5 CX5
  obtain ⟨s03, s13, s23, s33, s43⟩ := cells5 CX3
  go_wp2_with fail
  clear s05 s15 s25 s35 s45
  clear s03 s13 s23 s33 s43
  refine (eqRule_calls o5.rd o3.rd).mono ?_
  rintro e w6 ⟨rfl, b6⟩
  have t6 := t5.step b6
  replace CXA := CXA.later b6
  replace CX3 := CX3.later b6
  replace CX4 := CX4.later b6
  replace CX5 := CX5.later b6
  have z6 := b6.size
  rw [World.size_alloc] at z6
  clear st05 st15 st25 st35 st45
  replace o3 := o3.later b6
  replace o4 := o4.later b6
  replace o5 := o5.later b6
  clear b2 b3 b4 b5 b6
  go_wp2_with fail
  go_region_held3 (fun w' => (w'.cell? ⟨w4.heap.size, 0, none⟩ = some x04 ∧ w'.cell? ⟨w4.heap.size, 1, none⟩ = some x14 ∧ w'.cell? ⟨w4.heap.size, 2, none⟩ = some x24 ∧ w'.cell? ⟨w4.heap.size, 3, none⟩ = some x34 ∧ w'.cell? ⟨w4.heap.size, 4, none⟩ = some x44) ∧ (w'.cell? ⟨w.heap.size, 0, none⟩ = some e0 ∧ w'.cell? ⟨w.heap.size, 1, none⟩ = some e1 ∧ w'.cell? ⟨w.heap.size, 2, none⟩ = some e2 ∧ w'.cell? ⟨w.heap.size, 3, none⟩ = some e3 ∧ w'.cell? ⟨w.heap.size, 4, none⟩ = some e4))
    (first | exact ⟨cells5 CX4, cells5 CXA⟩ | exact ⟨cells5 (CX4.drew.later b7), cells5 (CXA.drew.later b7)⟩ | exact ⟨cells5 ((CX4.drew.later b7).later b8), cells5 ((CXA.drew.later b7).later b8)⟩)
    (first | (go_at_call 14; refine (toRule_calls (Rd.mono t6.drew h) s1.out).mono ?_; rintro e w7 ⟨cs7, rfl, o7, b7⟩) | (go_at_call 16; refine (eqRule_calls (o4.drew.later b7).rd o7.rd).mono ?_; rintro e w8 ⟨rfl, b8⟩))
  have t8 := (t6.drew.step b7).step b8
  have CXA := ((CXA.drew.later b7).later b8)
  have CX3 := ((CX3.drew.later b7).later b8)
  have CX4 := ((CX4.drew.later b7).later b8)
  have CX5 := ((CX5.drew.later b7).later b8)
  have o3 := ((o3.drew.later b7).later b8)
  have o4 := ((o4.drew.later b7).later b8)
  have o5 := ((o5.drew.later b7).later b8)
  have z7 : w6.heap.size ≤ w7.heap.size := b7.size
  have z8 := b8.size
  clear b7 b8
  obtain ⟨s04, s14, s24, s34, s44⟩ := cells5 CX4
  go_wp2_with fail
  clear s04 s14 s24 s34 s44
  refine (markRule_calls 1 o4 (by omega) (by omega) (by omega)).mono ?_
  rintro e w9 ⟨rfl, m4, g9⟩
  have t9 : Below w.heap.size w w9 := g9.below t8 (by omega)
  have y9 := g9.size
  have o3 := o3.wr g9 (.inl (by omega))
  have o5 := o5.wr g9 (.inr (by omega))
  have CXA := CXA.wr g9 (.inl (by omega))
  have CX3 := CX3.wr g9 (.inl (by omega))
  have CX5 := CX5.wr g9 (.inr (by omega))
  clear g9 m4 CX4
  have hk9 : (0 : Int) ≤ 1 + (cntRuleV r : Nat) := by omega
  have hk9' : 1 + (cntRuleV r : Nat) ≤ (1152921504606846976 : Int) := by omega
  have hkA : (0 : Int) ≤ 1 + (cntRuleV (tidyRR r) : Nat) := by omega
  have hkA' : 1 + (cntRuleV (tidyRR r) : Nat) ≤ (1152921504606846976 : Int) := by omega
  obtain ⟨s05, s15, s25, s35, s45⟩ := cells5 CX5
  obtain ⟨s03, s13, s23, s33, s43⟩ := cells5 CX3
  go_wp2_with fail
  clear s05 s15 s25 s35 s45
  clear s03 s13 s23 s33 s43
  refine (eqRule_calls o5.rd o3.rd).mono ?_
  rintro e w10 ⟨rfl, b10⟩
  have t10 := t9.step b10
  replace CXA := CXA.later b10
  replace CX3 := CX3.later b10
  replace CX5 := CX5.later b10
  replace o3 := o3.later b10
  replace o5 := o5.later b10
  have y10 := b10.size
  obtain ⟨s05, s15, s25, s35, s45⟩ := cells5 CX5
  go_wp2_with fail
  clear s05 s15 s25 s35 s45
  refine (markRule_calls 1 o5 (by omega) (by omega) (by omega)).mono ?_
  rintro e w11 ⟨rfl, m5, g11⟩
  have t11 : Below w.heap.size w w11 := g11.below t10 (by omega)
  have o3 := o3.wr g11 (.inl (by omega))
  have CXA := CXA.wr g11 (.inl (by omega))
  have CX3 := CX3.wr g11 (.inl (by omega))
  have CX5 := CX5.wr g11 (.inr (by omega))
  clear g11
  obtain ⟨s05, s15, s25, s35, s45⟩ := cells5 CX5
  go_wp2_with fail
  clear s05 s15 s25 s35 s45
  refine (heldRule_calls 1 m5.rd (by omega) (by omega)).mono ?_
  rintro e w12 ⟨rfl, b12⟩
  have t12 := t11.step b12
  replace CXA := CXA.later b12
  replace CX3 := CX3.later b12
  replace CX5 := CX5.later b12
  replace o3 := o3.later b12
  have m5 := m5.later b12
  obtain ⟨s0A, s1A, s2A, s3A, s4A⟩ := cells5 CXA
  go_wp2_with fail
  clear s0A s1A s2A s3A s4A
  refine (toRule_calls (Rd.mono t12 h) s1.out).mono ?_
  rintro e w13 ⟨cs13, rfl, o13, b13⟩
  have t13 := t12.step b13
  replace CX3 := CX3.later b13
  replace CX5 := CX5.later b13
  replace o3 := o3.later b13
  have m5 := m5.later b13
  go_wp2_with fail
  refine (implTidyRule_calls o13.rd).mono ?_
  rintro e w14 ⟨cs14, rfl, o14, b14⟩
  have t14 := t13.step b14
  replace CX3 := CX3.later b14
  replace CX5 := CX5.later b14
  replace o3 := o3.later b14
  have m5 := m5.later b14
  have o14 := o14.shut
  have l14 := Rd.one o14.rd
  obtain ⟨x014, x114, x214, x314, x414, rfl⟩ := list5 (Rd.len o14.rd)
  have st014 := sto Try.prog (l14 x014 (by simp))
  have st114 := sto Try.prog (l14 x114 (by simp))
  have st214 := sto Try.prog (l14 x214 (by simp))
  have st314 := sto Try.prog (l14 x314 (by simp))
  have st414 := sto Try.prog (l14 x414 (by simp))
  have o14 := o14.alloc (.cells #[x014, x114, x214, x314, x414] 48)
  have CX14 := Cells.new w14 [x014, x114, x214, x314, x414] 48
  replace CX3 := CX3.alloc (.cells #[x014, x114, x214, x314, x414] 48)
  replace CX5 := CX5.alloc (.cells #[x014, x114, x214, x314, x414] 48)
  replace o3 := o3.alloc (.cells #[x014, x114, x214, x314, x414] 48)
  have t14 := t14.alloc t14.size (.cells #[x014, x114, x214, x314, x414] 48)
  clear l14
  have m5 := m5.alloc (.cells #[x014, x114, x214, x314, x414] 48)
  obtain ⟨s014, s114, s214, s314, s414⟩ := cells5 CX14
  obtain ⟨s03, s13, s23, s33, s43⟩ := cells5 CX3
  go_wp2_with fail
  clear s014 s114 s214 s314 s414
  clear s03 s13 s23 s33 s43
  refine (eqRule_calls o14.rd o3.rd).mono ?_
  rintro e w15 ⟨rfl, b15⟩
  have t15 := t14.step b15
  replace CX5 := CX5.later b15
  clear st014 st114 st214 st314 st414
  obtain ⟨s05, s15, s25, s35, s45⟩ := cells5 CX5
  go_wp2_with fail
  clear s05 s15 s25 s35 s45
  refine (heldRule_calls 1 (Rd.mono b15 m5.rd) (by omega) (by omega)).mono ?_
  rintro e w16 ⟨rfl, b16⟩
  have t16 := t15.step b16
  go_wp2
  go_ret
  exact ⟨rfl, t16⟩

set_option maxRecDepth 100000 in
theorem lifted (os : Os) (started : os.Started) (H : Type) (enc : TypeId × Value → H) :
    ReturnsInHanded {} Try.checked os 4 .any (Rows.fnExactTidyRuleSpec.pre6 enc Try.prog Try.f4 Rows.fnExactTidyRuleRow.domain false) (Rows.fnExactTidyRuleSpec.post enc Try.prog Try.f4 false true false false) := by
  refine returnsInHanded_of_change (C := Try.checked) own started (by kernel_rfl) Try.func4
    (ChangeSpec.witness6 (enc := enc) (C := Try.checked) false ⟨#[], #[.agg #[.bool false, .slice none 0 0, .bool false, .int .i64 0, .slice none 0 0]], []⟩ 8 (by kernel_rfl) (by kernel_rfl) (by kernel_rfl) (by kernel_rfl)) ?_
  intro W base args ds gs before hval0 hW hcnd _
  have hval : ∀ (j : Nat) t v, Try.f4.params[j]? = some t → args[j]? = some v → Value.okWide Try.prog W .any base t v := hval0
  have hW' := hW
  obtain ⟨p, q, hA0, hV, rfl, hfz, hnd⟩ := hW
  have hA : DataW.TrodAll enc Try.prog W 0 (fun _ => true) true Try.f4.params.toList args.toList ds p := hA0
  rw [Try.params4] at hA hval
  obtain ⟨v0, vs0, d0, ds0, p0, q0, hargs, rfl, rfl, h0, r0⟩ := trodAll_cons hA
  obtain ⟨rfl, rfl, rfl⟩ := trodAll_nil r0
  obtain rfl : args = #[v0] := by cases args; simp_all
  obtain ⟨rfl, rfl⟩ := trodVars_none hV
  have k0 := h0
  have lt0 : ∀ x ∈ p0, x.block < W.heap.size := by obtain ⟨m, hm⟩ := k0; exact DataW.trod_lt m _ _ _ hm
  obtain ⟨cs0, x0, rfl, w0⟩ := arg_struct Try.underlying44 opens_rule (hval 0 44 v0 rfl rfl) h0
  clear hA0 hval0
  refine (law w0).mono fun e W' ⟨he, bel⟩ => ?_
  subst he
  exact ⟨_, rfl, _, _, _, [], _, [], hW', trodAll_mk1 (shut_bool Try.underlying4 _), (trodAll_cons_mk (Below.trod laidOut (by kernel_rfl) (of_decide_eq_true (by kernel_rfl)) k0 bel lt0) trodAll_mk0), rfl, bel.frame _, fun h => by cases h⟩

theorem over : Rows.fnExactTidyRuleRow.holds Try.pinned (OpenSpec.ofChange Rows.fnExactTidyRuleSpec) :=
  OpenClaim.holds_of_wide 4 Try.f4 rfl rfl rfl rfl rfl rfl rfl ⟨rfl, rfl, rfl, rfl, rfl⟩ rfl rfl rfl rfl rfl (by kernel_rfl) Try.func4 (by kernel_rfl)
    (of_decide_eq_true (by kernel_rfl)) (by unfold Func.isWrapper; first | (rw [if_pos (by decide +kernel)]; kernel_rfl) | (rw [if_neg (by decide +kernel)]; exact ⟨rfl, rfl⟩))
    (fun os started H enc _ => lifted os started H enc)

theorem proved : Rows.FnExactTidyRuleSaid := over
end Go.Proofs.Ytgckeaijbmcdcaa.fnExactTidyRule
