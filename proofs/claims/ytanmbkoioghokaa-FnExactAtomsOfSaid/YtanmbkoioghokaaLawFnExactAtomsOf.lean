/-
  laws.FnExactAtomsOf returns true, whatever its arguments; they read afterwards as before.
  Conditions: none (what every row of this form says by itself: the arguments can be read as data).
-/
import Derived.Test.YtanmbkoioghokaaLawsTo
import Derived.Test.YtanmbkoioghokaaLawsSz
import Derived.Test.YtanmbkoioghokaaLawsEq
import Derived.Test.YtanmbkoioghokaaAtomsOf
import Derived.Test.YtanmbkoioghokaaMark
import Derived.Deep.RegionHeld3
import Derived.Test.YtanmbkoioghokaaOpen
import Derived.Test.YtanmbkoioghokaaRows
import Derived.WalkKit
import Derived.ProofKit
import Derived.OpenShut
import Derived.ShutString
import Derived.ChangeOld
import Derived.Below
namespace Go.Proofs.Ytanmbkoioghokaa.fnExactAtomsOf
open Go.ChangeShapes Go.WideShapes Go.ChangeAt Go.RowKit
open Go.ChangeMaps (open_string shut_string)
set_option linter.unusedVariables false

theorem own : ownKnob Try.prog.godebug = none := by kernel_rfl
theorem laidOut : laidOutB Try.prog = true := by kernel_rfl

theorem specAtomsOfO_calls {cs : List Value} {r : RuleD} {w : World} (h : Rd.R w cs r) (hs : Sm.S r) :
    Calls Try.prog 28 #[.agg cs.toArray] w fun e w' => ∃ v, e = .returned v ∧ Own w.heap.size w' [v] (atomsB r) ∧ Below w.heap.size w w' :=
  (specAtomsOf_calls h hs).mono fun _ _ ⟨v, he, ho, hb⟩ => ⟨v, he, ho.own, hb⟩
theorem implAtomsOfO_calls {cs : List Value} {r : RuleD} {w : World} (h : Rd.R w cs r) :
    Calls Try.prog 29 #[.agg cs.toArray] w fun e w' => ∃ v, e = .returned v ∧ Own w.heap.size w' [v] (atomsB r) ∧ Below w.heap.size w w' :=
  (implAtomsOf_calls h).mono fun _ _ ⟨v, he, ho, hb⟩ => ⟨v, he, ho.own, hb⟩

set_option maxRecDepth 100000 in
set_option maxHeartbeats 4000000 in
theorem law {cs : List Value} {r : RuleD} {w : World} (h : Rd.R w cs r) :
    Calls Try.prog 8 #[.agg cs.toArray] w fun e w' => e = .returned (.bool true) ∧ Below w.heap.size w w' := by
  obtain ⟨e0, e1, e2, e3, e4, rfl⟩ := list5 (Rd.len h)
  have t0 : Below w.heap.size w (w.alloc (.cells #[e0, e1, e2, e3, e4] 25)) := (Below.refl _ _).alloc (by simp) _
  have CXA := Cells.new w [e0, e1, e2, e3, e4] 25
  have hlen : (atomsB r).length ≤ 12 := pickTo_len _ _
  go_enter Try.func8, Try.ntmps8
  go_wp2_with fail
  refine (szRule_calls 1048576 (Rd.mono t0 h) (by omega) (by omega)).mono ?_
  rintro e w1 ⟨⟨n1, rfl, _, m1, q1⟩, b1⟩
  have t1 := t0.step b1
  by_cases n01 : 0 ≤ n1
  case neg =>
    have hng : n1 < 0 := by omega
    clear n01 q1
    go_wp2
    go_ret
    exact ⟨rfl, t1⟩
  have s1 := Lib.hid (q1 n01)
  clear q1
  replace CXA := CXA.later b1
  obtain ⟨c0Aat1, c1Aat1, c2Aat1, c3Aat1, c4Aat1⟩ := cells5 CXA
  have hlAat1 := CXA.lt
  obtain ⟨⟨s1a, _⟩, ⟨s1b, _⟩⟩ := s1.out
  go_wp2_with fail
  refine (toRule_calls (Rd.mono t1 h) s1.out).mono ?_
  rintro e w2 ⟨cs2, rfl, o2, b2⟩
  have t2 := t1.step b2
  have o2 := o2.shut
  replace CXA := CXA.later b2
  obtain ⟨c0Aat2, c1Aat2, c2Aat2, c3Aat2, c4Aat2⟩ := cells5 CXA
  have hlAat2 := CXA.lt
  go_wp2_with fail
  refine (specAtomsOfO_calls o2.rd s1.out).mono ?_
  rintro e w3 ⟨v3, rfl, o3, b3⟩
  have t3 := t2.step b3
  have o3 := o3.shut
  replace CXA := CXA.later b3
  obtain ⟨c0Aat3, c1Aat3, c2Aat3, c3Aat3, c4Aat3⟩ := cells5 CXA
  have hlAat3 := CXA.lt
  obtain ⟨a3, n3, rfl, _⟩ := retO o3.own
  go_wp2_with fail
  refine (toRule_calls (Rd.mono t3 h) s1.out).mono ?_
  rintro e w4 ⟨cs4, rfl, o4, b4⟩
  have t4 := t3.step b4
  have o4 := o4.shut
  replace CXA := CXA.later b4
  obtain ⟨c0Aat4, c1Aat4, c2Aat4, c3Aat4, c4Aat4⟩ := cells5 CXA
  have hlAat4 := CXA.lt
  have l4 := Rd.one o4.rd
  obtain ⟨x04, x14, x24, x34, x44, rfl⟩ := list5 (Rd.len o4.rd)
  have st04 := sto Try.prog (l4 x04 (by simp))
  have st14 := sto Try.prog (l4 x14 (by simp))
  have st24 := sto Try.prog (l4 x24 (by simp))
  have st34 := sto Try.prog (l4 x34 (by simp))
  have st44 := sto Try.prog (l4 x44 (by simp))
  have o4 := o4.alloc (.cells #[x04, x14, x24, x34, x44] 30)
  have CX4 := Cells.new w4 [x04, x14, x24, x34, x44] 30
  replace CXA := CXA.alloc (.cells #[x04, x14, x24, x34, x44] 30)
  have t4 := t4.alloc t4.size (.cells #[x04, x14, x24, x34, x44] 30)
  clear l4
  go_wp2_with fail
  refine (implAtomsOfO_calls o4.rd).mono ?_
  rintro e w5 ⟨v5, rfl, o5, b5⟩
  have t5 := t4.step b5
  have o5 := o5.shut
  replace CXA := CXA.later b5
  obtain ⟨c0Aat5, c1Aat5, c2Aat5, c3Aat5, c4Aat5⟩ := cells5 CXA
  have hlAat5 := CXA.lt
  replace CX4 := CX4.later b5
  obtain ⟨c04at5, c14at5, c24at5, c34at5, c44at5⟩ := cells5 CX4
  have hl4at5 := CX4.lt
  obtain ⟨a5, n5, rfl, _⟩ := retO o5.own
  have o3 := ((o3.later b4).alloc (.cells #[x04, x14, x24, x34, x44] 30)).later b5
  have o4 := o4.later b5
  go_wp2_with fail
  refine (eqIntSR_calls o5.rd o3.rd).mono ?_
  rintro e w6 ⟨rfl, b6⟩
  have t6 := t5.step b6
  replace CXA := CXA.later b6
  obtain ⟨c0Aat6, c1Aat6, c2Aat6, c3Aat6, c4Aat6⟩ := cells5 CXA
  have hlAat6 := CXA.lt
  replace CX4 := CX4.later b6
  obtain ⟨c04at6, c14at6, c24at6, c34at6, c44at6⟩ := cells5 CX4
  have hl4at6 := CX4.lt
  have o3 := o3.later b6
  have o4 := o4.later b6
  have o5 := o5.later b6
  go_wp2_with fail
  go_region_held3 (fun w' => (w'.cell? ⟨w4.heap.size, 0, none⟩ = some x04 ∧ w'.cell? ⟨w4.heap.size, 1, none⟩ = some x14 ∧ w'.cell? ⟨w4.heap.size, 2, none⟩ = some x24 ∧ w'.cell? ⟨w4.heap.size, 3, none⟩ = some x34 ∧ w'.cell? ⟨w4.heap.size, 4, none⟩ = some x44) ∧ (w'.cell? ⟨w.heap.size, 0, none⟩ = some e0 ∧ w'.cell? ⟨w.heap.size, 1, none⟩ = some e1 ∧ w'.cell? ⟨w.heap.size, 2, none⟩ = some e2 ∧ w'.cell? ⟨w.heap.size, 3, none⟩ = some e3 ∧ w'.cell? ⟨w.heap.size, 4, none⟩ = some e4))
    (first | exact ⟨cells5 CX4, cells5 CXA⟩ | exact ⟨cells5 (CX4.drew.later b7), cells5 (CXA.drew.later b7)⟩ | exact ⟨cells5 ((CX4.drew.later b7).later b8), cells5 ((CXA.drew.later b7).later b8)⟩)
    (first | (go_at_call 12; refine (toRule_calls (Rd.mono t6.drew h) s1.out).mono ?_; rintro e w7 ⟨cs7, rfl, o7, b7⟩) | (go_at_call 14; refine (eqRule_calls (o4.drew.later b7).rd o7.rd).mono ?_; rintro e w8 ⟨rfl, b8⟩))
  have t8 := (t6.drew.step b7).step b8
  have CXA := ((CXA.drew.later b7).later b8)
  have CX4 := ((CX4.drew.later b7).later b8)
  have o3 := ((o3.drew.later b7).later b8)
  have o4 := ((o4.drew.later b7).later b8)
  have o5 := ((o5.drew.later b7).later b8)
  obtain ⟨cA0, cA1, cA2, cA3, cA4⟩ := cells5 CXA
  obtain ⟨c40, c41, c42, c43, c44⟩ := cells5 CX4
  have z3 := b3.size
  have z4 := b4.size
  have z5 := b5.size
  rw [World.size_alloc] at z5
  have z8 : w5.heap.size ≤ w8.heap.size := Nat.le_trans b6.size (Nat.le_trans b7.size b8.size)
  have za := t2.size
  have hk1 : (0 : Int) ≤ 1 + ((Mk.cnt r : Nat) : Int) := by omega
  have hk2 : (0 : Int) ≤ 1 + ((cntTo (atomsB r) (atomsB r).length : Nat) : Int) := by omega
  clear o2 b1 b2 b3 b4 b5 b6 b7 b8
  go_wp2_with fail
  refine (markRule_calls 1 o4 (by omega) (by omega) (by omega)).mono ?_
  rintro e w9 ⟨rfl, m4, g9⟩
  have t9 := g9.below t8 (by omega)
  have o3 := o3.wr g9 (.inl (by omega))
  have o5 := o5.wr g9 (.inr (by rw [World.size_alloc]; omega))
  have CXA := CXA.wr g9 (.inl (by omega))
  obtain ⟨cB0, cB1, cB2, cB3, cB4⟩ := cells5 CXA
  have hlA := CXA.lt
  go_wp2_with fail
  refine (eqIntSR_calls o5.rd o3.rd).mono ?_
  rintro e w10 ⟨rfl, b10⟩
  have t10 := t9.step b10
  have CXA := CXA.later b10
  obtain ⟨cC0, cC1, cC2, cC3, cC4⟩ := cells5 CXA
  go_wp2_with fail
  refine (markIntSI_calls 1 (o5.later b10) (by omega) (by omega)).mono ?_
  rintro e w11 ⟨rfl, m5, g11⟩
  have o3 := (o3.later b10).wr g11 (.inl (by rw [World.size_alloc]; omega))
  have t11 := g11.below t10 (by rw [World.size_alloc]; omega)
  have CXA := CXA.wr g11 (.inl (by rw [World.size_alloc]; omega))
  obtain ⟨cD0, cD1, cD2, cD3, cD4⟩ := cells5 CXA
  go_wp2_with fail
  refine (heldIntSO_calls 1 m5.rd (by omega) (by omega)).mono ?_
  rintro e w' ⟨rfl, rfl⟩
  go_wp2_with fail
  refine (toRule_calls (Rd.mono t11 h) s1.out).mono ?_
  rintro e w12 ⟨cs12, rfl, o12, b12⟩
  have t12 := t11.step b12
  have o12 := o12.shut
  replace CXA := CXA.later b12
  obtain ⟨c0Aat12, c1Aat12, c2Aat12, c3Aat12, c4Aat12⟩ := cells5 CXA
  have hlAat12 := CXA.lt
  go_wp2_with fail
  refine (implAtomsOfO_calls o12.rd).mono ?_
  rintro e w13 ⟨v13, rfl, o13, b13⟩
  have t13 := t12.step b13
  have o13 := o13.shut
  replace CXA := CXA.later b13
  obtain ⟨c0Aat13, c1Aat13, c2Aat13, c3Aat13, c4Aat13⟩ := cells5 CXA
  have hlAat13 := CXA.lt
  obtain ⟨a13, n13, rfl, _⟩ := retO o13.own
  go_wp2_with fail
  refine (eqIntSR_calls o13.rd ((o3.later b12).later b13).rd).mono ?_
  rintro e w14 ⟨rfl, b14⟩
  have t14 := t13.step b14
  go_wp2_with fail
  refine (heldIntSO_calls 1 (((m5.later b12).later b13).later b14).rd (by omega) (by omega)).mono ?_
  rintro e w' ⟨rfl, rfl⟩
  go_wp2
  go_ret
  exact ⟨rfl, t14⟩

set_option maxRecDepth 100000 in
theorem lifted (os : Os) (started : os.Started) (H : Type) (enc : TypeId × Value → H) :
    ReturnsInHanded {} Try.checked os 8 .any (Rows.fnExactAtomsOfSpec.pre6 enc Try.prog Try.f8 Rows.fnExactAtomsOfRow.domain false) (Rows.fnExactAtomsOfSpec.post enc Try.prog Try.f8 false true false false) := by
  refine returnsInHanded_of_change (C := Try.checked) own started (by kernel_rfl) Try.func8
    (ChangeSpec.witness6 (enc := enc) (C := Try.checked) false ⟨#[], #[.agg #[.bool false, .slice none 0 0, .bool false, .int .i64 0, .slice none 0 0]], []⟩ 8 (by kernel_rfl) (by kernel_rfl) (by kernel_rfl) (by kernel_rfl)) ?_
  intro W base args ds gs before hval0 hW hcnd _
  have hval : ∀ (j : Nat) t v, Try.f8.params[j]? = some t → args[j]? = some v → Value.okWide Try.prog W .any base t v := hval0
  have hW' := hW
  obtain ⟨p, q, hA0, hV, rfl, hfz, hnd⟩ := hW
  have hA : DataW.TrodAll enc Try.prog W 0 (fun _ => true) true Try.f8.params.toList args.toList ds p := hA0
  rw [Try.params8] at hA hval
  obtain ⟨v0, vs0, d0, ds0, p0, q0, hargs, rfl, rfl, h0, r0⟩ := trodAll_cons hA
  obtain ⟨rfl, rfl, rfl⟩ := trodAll_nil r0
  obtain rfl : args = #[v0] := by cases args; simp_all
  obtain ⟨rfl, rfl⟩ := trodVars_none hV
  have k0 := h0
  have lt0 : ∀ x ∈ p0, x.block < W.heap.size := by obtain ⟨m, hm⟩ := k0; exact DataW.trod_lt m _ _ _ hm
  obtain ⟨cs0, x0, rfl, w0⟩ := arg_struct Try.underlying25 opens_rule (hval 0 25 v0 rfl rfl) h0
  clear hA0 hval0
  refine (law w0).mono fun e W' ⟨he, bel⟩ => ?_
  subst he
  exact ⟨_, rfl, _, _, _, [], _, [], hW', trodAll_mk1 (shut_bool Try.underlying4 _), (trodAll_cons_mk (Below.trod laidOut (by kernel_rfl) (of_decide_eq_true (by kernel_rfl)) k0 bel lt0) trodAll_mk0), rfl, bel.frame _, fun h => by cases h⟩

theorem over : Rows.fnExactAtomsOfRow.holds Try.pinned (OpenSpec.ofChange Rows.fnExactAtomsOfSpec) :=
  OpenClaim.holds_of_wide 8 Try.f8 rfl rfl rfl rfl rfl rfl rfl ⟨rfl, rfl, rfl, rfl, rfl⟩ rfl rfl rfl rfl rfl (by kernel_rfl) Try.func8 (by kernel_rfl)
    (of_decide_eq_true (by kernel_rfl)) (by unfold Func.isWrapper; first | (rw [if_pos (by decide +kernel)]; kernel_rfl) | (rw [if_neg (by decide +kernel)]; exact ⟨rfl, rfl⟩))
    (fun os started H enc _ => lifted os started H enc)

theorem proved : Rows.FnExactAtomsOfSaid := over
end Go.Proofs.Ytanmbkoioghokaa.fnExactAtomsOf
