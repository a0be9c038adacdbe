/-
  laws.FnExactWellFounded returns true, whatever its arguments; they read afterwards as before.
  Conditions: none (what every row of this form says by itself: the arguments can be read as data).
-/
import Derived.Test.YtfjcmnnddhomjaaGreatLawsProg
import Derived.Test.YtfjcmnnddhomjaaGreatLawsSz
import Derived.Test.YtfjcmnnddhomjaaGreatLawsEq
import Derived.Test.YtfjcmnnddhomjaaGreatMarkQ
import Derived.Test.YtfjcmnnddhomjaaGreatLawReg
import Derived.Test.YtfjcmnnddhomjaaGreatWfI
import Derived.Test.YtfjcmnnddhomjaaGreatWfS
import Derived.Deep.RegionHeld3
import Derived.Test.YtfjcmnnddhomjaaGreatOpen
import Derived.Test.YtfjcmnnddhomjaaGreatRows
import Derived.WalkKit
import Derived.ProofKit
import Derived.OpenShut
import Derived.ShutString
import Derived.ChangeOld
import Derived.Below
namespace Go.Proofs.YtfjcmnnddhomjaaGreat.fnExactWellFounded
open Go.ChangeShapes Go.WideShapes Go.ChangeAt Go.RowKit
open Go.ChangeMaps (open_string shut_string)
set_option linter.unusedVariables false
set_option linter.unusedSimpArgs false

theorem own : ownKnob Tryz.prog.godebug = none := by kernel_rfl
theorem laidOut : laidOutB Tryz.prog = true := by kernel_rfl

theorem WrF_I {fp : List Nat} {lo hi : Nat} {w w' : World} (h : WrF fp w w') (hl : ∀ g ∈ fp, lo ≤ g ∧ g < hi) : WrI lo hi w w' :=
  ⟨h.os, h.tape, h.output, h.size, fun g hg hd => h.block g hg fun hm => by have := hl g hm; omega⟩
theorem specO_calls {cs : List Value} {p : ProgD} {w : World} (h : Rd.R w cs p) :
    Calls Tryz.prog 14 #[.agg cs.toArray] w fun e w' => ∃ u1 u2, e = .returned (.tuple #[u1, u2, .bool (plainB p)]) ∧ Own w.heap.size w' [u1] (wfTR p) ∧ Own w.heap.size w' [u2] (wfFR p) ∧ Below w.heap.size w w' :=
  (specWellFounded_calls h).mono fun _ _ ⟨u1, u2, he, ho, hq, hb⟩ => ⟨u1, u2, he, ho.own, hq.own, hb⟩

set_option maxRecDepth 100000 in
set_option maxHeartbeats 8000000 in
theorem law {cs : List Value} {p : ProgD} {w : World} (h : Rd.R w cs p) :
    Calls Tryz.prog 3 #[.agg cs.toArray] w fun e w' => e = .returned (.bool true) ∧ Below w.heap.size w w' := by
  obtain ⟨e0, e1, e2, e3, e4, e5, e6, e7, rfl⟩ := list8 (Rd.len h)
  have t0 : Below w.heap.size w (w.alloc (.cells #[e0, e1, e2, e3, e4, e5, e6, e7] 28)) := (Below.refl _ _).alloc (by simp) _
  have CXA := Cells.new w [e0, e1, e2, e3, e4, e5, e6, e7] 28
  have hlen1 := wfTR_len p
  have hlen2 := wfFR_len p
  obtain ⟨R, hR⟩ : ∃ R, R = wfTR p := ⟨_, rfl⟩
  obtain ⟨Q, hQ⟩ : ∃ Q, Q = wfFR p := ⟨_, rfl⟩
  obtain ⟨pb, hpb⟩ : ∃ pb, pb = plainB p := ⟨_, rfl⟩
  have HS := fun (cs : List Value) (w : World) (h : Rd.R w cs p) => Lib.hid (specO_calls h)
  have HI := fun (cs : List Value) (w : World) (h : Rd.R w cs p) => Lib.hid (implWellFounded_calls h)
  rw [← hR, ← hQ, ← hpb] at HS HI
  rw [← hR] at hlen1
  rw [← hQ] at hlen2
  clear hR hQ hpb
  have hpp : ∀ b : Bool, (b != b) = false := by decide
  go_enter Tryz.func3, Tryz.ntmps3
  go_wp2_with fail
  refine (szProg_calls 1048576 (Rd.mono t0 h) (by omega) (by omega)).mono ?_
  rintro e w1 ⟨⟨n1, rfl, _, m1, q1⟩, b1⟩
  have t1 := t0.step b1
  by_cases n01 : 0 ≤ n1
  case neg =>
    have hng : n1 < 0 := by omega
    clear n01 q1
    go_wp2
    go_ret
    exact ⟨rfl, t1⟩
  have s1 := Lib.hid (q1 n01)
  clear q1
  replace CXA := CXA.later b1
  obtain ⟨c0Aat1, c1Aat1, c2Aat1, c3Aat1, c4Aat1, c5Aat1, c6Aat1, c7Aat1⟩ := cells8 CXA
  have hlAat1 := CXA.lt
  go_wp2_with fail
  refine (toProg_calls (Rd.mono t1 h) s1.out).mono ?_
  rintro e w2 ⟨cs2, rfl, o2, b2⟩
  have t2 := t1.step b2
  have o2 := o2.shut
  replace CXA := CXA.later b2
  obtain ⟨c0Aat2, c1Aat2, c2Aat2, c3Aat2, c4Aat2, c5Aat2, c6Aat2, c7Aat2⟩ := cells8 CXA
  have hlAat2 := CXA.lt
  go_wp2_with fail
  refine ((HS _ _ o2.rd).out).mono ?_
  rintro e w3 ⟨u3, v3, rfl, o3, q3, b3⟩
  have t3 := t2.step b3
  have o3 := o3.shut
  have q3 := q3.shut
  replace CXA := CXA.later b3
  obtain ⟨c0Aat3, c1Aat3, c2Aat3, c3Aat3, c4Aat3, c5Aat3, c6Aat3, c7Aat3⟩ := cells8 CXA
  have hlAat3 := CXA.lt
  obtain ⟨a3, n3, rfl, _⟩ := retO o3.own
  obtain ⟨c3, d3, rfl, _⟩ := retO q3.own
  go_wp2_with fail
  refine (toProg_calls (Rd.mono t3 h) s1.out).mono ?_
  rintro e w4 ⟨cs4, rfl, o4, b4⟩
  have t4 := t3.step b4
  have o4 := o4.shut
  replace CXA := CXA.later b4
  obtain ⟨c0Aat4, c1Aat4, c2Aat4, c3Aat4, c4Aat4, c5Aat4, c6Aat4, c7Aat4⟩ := cells8 CXA
  have hlAat4 := CXA.lt
  have l4 := Rd.one o4.rd
  obtain ⟨x04, x14, x24, x34, x44, x54, x64, x74, rfl⟩ := list8 (Rd.len o4.rd)
  have st04 := sto Tryz.prog (l4 x04 (by simp))
  have st14 := sto Tryz.prog (l4 x14 (by simp))
  have st24 := sto Tryz.prog (l4 x24 (by simp))
  have st34 := sto Tryz.prog (l4 x34 (by simp))
  have st44 := sto Tryz.prog (l4 x44 (by simp))
  have st54 := sto Tryz.prog (l4 x54 (by simp))
  have st64 := sto Tryz.prog (l4 x64 (by simp))
  have st74 := sto Tryz.prog (l4 x74 (by simp))
  have o4 := o4.alloc (.cells #[x04, x14, x24, x34, x44, x54, x64, x74] 37)
  have CX4 := Cells.new w4 [x04, x14, x24, x34, x44, x54, x64, x74] 37
  replace CXA := CXA.alloc (.cells #[x04, x14, x24, x34, x44, x54, x64, x74] 37)
  have t4 := t4.alloc t4.size (.cells #[x04, x14, x24, x34, x44, x54, x64, x74] 37)
  clear l4
  go_wp2_with fail
  refine ((HI _ _ o4.rd).out).mono ?_
  rintro e w5 ⟨u5, v5, M, rfl, o5, q5, hM, b5⟩
  have t5 := t4.step b5
  have q5 := q5.shut
  replace CXA := CXA.later b5
  obtain ⟨c0Aat5, c1Aat5, c2Aat5, c3Aat5, c4Aat5, c5Aat5, c6Aat5, c7Aat5⟩ := cells8 CXA
  have hlAat5 := CXA.lt
  replace CX4 := CX4.later b5
  obtain ⟨c04at5, c14at5, c24at5, c34at5, c44at5, c54at5, c64at5, c74at5⟩ := cells8 CX4
  obtain ⟨a5, n5, rfl, _⟩ := retO o5.own
  obtain ⟨c5, d5, rfl, _⟩ := retO q5.own
  have o3 := ((o3.later b4).alloc (.cells #[x04, x14, x24, x34, x44, x54, x64, x74] 37)).later b5
  have q3 := ((q3.later b4).alloc (.cells #[x04, x14, x24, x34, x44, x54, x64, x74] 37)).later b5
  have o4 := o4.later b5
  go_wp2_with fail
  refine (eqIntSR_calls o5.rd o3.rd).mono ?_
  rintro e w6 ⟨rfl, b6⟩
  have t6 := t5.step b6
  replace CXA := CXA.later b6
  obtain ⟨c0Aat6, c1Aat6, c2Aat6, c3Aat6, c4Aat6, c5Aat6, c6Aat6, c7Aat6⟩ := cells8 CXA
  have hlAat6 := CXA.lt
  replace CX4 := CX4.later b6
  obtain ⟨c04at6, c14at6, c24at6, c34at6, c44at6, c54at6, c64at6, c74at6⟩ := cells8 CX4
  have hl4at6 := CX4.lt
  have o3 := o3.later b6
  have q3 := q3.later b6
  have o5 := o5.later b6
  have q5 := q5.later b6
  have o4 := o4.later b6
  go_wp2_with fail
  refine (eqIntSR_calls q5.rd q3.rd).mono ?_
  rintro e w7 ⟨rfl, b7⟩
  have t7 := t6.step b7
  replace CXA := CXA.later b7
  obtain ⟨c0Aat7, c1Aat7, c2Aat7, c3Aat7, c4Aat7, c5Aat7, c6Aat7, c7Aat7⟩ := cells8 CXA
  have hlAat7 := CXA.lt
  replace CX4 := CX4.later b7
  obtain ⟨c04at7, c14at7, c24at7, c34at7, c44at7, c54at7, c64at7, c74at7⟩ := cells8 CX4
  have hl4at7 := CX4.lt
  have o3 := o3.later b7
  have q3 := q3.later b7
  have o5 := o5.later b7
  have q5 := q5.later b7
  have o4 := o4.later b7
  go_wp2_with fail
  go_region_held3 (fun w' => (w'.cell? ⟨w4.heap.size, 0, none⟩ = some x04 ∧ w'.cell? ⟨w4.heap.size, 1, none⟩ = some x14 ∧ w'.cell? ⟨w4.heap.size, 2, none⟩ = some x24 ∧ w'.cell? ⟨w4.heap.size, 3, none⟩ = some x34 ∧ w'.cell? ⟨w4.heap.size, 4, none⟩ = some x44 ∧ w'.cell? ⟨w4.heap.size, 5, none⟩ = some x54 ∧ w'.cell? ⟨w4.heap.size, 6, none⟩ = some x64 ∧ w'.cell? ⟨w4.heap.size, 7, none⟩ = some x74) ∧ (w'.cell? ⟨w.heap.size, 0, none⟩ = some e0 ∧ w'.cell? ⟨w.heap.size, 1, none⟩ = some e1 ∧ w'.cell? ⟨w.heap.size, 2, none⟩ = some e2 ∧ w'.cell? ⟨w.heap.size, 3, none⟩ = some e3 ∧ w'.cell? ⟨w.heap.size, 4, none⟩ = some e4 ∧ w'.cell? ⟨w.heap.size, 5, none⟩ = some e5 ∧ w'.cell? ⟨w.heap.size, 6, none⟩ = some e6 ∧ w'.cell? ⟨w.heap.size, 7, none⟩ = some e7))
    (first | exact ⟨cells8 CX4, cells8 CXA⟩ | exact ⟨cells8 (CX4.drew.later b8), cells8 (CXA.drew.later b8)⟩ | exact ⟨cells8 ((CX4.drew.later b8).later b9), cells8 ((CXA.drew.later b8).later b9)⟩)
    (first | (go_at_call 15; refine (toProg_calls (Rd.mono t7.drew h) s1.out).mono ?_; rintro e w8 ⟨cs8, rfl, o8, b8⟩) | (go_at_call 18; refine (eqProg_calls (o4.drew.later b8).rd o8.rd).mono ?_; rintro e w9 ⟨rfl, b9⟩))
  have t9 := (t7.drew.step b8).step b9
  have CXA := ((CXA.drew.later b8).later b9)
  have CX4 := ((CX4.drew.later b8).later b9)
  have o3 := ((o3.drew.later b8).later b9)
  have q3 := ((q3.drew.later b8).later b9)
  have o4 := ((o4.drew.later b8).later b9)
  have o5 := ((o5.drew.later b8).later b9)
  have q5 := ((q5.drew.later b8).later b9)
  have z3 := b3.size
  have z4 := b4.size
  have z5 := b5.size
  rw [World.size_alloc] at z5 hM
  have z9 : w5.heap.size ≤ w9.heap.size := Nat.le_trans b6.size (Nat.le_trans b7.size (Nat.le_trans b8.size b9.size))
  have za := t3.size
  have hcp := cntSm (p := p) s1.out
  have hcr := cntTo_int R R.length
  have hcq := cntTo_int Q Q.length
  have hk1 : (0 : Int) ≤ 1 + (cntProgV p : Nat) := by omega
  have hk2 : (0 : Int) ≤ 1 + ((cntTo R R.length : Nat) : Int) := by omega
  have hk3 : (0 : Int) ≤ 1 + ((cntTo R R.length : Nat) : Int) + ((cntTo Q Q.length : Nat) : Int) := by omega
  have hkR : ((cntTo R R.length : Nat) : Int) ≤ 12 := by omega
  have hkQ : ((cntTo Q Q.length : Nat) : Int) ≤ 12 := by omega
  clear hcr hcq o2 b1 b2 b3 b4 b5 b6 b7 b8 b9
  obtain ⟨f4, p4, l4⟩ := o4
  go_wp2_with fail
  refine (markProg_calls 1 p4 (by omega) (by omega)).mono ?_
  rintro e w10 ⟨rfl, m4, g10⟩
  have g10 := WrF_I g10 l4
  have t10 := g10.below t9 (by omega)
  have o3 := o3.wr g10 (.inl (by omega))
  have q3 := q3.wr g10 (.inl (by omega))
  have o5 := o5.wr g10 (.inr (by rw [World.size_alloc]; omega))
  have q5 := q5.wr g10 (.inr (by omega))
  have CXA := CXA.wr g10 (.inl (by omega))
  obtain ⟨cB0, cB1, cB2, cB3, cB4, cB5, cB6, cB7⟩ := cells8 CXA
  clear m4
  go_wp2_with fail
  refine (eqIntSR_calls o5.rd o3.rd).mono ?_
  rintro e w11 ⟨rfl, b11⟩
  have t11 := t10.step b11
  have CXA := CXA.later b11
  have o3 := o3.later b11
  have q3 := q3.later b11
  have o5 := o5.later b11
  have q5 := q5.later b11
  clear cB0 cB1 cB2 cB3 cB4 cB5 cB6 cB7
  obtain ⟨cB0, cB1, cB2, cB3, cB4, cB5, cB6, cB7⟩ := cells8 CXA
  go_wp2_with fail
  refine (eqIntSR_calls q5.rd q3.rd).mono ?_
  rintro e w12 ⟨rfl, b12⟩
  have t12 := t11.step b12
  have CXA := CXA.later b12
  have o3 := o3.later b12
  have q3 := q3.later b12
  have o5 := o5.later b12
  have q5 := q5.later b12
  clear cB0 cB1 cB2 cB3 cB4 cB5 cB6 cB7
  obtain ⟨cB0, cB1, cB2, cB3, cB4, cB5, cB6, cB7⟩ := cells8 CXA
  go_wp2_with fail
  refine (markIntSI_calls 1 o5 (by omega) (by omega)).mono ?_
  rintro e w13 ⟨rfl, m5, g13⟩
  have t13 := g13.below t12 (by rw [World.size_alloc]; omega)
  have o3 := o3.wr g13 (.inl (by rw [World.size_alloc]; omega))
  have q3 := q3.wr g13 (.inl (by rw [World.size_alloc]; omega))
  have q5 := q5.wr g13 (.inr (Nat.le_refl _))
  have CXA := CXA.wr g13 (.inl (by rw [World.size_alloc]; omega))
  clear cB0 cB1 cB2 cB3 cB4 cB5 cB6 cB7
  obtain ⟨cB0, cB1, cB2, cB3, cB4, cB5, cB6, cB7⟩ := cells8 CXA
  go_wp2_with fail
  refine (markIntSI_calls (1 + ((cntTo R R.length : Nat) : Int)) q5 (by omega) (by omega)).mono ?_
  rintro e w14 ⟨rfl, n5, g14⟩
  have t14 := g14.below t13 (by omega)
  have o3 := o3.wr g14 (.inl (by omega))
  have q3 := q3.wr g14 (.inl (by omega))
  have m5 := m5.wr g14 (.inl (Nat.le_refl _))
  have CXA := CXA.wr g14 (.inl (by omega))
  clear cB0 cB1 cB2 cB3 cB4 cB5 cB6 cB7
  obtain ⟨cB0, cB1, cB2, cB3, cB4, cB5, cB6, cB7⟩ := cells8 CXA
  go_wp2_with fail
  refine (heldIntSO_calls 1 m5.rd (by omega) (by omega)).mono ?_
  rintro e w' ⟨rfl, rfl⟩
  go_wp2_with fail
  refine (heldIntSO_calls (1 + ((cntTo R R.length : Nat) : Int)) n5.rd (by omega) (by omega)).mono ?_
  rintro e w' ⟨rfl, rfl⟩
  go_wp2_with fail
  refine (toProg_calls (Rd.mono t14 h) s1.out).mono ?_
  rintro e w15 ⟨cs15, rfl, o15, b15⟩
  have t15 := t14.step b15
  have o15 := o15.shut
  replace CXA := CXA.later b15
  obtain ⟨c0Aat15, c1Aat15, c2Aat15, c3Aat15, c4Aat15, c5Aat15, c6Aat15, c7Aat15⟩ := cells8 CXA
  have hlAat15 := CXA.lt
  go_wp2_with fail
  refine ((HI _ _ o15.rd).out).mono ?_
  rintro e w16 ⟨u16, v16, M2, rfl, o16, q16, hM2, b16⟩
  have t16 := t15.step b16
  have q16 := q16.shut
  obtain ⟨a16, n16, rfl, _⟩ := retO o16.own
  obtain ⟨c16, d16, rfl, _⟩ := retO q16.own
  have o3 := (o3.later b15).later b16
  have q3 := (q3.later b15).later b16
  have m5 := (m5.later b15).later b16
  have n5 := (n5.later b15).later b16
  clear CXA cB0 cB1 cB2 cB3 cB4 cB5 cB6 cB7
  go_wp2_with fail
  refine (eqIntSR_calls o16.rd o3.rd).mono ?_
  rintro e w17 ⟨rfl, b17⟩
  go_wp2_with fail
  refine (eqIntSR_calls (q16.later b17).rd (q3.later b17).rd).mono ?_
  rintro e w18 ⟨rfl, b18⟩
  go_wp2_with fail
  refine (heldIntSO_calls 1 ((m5.later b17).later b18).rd (by omega) (by omega)).mono ?_
  rintro e w' ⟨rfl, rfl⟩
  go_wp2_with fail
  refine (heldIntSO_calls (1 + ((cntTo R R.length : Nat) : Int)) ((n5.later b17).later b18).rd (by omega) (by omega)).mono ?_
  rintro e w' ⟨rfl, rfl⟩
  go_wp2
  go_ret
  exact ⟨rfl, (t16.step b17).step b18⟩

set_option maxRecDepth 100000 in
theorem lifted (os : Os) (started : os.Started) (H : Type) (enc : TypeId × Value → H) :
    ReturnsInHanded {} Tryz.checked os 3 .any (Rows.fnExactWellFoundedSpec.pre6 enc Tryz.prog Tryz.f3 Rows.fnExactWellFoundedRow.domain false) (Rows.fnExactWellFoundedSpec.post enc Tryz.prog Tryz.f3 false true false false) := by
  refine returnsInHanded_of_change (C := Tryz.checked) own started (by kernel_rfl) Tryz.func3
    (ChangeSpec.witness6 (enc := enc) (C := Tryz.checked) false ⟨#[], #[.agg #[.int .i64 0, .slice none 0 0, .slice none 0 0, .bool false, .slice none 0 0, .slice none 0 0, .slice none 0 0, .slice none 0 0]], []⟩ 8 (by kernel_rfl) (by kernel_rfl) (by kernel_rfl) (by kernel_rfl)) ?_
  intro W base args ds gs before hval0 hW hcnd _
  have hval : ∀ (j : Nat) t v, Tryz.f3.params[j]? = some t → args[j]? = some v → Value.okWide Tryz.prog W .any base t v := hval0
  have hW' := hW
  obtain ⟨p, q, hA0, hV, rfl, hfz, hnd⟩ := hW
  have hA : DataW.TrodAll enc Tryz.prog W 0 (fun _ => true) true Tryz.f3.params.toList args.toList ds p := hA0
  rw [Tryz.params3] at hA hval
  obtain ⟨v0, vs0, d0, ds0, p0, q0, hargs, rfl, rfl, h0, r0⟩ := trodAll_cons hA
  obtain ⟨rfl, rfl, rfl⟩ := trodAll_nil r0
  obtain rfl : args = #[v0] := by cases args; simp_all
  obtain ⟨rfl, rfl⟩ := trodVars_none hV
  have k0 := h0
  have lt0 : ∀ x ∈ p0, x.block < W.heap.size := by obtain ⟨m, hm⟩ := k0; exact DataW.trod_lt m _ _ _ hm
  obtain ⟨cs0, x0, rfl, w0⟩ := arg_struct Tryz.underlying28 opens_prog (hval 0 28 v0 rfl rfl) h0
  clear hA0 hval0
  refine (law w0).mono fun e W' ⟨he, bel⟩ => ?_
  subst he
  exact ⟨_, rfl, _, _, _, [], _, [], hW', trodAll_mk1 (shut_bool Tryz.underlying4 _), (trodAll_cons_mk (Below.trod laidOut (by kernel_rfl) (of_decide_eq_true (by kernel_rfl)) k0 bel lt0) trodAll_mk0), rfl, bel.frame _, fun h => by cases h⟩

theorem over : Rows.fnExactWellFoundedRow.holds Tryz.pinned (OpenSpec.ofChange Rows.fnExactWellFoundedSpec) :=
  OpenClaim.holds_of_wide 3 Tryz.f3 rfl rfl rfl rfl rfl rfl rfl ⟨rfl, rfl, rfl, rfl, rfl⟩ rfl rfl rfl rfl rfl (by kernel_rfl) Tryz.func3 (by kernel_rfl)
    (of_decide_eq_true (by kernel_rfl)) (by unfold Func.isWrapper; first | (rw [if_pos (by decide +kernel)]; kernel_rfl) | (rw [if_neg (by decide +kernel)]; exact ⟨rfl, rfl⟩))
    (fun os started H enc _ => lifted os started H enc)

theorem proved : Rows.FnExactWellFoundedSaid := over
end Go.Proofs.YtfjcmnnddhomjaaGreat.fnExactWellFounded
