/-
  laws.FnExactAnswers returns true, whatever its arguments; they read afterwards as before.
  Conditions: none (what every row of this form says by itself: the arguments can be read as data).
-/
import Derived.Test.YtiddellnmfckfaaGreatLawsProg
import Derived.Test.YtiddellnmfckfaaGreatLawsSz
import Derived.Test.YtiddellnmfckfaaGreatLawsEq
import Derived.Test.YtiddellnmfckfaaGreatLawReg
import Derived.Test.YtiddellnmfckfaaGreatSetS
import Derived.Test.YtiddellnmfckfaaGreatRange
import Derived.Deep.RegionHeld3
import Derived.Test.YtiddellnmfckfaaGreatOpen
import Derived.Test.YtiddellnmfckfaaGreatRows
import Derived.WalkKit
import Derived.ProofKit
import Derived.OpenShut
import Derived.ShutString
import Derived.ChangeOld
import Derived.Below
namespace Go.Proofs.YtiddellnmfckfaaGreat.fnExactAnswers
open Go.ChangeShapes Go.WideShapes Go.ChangeAt Go.RowKit
open Go.ChangeMaps (open_string shut_string)
set_option linter.unusedVariables false
set_option linter.unusedSimpArgs false

theorem own : ownKnob Tryz.prog.godebug = none := by kernel_rfl
theorem laidOut : laidOutB Tryz.prog = true := by kernel_rfl

theorem WrF_I {fp : List Nat} {lo hi : Nat} {w w' : World} (h : WrF fp w w') (hl : ∀ g ∈ fp, lo ≤ g ∧ g < hi) : WrI lo hi w w' :=
  ⟨h.os, h.tape, h.output, h.size, fun g hg hd => h.block g hg fun hm => by have := hl g hm; omega⟩
set_option maxRecDepth 100000 in
theorem ansTo_set {q : ProgD} {x : List Int} {n : Nat} (h : x ∈ ansTo q n) : x.length ≤ 12 := by
  obtain ⟨k, _, e, _⟩ := mem_ansTo.1 h
  rw [e]
  exact setOfS_len _
set_option maxRecDepth 100000 in
theorem answers_cnt (p : ProgD) : cntTo (answersL p) (answersL p).length ≤ 49152 ∧ (answersL p).length ≤ 4096 := by
  cases hF : foldB p
  · rw [answersL_no hF]; exact ⟨by decide, by decide⟩
  · have hok : progOkB (foldD p) = true := foldR_ok hF
    obtain ⟨a0, a1⟩ := progOk_atoms hok
    have hp := pow_atomsN a0 a1
    rw [show (foldD p).atoms = p.atoms from rfl] at hp
    have hl := ansTo_len (foldD p) (2 ^ p.atoms.toNat)
    rw [answersL_yes hF]
    have hc := cntTo_le (xs := ansTo (foldD p) (2 ^ p.atoms.toNat)) (c := 12) (fun x hx => by
      show cntTo x x.length ≤ 12
      rw [cntTo_int]; exact ansTo_set hx) _ (Nat.le_refl _)
    exact ⟨by omega, by omega⟩

set_option maxRecDepth 100000 in
set_option maxHeartbeats 8000000 in
theorem law {cs : List Value} {p : ProgD} {w : World} (h : Rd.R w cs p) :
    Calls Tryz.prog 7 #[.agg cs.toArray] w fun e w' => e = .returned (.bool true) ∧ Below w.heap.size w w' := by
  obtain ⟨e0, e1, e2, e3, e4, e5, e6, e7, rfl⟩ := list8 (Rd.len h)
  have t0 : Below w.heap.size w (w.alloc (.cells #[e0, e1, e2, e3, e4, e5, e6, e7] 28)) := (Below.refl _ _).alloc (by simp) _
  have CXA := Cells.new w [e0, e1, e2, e3, e4, e5, e6, e7] 28
  obtain ⟨hcr, hlen⟩ := answers_cnt p
  obtain ⟨R, hR⟩ : ∃ R, R = answersL p := ⟨_, rfl⟩
  have HS := fun (cs : List Value) (w : World) (h : Rd.R w cs p) => Lib.hid (specAnswers_calls h)
  have HI := fun (cs : List Value) (w : World) (h : Rd.R w cs p) => Lib.hid (implAnswers_calls h)
  rw [← hR] at HS HI hlen hcr
  clear hR
  go_enter Tryz.func7, Tryz.ntmps7
  go_wp2_with fail
  refine (szProg_calls 1048576 (Rd.mono t0 h) (by omega) (by omega)).mono ?_
  rintro e w1 ⟨⟨n1, rfl, _, m1, q1⟩, b1⟩
  have t1 := t0.step b1
  by_cases n01 : 0 ≤ n1
  case neg =>
    have hng : n1 < 0 := by omega
    clear n01 q1
    go_wp2
    go_ret
    exact ⟨rfl, t1⟩
  have s1 := Lib.hid (q1 n01)
  clear q1
  replace CXA := CXA.later b1
  obtain ⟨c0Aat1, c1Aat1, c2Aat1, c3Aat1, c4Aat1, c5Aat1, c6Aat1, c7Aat1⟩ := cells8 CXA
  have hlAat1 := CXA.lt
  go_wp2_with fail
  refine (toProg_calls (Rd.mono t1 h) s1.out).mono ?_
  rintro e w2 ⟨cs2, rfl, o2, b2⟩
  have t2 := t1.step b2
  have o2 := o2.shut
  replace CXA := CXA.later b2
  obtain ⟨c0Aat2, c1Aat2, c2Aat2, c3Aat2, c4Aat2, c5Aat2, c6Aat2, c7Aat2⟩ := cells8 CXA
  have hlAat2 := CXA.lt
  go_wp2_with fail
  refine ((HS _ _ o2.rd).out).mono ?_
  rintro e w3 ⟨v3, rfl, o3, b3⟩
  have t3 := t2.step b3
  have o3 := o3.shut
  replace CXA := CXA.later b3
  obtain ⟨c0Aat3, c1Aat3, c2Aat3, c3Aat3, c4Aat3, c5Aat3, c6Aat3, c7Aat3⟩ := cells8 CXA
  have hlAat3 := CXA.lt
  obtain ⟨a3, n3, rfl, _⟩ := retO o3.own
  go_wp2_with fail
  refine (toProg_calls (Rd.mono t3 h) s1.out).mono ?_
  rintro e w4 ⟨cs4, rfl, o4, b4⟩
  have t4 := t3.step b4
  have o4 := o4.shut
  replace CXA := CXA.later b4
  obtain ⟨c0Aat4, c1Aat4, c2Aat4, c3Aat4, c4Aat4, c5Aat4, c6Aat4, c7Aat4⟩ := cells8 CXA
  have hlAat4 := CXA.lt
  have l4 := Rd.one o4.rd
  obtain ⟨x04, x14, x24, x34, x44, x54, x64, x74, rfl⟩ := list8 (Rd.len o4.rd)
  have st04 := sto Tryz.prog (l4 x04 (by simp))
  have st14 := sto Tryz.prog (l4 x14 (by simp))
  have st24 := sto Tryz.prog (l4 x24 (by simp))
  have st34 := sto Tryz.prog (l4 x34 (by simp))
  have st44 := sto Tryz.prog (l4 x44 (by simp))
  have st54 := sto Tryz.prog (l4 x54 (by simp))
  have st64 := sto Tryz.prog (l4 x64 (by simp))
  have st74 := sto Tryz.prog (l4 x74 (by simp))
  have o4 := o4.alloc (.cells #[x04, x14, x24, x34, x44, x54, x64, x74] 36)
  have CX4 := Cells.new w4 [x04, x14, x24, x34, x44, x54, x64, x74] 36
  replace CXA := CXA.alloc (.cells #[x04, x14, x24, x34, x44, x54, x64, x74] 36)
  have t4 := t4.alloc t4.size (.cells #[x04, x14, x24, x34, x44, x54, x64, x74] 36)
  clear l4
  go_wp2_with fail
  refine ((HI _ _ o4.rd).out).mono ?_
  rintro e w5 ⟨v5, rfl, o5, b5⟩
  have t5 := t4.step b5
  have o5 := o5.shut
  replace CXA := CXA.later b5
  obtain ⟨c0Aat5, c1Aat5, c2Aat5, c3Aat5, c4Aat5, c5Aat5, c6Aat5, c7Aat5⟩ := cells8 CXA
  have hlAat5 := CXA.lt
  replace CX4 := CX4.later b5
  obtain ⟨c04at5, c14at5, c24at5, c34at5, c44at5, c54at5, c64at5, c74at5⟩ := cells8 CX4
  have hl4at5 := CX4.lt
  obtain ⟨a5, n5, rfl, _⟩ := retO o5.own
  have o3 := ((o3.later b4).alloc (.cells #[x04, x14, x24, x34, x44, x54, x64, x74] 36)).later b5
  have o4 := o4.later b5
  go_wp2_with fail
  refine (eqSetS_calls o5.rd o3.rd).mono ?_
  rintro e w6 ⟨rfl, b6⟩
  have t6 := t5.step b6
  replace CXA := CXA.later b6
  obtain ⟨c0Aat6, c1Aat6, c2Aat6, c3Aat6, c4Aat6, c5Aat6, c6Aat6, c7Aat6⟩ := cells8 CXA
  have hlAat6 := CXA.lt
  replace CX4 := CX4.later b6
  obtain ⟨c04at6, c14at6, c24at6, c34at6, c44at6, c54at6, c64at6, c74at6⟩ := cells8 CX4
  have hl4at6 := CX4.lt
  have o3 := o3.later b6
  have o4 := o4.later b6
  have o5 := o5.later b6
  go_wp2_with fail
  go_region_held3 (fun w' => (w'.cell? ⟨w4.heap.size, 0, none⟩ = some x04 ∧ w'.cell? ⟨w4.heap.size, 1, none⟩ = some x14 ∧ w'.cell? ⟨w4.heap.size, 2, none⟩ = some x24 ∧ w'.cell? ⟨w4.heap.size, 3, none⟩ = some x34 ∧ w'.cell? ⟨w4.heap.size, 4, none⟩ = some x44 ∧ w'.cell? ⟨w4.heap.size, 5, none⟩ = some x54 ∧ w'.cell? ⟨w4.heap.size, 6, none⟩ = some x64 ∧ w'.cell? ⟨w4.heap.size, 7, none⟩ = some x74) ∧ (w'.cell? ⟨w.heap.size, 0, none⟩ = some e0 ∧ w'.cell? ⟨w.heap.size, 1, none⟩ = some e1 ∧ w'.cell? ⟨w.heap.size, 2, none⟩ = some e2 ∧ w'.cell? ⟨w.heap.size, 3, none⟩ = some e3 ∧ w'.cell? ⟨w.heap.size, 4, none⟩ = some e4 ∧ w'.cell? ⟨w.heap.size, 5, none⟩ = some e5 ∧ w'.cell? ⟨w.heap.size, 6, none⟩ = some e6 ∧ w'.cell? ⟨w.heap.size, 7, none⟩ = some e7))
    (first | exact ⟨cells8 CX4, cells8 CXA⟩ | exact ⟨cells8 (CX4.drew.later b7), cells8 (CXA.drew.later b7)⟩ | exact ⟨cells8 ((CX4.drew.later b7).later b8), cells8 ((CXA.drew.later b7).later b8)⟩)
    (first | (go_at_call 10; refine (toProg_calls (Rd.mono t6.drew h) s1.out).mono ?_; rintro e w7 ⟨cs7, rfl, o7, b7⟩) | (go_at_call 13; refine (eqProg_calls (o4.drew.later b7).rd o7.rd).mono ?_; rintro e w8 ⟨rfl, b8⟩))
  have t8 := (t6.drew.step b7).step b8
  have CXA := ((CXA.drew.later b7).later b8)
  have o3 := ((o3.drew.later b7).later b8)
  have o4 := ((o4.drew.later b7).later b8)
  have o5 := ((o5.drew.later b7).later b8)
  have CX4 := ((CX4.drew.later b7).later b8)
  obtain ⟨cA0, cA1, cA2, cA3, cA4, cA5, cA6, cA7⟩ := cells8 CXA
  obtain ⟨c40, c41, c42, c43, c44, c45, c46, c47⟩ := cells8 CX4
  have z3 := b3.size
  have z4 := b4.size
  have z5 := b5.size
  rw [World.size_alloc] at z5
  have z8 : w5.heap.size ≤ w8.heap.size := Nat.le_trans b6.size (Nat.le_trans b7.size b8.size)
  have za := t2.size
  have hcp := cntSm (p := p) s1.out
  have hk1 : (0 : Int) ≤ 1 + (cntProgV p : Nat) := by omega
  have hk3 : (0 : Int) ≤ 1 + ((cntTo R R.length : Nat) : Int) := by omega
  clear o2 b1 b2 b3 b4 b5 b6 b7 b8
  obtain ⟨f4, q4, l4⟩ := o4
  go_wp2_with fail
  refine (markProg_calls 1 q4 (by omega) (by omega)).mono ?_
  rintro e w9 ⟨rfl, m4, g9⟩
  have g9 := WrF_I g9 l4
  have t9 := g9.below t8 (by omega)
  have o3 := o3.wr g9 (.inl (by omega))
  have o5 := o5.wr g9 (.inr (by rw [World.size_alloc]; omega))
  have CXA := CXA.wr g9 (.inl (by omega))
  clear m4 cA0 cA1 cA2 cA3 cA4 cA5 cA6 cA7 c40 c41 c42 c43 c44 c45 c46 c47
  obtain ⟨cB0, cB1, cB2, cB3, cB4, cB5, cB6, cB7⟩ := cells8 CXA
  have hlA := CXA.lt
  go_wp2_with fail
  refine (eqSetS_calls o5.rd o3.rd).mono ?_
  rintro e w10 ⟨rfl, b10⟩
  have t10 := t9.step b10
  have CXA := CXA.later b10
  have o3 := o3.later b10
  obtain ⟨f5, q5, l5⟩ := o5.later b10
  clear cB0 cB1 cB2 cB3 cB4 cB5 cB6 cB7
  obtain ⟨cB0, cB1, cB2, cB3, cB4, cB5, cB6, cB7⟩ := cells8 CXA
  go_wp2_with fail
  refine (markSetS_calls 1 q5 (by omega) (by omega)).mono ?_
  rintro e w11 ⟨rfl, m5, g11⟩
  have g11 := WrF_I g11 l5
  have o3 := o3.wr g11 (.inl (by rw [World.size_alloc]; omega))
  have t11 := g11.below t10 (by rw [World.size_alloc]; omega)
  have CXA := CXA.wr g11 (.inl (by rw [World.size_alloc]; omega))
  have m5r := m5.rd
  clear cB0 cB1 cB2 cB3 cB4 cB5 cB6 cB7
  obtain ⟨cB0, cB1, cB2, cB3, cB4, cB5, cB6, cB7⟩ := cells8 CXA
  go_wp2_with fail
  refine (heldSetS_calls 1 m5r (by omega) (by omega)).mono ?_
  rintro e w' ⟨rfl, rfl⟩
  go_wp2_with fail
  refine (toProg_calls (Rd.mono t11 h) s1.out).mono ?_
  rintro e w12 ⟨cs12, rfl, o12, b12⟩
  have t12 := t11.step b12
  have o12 := o12.shut
  replace CXA := CXA.later b12
  obtain ⟨c0Aat12, c1Aat12, c2Aat12, c3Aat12, c4Aat12, c5Aat12, c6Aat12, c7Aat12⟩ := cells8 CXA
  have hlAat12 := CXA.lt
  go_wp2_with fail
  refine ((HI _ _ o12.rd).out).mono ?_
  rintro e w13 ⟨v13, rfl, o13, b13⟩
  have t13 := t12.step b13
  have o13 := o13.shut
  replace CXA := CXA.later b13
  obtain ⟨c0Aat13, c1Aat13, c2Aat13, c3Aat13, c4Aat13, c5Aat13, c6Aat13, c7Aat13⟩ := cells8 CXA
  have hlAat13 := CXA.lt
  obtain ⟨a13, n13, rfl, _⟩ := retO o13.own
  go_wp2_with fail
  refine (eqSetS_calls o13.rd ((o3.later b12).later b13).rd).mono ?_
  rintro e w14 ⟨rfl, b14⟩
  have t14 := t13.step b14
  go_wp2_with fail
  refine (heldSetS_calls 1 (Rd.mono (α := List (List Int)) b14 (Rd.mono (α := List (List Int)) b13 (Rd.mono (α := List (List Int)) b12 m5r))) (by omega) (by omega)).mono ?_
  rintro e w' ⟨rfl, rfl⟩
  go_wp2
  go_ret
  exact ⟨rfl, t14⟩

set_option maxRecDepth 100000 in
theorem lifted (os : Os) (started : os.Started) (H : Type) (enc : TypeId × Value → H) :
    ReturnsInHanded {} Tryz.checked os 7 .any (Rows.fnExactAnswersSpec.pre6 enc Tryz.prog Tryz.f7 Rows.fnExactAnswersRow.domain false) (Rows.fnExactAnswersSpec.post enc Tryz.prog Tryz.f7 false true false false) := by
  refine returnsInHanded_of_change (C := Tryz.checked) own started (by kernel_rfl) Tryz.func7
    (ChangeSpec.witness6 (enc := enc) (C := Tryz.checked) false ⟨#[], #[.agg #[.int .i64 0, .slice none 0 0, .slice none 0 0, .bool false, .slice none 0 0, .slice none 0 0, .slice none 0 0, .slice none 0 0]], []⟩ 8 (by kernel_rfl) (by kernel_rfl) (by kernel_rfl) (by kernel_rfl)) ?_
  intro W base args ds gs before hval0 hW hcnd _
  have hval : ∀ (j : Nat) t v, Tryz.f7.params[j]? = some t → args[j]? = some v → Value.okWide Tryz.prog W .any base t v := hval0
  have hW' := hW
  obtain ⟨p, q, hA0, hV, rfl, hfz, hnd⟩ := hW
  have hA : DataW.TrodAll enc Tryz.prog W 0 (fun _ => true) true Tryz.f7.params.toList args.toList ds p := hA0
  rw [Tryz.params7] at hA hval
  obtain ⟨v0, vs0, d0, ds0, p0, q0, hargs, rfl, rfl, h0, r0⟩ := trodAll_cons hA
  obtain ⟨rfl, rfl, rfl⟩ := trodAll_nil r0
  obtain rfl : args = #[v0] := by cases args; simp_all
  obtain ⟨rfl, rfl⟩ := trodVars_none hV
  have k0 := h0
  have lt0 : ∀ x ∈ p0, x.block < W.heap.size := by obtain ⟨m, hm⟩ := k0; exact DataW.trod_lt m _ _ _ hm
  obtain ⟨cs0, x0, rfl, w0⟩ := arg_struct Tryz.underlying28 opens_prog (hval 0 28 v0 rfl rfl) h0
  clear hA0 hval0
  refine (law w0).mono fun e W' ⟨he, bel⟩ => ?_
  subst he
  exact ⟨_, rfl, _, _, _, [], _, [], hW', trodAll_mk1 (shut_bool Tryz.underlying4 _), (trodAll_cons_mk (Below.trod laidOut (by kernel_rfl) (of_decide_eq_true (by kernel_rfl)) k0 bel lt0) trodAll_mk0), rfl, bel.frame _, fun h => by cases h⟩

theorem over : Rows.fnExactAnswersRow.holds Tryz.pinned (OpenSpec.ofChange Rows.fnExactAnswersSpec) :=
  OpenClaim.holds_of_wide 7 Tryz.f7 rfl rfl rfl rfl rfl rfl rfl ⟨rfl, rfl, rfl, rfl, rfl⟩ rfl rfl rfl rfl rfl (by kernel_rfl) Tryz.func7 (by kernel_rfl)
    (of_decide_eq_true (by kernel_rfl)) (by unfold Func.isWrapper; first | (rw [if_pos (by decide +kernel)]; kernel_rfl) | (rw [if_neg (by decide +kernel)]; exact ⟨rfl, rfl⟩))
    (fun os started H enc _ => lifted os started H enc)

theorem proved : Rows.FnExactAnswersSaid := over
end Go.Proofs.YtiddellnmfckfaaGreat.fnExactAnswers
