/-
  laws.FnExactPlain returns true, whatever its arguments; they read afterwards as before.
  Conditions: none (what every row of this form says by itself: the arguments can be read as data).
-/
import Derived.Test.YtfjcmnnddhomjaaLawsProg
import Derived.Test.YtfjcmnnddhomjaaLawsSz
import Derived.Test.YtfjcmnnddhomjaaLawsEq
import Derived.Test.YtfjcmnnddhomjaaWfI
import Derived.Test.YtfjcmnnddhomjaaWfS
import Derived.Deep.RegionHeld3
import Derived.Test.YtfjcmnnddhomjaaOpen
import Derived.Test.YtfjcmnnddhomjaaRows
import Derived.WalkKit
import Derived.ProofKit
import Derived.OpenShut
import Derived.ShutString
import Derived.ChangeOld
import Derived.Below
namespace Go.Proofs.Ytfjcmnnddhomjaa.fnExactPlain
open Go.ChangeShapes Go.WideShapes Go.ChangeAt Go.RowKit
open Go.ChangeMaps (open_string shut_string)
set_option linter.unusedVariables false
set_option linter.unusedSimpArgs false

theorem own : ownKnob Try.prog.godebug = none := by kernel_rfl
theorem laidOut : laidOutB Try.prog = true := by kernel_rfl

set_option maxRecDepth 100000 in
set_option maxHeartbeats 2000000 in
theorem law {cs : List Value} {p : ProgD} {w : World} (h : Rd.R w cs p) :
    Calls Try.prog 3 #[.agg cs.toArray] w fun e w' => e = .returned (.bool true) ∧ Below w.heap.size w w' := by
  obtain ⟨e0, e1, e2, e3, e4, e5, e6, e7, rfl⟩ := list8 (Rd.len h)
  have t0 : Below w.heap.size w (w.alloc (.cells #[e0, e1, e2, e3, e4, e5, e6, e7] 28)) := (Below.refl _ _).alloc (by simp) _
  have CXA := Cells.new w [e0, e1, e2, e3, e4, e5, e6, e7] 28
  go_enter Try.func3, Try.ntmps3
  go_wp2_with fail
  refine (szProg_calls 1048576 (Rd.mono t0 h) (by omega) (by omega)).mono ?_
  rintro e w1 ⟨⟨n1, rfl, _, m1, q1⟩, b1⟩
  have t1 := t0.step b1
  by_cases n01 : 0 ≤ n1
  case neg =>
    have hng : n1 < 0 := by omega
    clear n01 q1
    go_wp2
    go_ret
    exact ⟨rfl, t1⟩
  have s1 := Lib.hid (q1 n01)
  clear q1
  replace CXA := CXA.later b1
  obtain ⟨c0Aat1, c1Aat1, c2Aat1, c3Aat1, c4Aat1, c5Aat1, c6Aat1, c7Aat1⟩ := cells8 CXA
  have hlAat1 := CXA.lt
  go_wp2_with fail
  refine (toProg_calls (Rd.mono t1 h) s1.out).mono ?_
  rintro e w2 ⟨cs2, rfl, o2, b2⟩
  have t2 := t1.step b2
  have o2 := o2.shut
  replace CXA := CXA.later b2
  obtain ⟨c0Aat2, c1Aat2, c2Aat2, c3Aat2, c4Aat2, c5Aat2, c6Aat2, c7Aat2⟩ := cells8 CXA
  have hlAat2 := CXA.lt
  go_wp2_with fail
  refine (specPlain_calls o2.rd).mono ?_
  rintro e w3 ⟨rfl, b3⟩
  have t3 := t2.step b3
  replace CXA := CXA.later b3
  obtain ⟨c0Aat3, c1Aat3, c2Aat3, c3Aat3, c4Aat3, c5Aat3, c6Aat3, c7Aat3⟩ := cells8 CXA
  have hlAat3 := CXA.lt
  go_wp2_with fail
  refine (toProg_calls (Rd.mono t3 h) s1.out).mono ?_
  rintro e w4 ⟨cs4, rfl, o4, b4⟩
  have t4 := t3.step b4
  have o4 := o4.shut
  replace CXA := CXA.later b4
  obtain ⟨c0Aat4, c1Aat4, c2Aat4, c3Aat4, c4Aat4, c5Aat4, c6Aat4, c7Aat4⟩ := cells8 CXA
  have hlAat4 := CXA.lt
  have l4 := Rd.one o4.rd
  obtain ⟨x04, x14, x24, x34, x44, x54, x64, x74, rfl⟩ := list8 (Rd.len o4.rd)
  have st04 := sto Try.prog (l4 x04 (by simp))
  have st14 := sto Try.prog (l4 x14 (by simp))
  have st24 := sto Try.prog (l4 x24 (by simp))
  have st34 := sto Try.prog (l4 x34 (by simp))
  have st44 := sto Try.prog (l4 x44 (by simp))
  have st54 := sto Try.prog (l4 x54 (by simp))
  have st64 := sto Try.prog (l4 x64 (by simp))
  have st74 := sto Try.prog (l4 x74 (by simp))
  have o4 := o4.alloc (.cells #[x04, x14, x24, x34, x44, x54, x64, x74] 36)
  have CX4 := Cells.new w4 [x04, x14, x24, x34, x44, x54, x64, x74] 36
  replace CXA := CXA.alloc (.cells #[x04, x14, x24, x34, x44, x54, x64, x74] 36)
  have t4 := t4.alloc t4.size (.cells #[x04, x14, x24, x34, x44, x54, x64, x74] 36)
  clear l4
  go_wp2_with fail
  refine (implPlain_calls o4.rd).mono ?_
  rintro e w5 ⟨rfl, b5⟩
  have t5 := t4.step b5
  replace CXA := CXA.later b5
  obtain ⟨c0Aat5, c1Aat5, c2Aat5, c3Aat5, c4Aat5, c5Aat5, c6Aat5, c7Aat5⟩ := cells8 CXA
  have hlAat5 := CXA.lt
  replace CX4 := CX4.later b5
  obtain ⟨c04at5, c14at5, c24at5, c34at5, c44at5, c54at5, c64at5, c74at5⟩ := cells8 CX4
  have hl4at5 := CX4.lt
  go_wp2_with fail
  go_region_held3 (fun w' => (w'.cell? ⟨w4.heap.size, 0, none⟩ = some x04 ∧ w'.cell? ⟨w4.heap.size, 1, none⟩ = some x14 ∧ w'.cell? ⟨w4.heap.size, 2, none⟩ = some x24 ∧ w'.cell? ⟨w4.heap.size, 3, none⟩ = some x34 ∧ w'.cell? ⟨w4.heap.size, 4, none⟩ = some x44 ∧ w'.cell? ⟨w4.heap.size, 5, none⟩ = some x54 ∧ w'.cell? ⟨w4.heap.size, 6, none⟩ = some x64 ∧ w'.cell? ⟨w4.heap.size, 7, none⟩ = some x74) ∧ (w'.cell? ⟨w.heap.size, 0, none⟩ = some e0 ∧ w'.cell? ⟨w.heap.size, 1, none⟩ = some e1 ∧ w'.cell? ⟨w.heap.size, 2, none⟩ = some e2 ∧ w'.cell? ⟨w.heap.size, 3, none⟩ = some e3 ∧ w'.cell? ⟨w.heap.size, 4, none⟩ = some e4 ∧ w'.cell? ⟨w.heap.size, 5, none⟩ = some e5 ∧ w'.cell? ⟨w.heap.size, 6, none⟩ = some e6 ∧ w'.cell? ⟨w.heap.size, 7, none⟩ = some e7))
    (first | exact ⟨cells8 CX4, cells8 CXA⟩ | exact ⟨cells8 (CX4.drew.later b6), cells8 (CXA.drew.later b6)⟩ | exact ⟨cells8 ((CX4.drew.later b6).later b7), cells8 ((CXA.drew.later b6).later b7)⟩)
    (first | (go_at_call 7; refine (toProg_calls (Rd.mono t5.drew h) s1.out).mono ?_; rintro e w6 ⟨cs6, rfl, o6, b6⟩) | (go_at_call 9; refine (eqProg_calls ((o4.later b5).drew.later b6).rd o6.rd).mono ?_; rintro e w7 ⟨rfl, b7⟩))
  have t7 := (t5.drew.step b6).step b7
  go_wp2
  go_ret
  exact ⟨rfl, t7⟩

set_option maxRecDepth 100000 in
theorem lifted (os : Os) (started : os.Started) (H : Type) (enc : TypeId × Value → H) :
    ReturnsInHanded {} Try.checked os 3 .any (Rows.fnExactPlainSpec.pre6 enc Try.prog Try.f3 Rows.fnExactPlainRow.domain false) (Rows.fnExactPlainSpec.post enc Try.prog Try.f3 false true false false) := by
  refine returnsInHanded_of_change (C := Try.checked) own started (by kernel_rfl) Try.func3
    (ChangeSpec.witness6 (enc := enc) (C := Try.checked) false ⟨#[], #[.agg #[.int .i64 0, .slice none 0 0, .slice none 0 0, .bool false, .slice none 0 0, .slice none 0 0, .slice none 0 0, .slice none 0 0]], []⟩ 8 (by kernel_rfl) (by kernel_rfl) (by kernel_rfl) (by kernel_rfl)) ?_
  intro W base args ds gs before hval0 hW hcnd _
  have hval : ∀ (j : Nat) t v, Try.f3.params[j]? = some t → args[j]? = some v → Value.okWide Try.prog W .any base t v := hval0
  have hW' := hW
  obtain ⟨p, q, hA0, hV, rfl, hfz, hnd⟩ := hW
  have hA : DataW.TrodAll enc Try.prog W 0 (fun _ => true) true Try.f3.params.toList args.toList ds p := hA0
  rw [Try.params3] at hA hval
  obtain ⟨v0, vs0, d0, ds0, p0, q0, hargs, rfl, rfl, h0, r0⟩ := trodAll_cons hA
  obtain ⟨rfl, rfl, rfl⟩ := trodAll_nil r0
  obtain rfl : args = #[v0] := by cases args; simp_all
  obtain ⟨rfl, rfl⟩ := trodVars_none hV
  have k0 := h0
  have lt0 : ∀ x ∈ p0, x.block < W.heap.size := by obtain ⟨m, hm⟩ := k0; exact DataW.trod_lt m _ _ _ hm
  obtain ⟨cs0, x0, rfl, w0⟩ := arg_struct Try.underlying28 opens_prog (hval 0 28 v0 rfl rfl) h0
  clear hA0 hval0
  refine (law w0).mono fun e W' ⟨he, bel⟩ => ?_
  subst he
  exact ⟨_, rfl, _, _, _, [], _, [], hW', trodAll_mk1 (shut_bool Try.underlying4 _), (trodAll_cons_mk (Below.trod laidOut (by kernel_rfl) (of_decide_eq_true (by kernel_rfl)) k0 bel lt0) trodAll_mk0), rfl, bel.frame _, fun h => by cases h⟩

theorem over : Rows.fnExactPlainRow.holds Try.pinned (OpenSpec.ofChange Rows.fnExactPlainSpec) :=
  OpenClaim.holds_of_wide 3 Try.f3 rfl rfl rfl rfl rfl rfl rfl ⟨rfl, rfl, rfl, rfl, rfl⟩ rfl rfl rfl rfl rfl (by kernel_rfl) Try.func3 (by kernel_rfl)
    (of_decide_eq_true (by kernel_rfl)) (by unfold Func.isWrapper; first | (rw [if_pos (by decide +kernel)]; kernel_rfl) | (rw [if_neg (by decide +kernel)]; exact ⟨rfl, rfl⟩))
    (fun os started H enc _ => lifted os started H enc)

theorem proved : Rows.FnExactPlainSaid := over
end Go.Proofs.Ytfjcmnnddhomjaa.fnExactPlain
