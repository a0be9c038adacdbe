/-
  laws.FnExactIsSplit returns true, whatever its arguments; they read afterwards as before.
  Conditions: none (what every row of this form says by itself: the arguments can be read as data).
-/
import Derived.Test.YtjainjpcpnoikaaLawsP
import Derived.Test.YtjainjpcpnoikaaSplC
import Derived.Test.YtjainjpcpnoikaaSplS
import Derived.Deep.RegionHeld3
import Derived.Test.YtjainjpcpnoikaaOpen
import Derived.Test.YtjainjpcpnoikaaRows
import Derived.WalkKit
import Derived.ProofKit
import Derived.OpenShut
import Derived.ShutString
import Derived.ChangeOld
import Derived.Below
namespace Go.Proofs.Ytjainjpcpnoikaa.fnExactIsSplit
open Go.ChangeShapes Go.WideShapes Go.ChangeAt Go.RowKit
open Go.ChangeMaps (open_string shut_string)
set_option linter.unusedVariables false
set_option linter.unusedSimpArgs false

theorem own : ownKnob Try.prog.godebug = none := by kernel_rfl
theorem laidOut : laidOutB Try.prog = true := by kernel_rfl

set_option maxRecDepth 100000 in
set_option maxHeartbeats 2000000 in
theorem law {cs : List Value} {p : ProgD} {v : Value} {xs : List Int} {w : World} (h : Rd.R w cs p) (g : RdL w [v] xs) :
    Calls Try.prog 3 #[.agg cs.toArray, v] w fun e w' => e = .returned (.bool true) ∧ Below w.heap.size w w' := by
  obtain ⟨e0, e1, e2, e3, e4, e5, e6, e7, rfl⟩ := list8 (Rd.len h)
  obtain ⟨ax, cx, rfl, _, hx⟩ := g.sl
  have hm := hx.1
  have t0 : Below w.heap.size w (w.alloc (.cells #[e0, e1, e2, e3, e4, e5, e6, e7] 28)) := (Below.refl _ _).alloc (by simp) _
  by_cases hbig : 1048576 < xs.length
  · have hb' : (1048576 : Int) < (xs.length : Int) := by omega
    go_enter Try.func3, Try.ntmps3
    go_wp2
    go_ret
    exact ⟨rfl, t0⟩
  have hb' : (xs.length : Int) ≤ 1048576 := by omega
  have sx : Hid (Sm.S xs) := ⟨by omega, fun _ _ => trivial⟩
  clear hbig hx
  have CXA := Cells.new w [e0, e1, e2, e3, e4, e5, e6, e7] 28
  go_enter Try.func3, Try.ntmps3
  go_wp2_with fail
  refine (szProg_calls 1048576 (Rd.mono t0 h) (by omega) (by omega)).mono ?_
  rintro e w1 ⟨⟨n1, rfl, _, m1, q1⟩, b1⟩
  have t1 := t0.step b1
  by_cases n01 : 0 ≤ n1
  case neg =>
    have hng : n1 < 0 := by omega
    clear n01 q1
    go_wp2
    go_ret
    exact ⟨rfl, t1⟩
  have s1 := Lib.hid (q1 n01)
  clear q1
  replace CXA := CXA.later b1
  obtain ⟨c0Aat1, c1Aat1, c2Aat1, c3Aat1, c4Aat1, c5Aat1, c6Aat1, c7Aat1⟩ := cells8 CXA
  have hlAat1 := CXA.lt
  go_wp2_with fail
  refine (toProg_calls (Rd.mono t1 h) s1.out).mono ?_
  rintro e w2 ⟨cs2, rfl, o2, b2⟩
  have t2 := t1.step b2
  have o2 := o2.shut
  replace CXA := CXA.later b2
  obtain ⟨c0Aat2, c1Aat2, c2Aat2, c3Aat2, c4Aat2, c5Aat2, c6Aat2, c7Aat2⟩ := cells8 CXA
  have hlAat2 := CXA.lt
  go_wp2_with fail
  refine (toIntSO_calls (Rd.mono (α := List Int) t2 g) sx.out).mono ?_
  rintro e w3 ⟨v3, rfl, o3, b3⟩
  have t3 := t2.step b3
  have o3 := o3.shut
  replace CXA := CXA.later b3
  obtain ⟨c0Aat3, c1Aat3, c2Aat3, c3Aat3, c4Aat3, c5Aat3, c6Aat3, c7Aat3⟩ := cells8 CXA
  have hlAat3 := CXA.lt
  go_wp2_with fail
  refine (specIsSplit_calls (o2.later b3).rd o3.rd).mono ?_
  rintro e w4 ⟨rfl, b4⟩
  have t4 := t3.step b4
  replace CXA := CXA.later b4
  obtain ⟨c0Aat4, c1Aat4, c2Aat4, c3Aat4, c4Aat4, c5Aat4, c6Aat4, c7Aat4⟩ := cells8 CXA
  have hlAat4 := CXA.lt
  go_wp2_with fail
  refine (toProg_calls (Rd.mono t4 h) s1.out).mono ?_
  rintro e w5 ⟨cs5, rfl, o5, b5⟩
  have t5 := t4.step b5
  have o5 := o5.shut
  replace CXA := CXA.later b5
  obtain ⟨c0Aat5, c1Aat5, c2Aat5, c3Aat5, c4Aat5, c5Aat5, c6Aat5, c7Aat5⟩ := cells8 CXA
  have hlAat5 := CXA.lt
  have l5 := Rd.one o5.rd
  obtain ⟨x05, x15, x25, x35, x45, x55, x65, x75, rfl⟩ := list8 (Rd.len o5.rd)
  have st05 := sto Try.prog (l5 x05 (by simp))
  have st15 := sto Try.prog (l5 x15 (by simp))
  have st25 := sto Try.prog (l5 x25 (by simp))
  have st35 := sto Try.prog (l5 x35 (by simp))
  have st45 := sto Try.prog (l5 x45 (by simp))
  have st55 := sto Try.prog (l5 x55 (by simp))
  have st65 := sto Try.prog (l5 x65 (by simp))
  have st75 := sto Try.prog (l5 x75 (by simp))
  have o5 := o5.alloc (.cells #[x05, x15, x25, x35, x45, x55, x65, x75] 36)
  have CX5 := Cells.new w5 [x05, x15, x25, x35, x45, x55, x65, x75] 36
  replace CXA := CXA.alloc (.cells #[x05, x15, x25, x35, x45, x55, x65, x75] 36)
  have t5 := t5.alloc t5.size (.cells #[x05, x15, x25, x35, x45, x55, x65, x75] 36)
  clear l5
  go_wp2_with fail
  refine (toIntSO_calls (Rd.mono (α := List Int) t5 g) sx.out).mono ?_
  rintro e w6 ⟨v6, rfl, o6, b6⟩
  have t6 := t5.step b6
  have o6 := o6.shut
  replace CXA := CXA.later b6
  obtain ⟨c0Aat6, c1Aat6, c2Aat6, c3Aat6, c4Aat6, c5Aat6, c6Aat6, c7Aat6⟩ := cells8 CXA
  have hlAat6 := CXA.lt
  replace CX5 := CX5.later b6
  obtain ⟨c05at6, c15at6, c25at6, c35at6, c45at6, c55at6, c65at6, c75at6⟩ := cells8 CX5
  have hl5at6 := CX5.lt
  obtain ⟨a6, n6, rfl, _⟩ := retO o6.own
  go_wp2_with fail
  refine (implIsSplit_calls (o5.later b6).rd o6.rd).mono ?_
  rintro e w7 ⟨rfl, b7⟩
  have t7 := t6.step b7
  replace CXA := CXA.later b7
  obtain ⟨c0Aat7, c1Aat7, c2Aat7, c3Aat7, c4Aat7, c5Aat7, c6Aat7, c7Aat7⟩ := cells8 CXA
  have hlAat7 := CXA.lt
  replace CX5 := CX5.later b7
  obtain ⟨c05at7, c15at7, c25at7, c35at7, c45at7, c55at7, c65at7, c75at7⟩ := cells8 CX5
  have hl5at7 := CX5.lt
  go_wp2_with fail
  go_region_held3 (fun w' => (w'.cell? ⟨w5.heap.size, 0, none⟩ = some x05 ∧ w'.cell? ⟨w5.heap.size, 1, none⟩ = some x15 ∧ w'.cell? ⟨w5.heap.size, 2, none⟩ = some x25 ∧ w'.cell? ⟨w5.heap.size, 3, none⟩ = some x35 ∧ w'.cell? ⟨w5.heap.size, 4, none⟩ = some x45 ∧ w'.cell? ⟨w5.heap.size, 5, none⟩ = some x55 ∧ w'.cell? ⟨w5.heap.size, 6, none⟩ = some x65 ∧ w'.cell? ⟨w5.heap.size, 7, none⟩ = some x75) ∧ (w'.cell? ⟨w.heap.size, 0, none⟩ = some e0 ∧ w'.cell? ⟨w.heap.size, 1, none⟩ = some e1 ∧ w'.cell? ⟨w.heap.size, 2, none⟩ = some e2 ∧ w'.cell? ⟨w.heap.size, 3, none⟩ = some e3 ∧ w'.cell? ⟨w.heap.size, 4, none⟩ = some e4 ∧ w'.cell? ⟨w.heap.size, 5, none⟩ = some e5 ∧ w'.cell? ⟨w.heap.size, 6, none⟩ = some e6 ∧ w'.cell? ⟨w.heap.size, 7, none⟩ = some e7))
    (first | exact ⟨cells8 CX5, cells8 CXA⟩ | exact ⟨cells8 (CX5.drew.later b8), cells8 (CXA.drew.later b8)⟩ | exact ⟨cells8 ((CX5.drew.later b8).later b9), cells8 ((CXA.drew.later b8).later b9)⟩)
    (first | (go_at_call 9; refine (toProg_calls (Rd.mono t7.drew h) s1.out).mono ?_; rintro e w8 ⟨cs8, rfl, o8, b8⟩) | (go_at_call 12; refine (eqProg_calls (((o5.later b6).later b7).drew.later b8).rd o8.rd).mono ?_; rintro e w9 ⟨rfl, b9⟩))
  have t9 := (t7.drew.step b8).step b9
  have CXA := ((CXA.drew.later b8).later b9)
  go_wp2_with fail
  refine (toIntSO_calls (Rd.mono (α := List Int) t9 g) sx.out).mono ?_
  rintro e w10 ⟨v10, rfl, o10, b10⟩
  have t10 := t9.step b10
  have o10 := o10.shut
  go_wp2_with fail
  refine (eqIntSR_calls (((((o6.later b7).drew.later b8).later b9).later b10).rd) o10.rd).mono ?_
  rintro e w11 ⟨rfl, b11⟩
  have t11 := t10.step b11
  go_wp2
  go_ret
  exact ⟨rfl, t11⟩

set_option maxRecDepth 100000 in
theorem lifted (os : Os) (started : os.Started) (H : Type) (enc : TypeId × Value → H) :
    ReturnsInHanded {} Try.checked os 3 .any (Rows.fnExactIsSplitSpec.pre6 enc Try.prog Try.f3 Rows.fnExactIsSplitRow.domain false) (Rows.fnExactIsSplitSpec.post enc Try.prog Try.f3 false true false false) := by
  refine returnsInHanded_of_change (C := Try.checked) own started (by kernel_rfl) Try.func3
    (ChangeSpec.witness6 (enc := enc) (C := Try.checked) false ⟨#[], #[.agg #[.int .i64 0, .slice none 0 0, .slice none 0 0, .bool false, .slice none 0 0, .slice none 0 0, .slice none 0 0, .slice none 0 0], .slice none 0 0], []⟩ 8 (by kernel_rfl) (by kernel_rfl) (by kernel_rfl) (by kernel_rfl)) ?_
  intro W base args ds gs before hval0 hW hcnd _
  have hval : ∀ (j : Nat) t v, Try.f3.params[j]? = some t → args[j]? = some v → Value.okWide Try.prog W .any base t v := hval0
  have hW' := hW
  obtain ⟨p, q, hA0, hV, rfl, hfz, hnd⟩ := hW
  have hA : DataW.TrodAll enc Try.prog W 0 (fun _ => true) true Try.f3.params.toList args.toList ds p := hA0
  rw [Try.params3] at hA hval
  obtain ⟨v0, vs0, d0, ds0, p0, q0, hargs, rfl, rfl, h0, r0⟩ := trodAll_cons hA
  obtain ⟨v1, vs1, d1, ds1, p1, q1, rfl, rfl, rfl, h1, r1⟩ := trodAll_cons r0
  obtain ⟨rfl, rfl, rfl⟩ := trodAll_nil r1
  obtain rfl : args = #[v0, v1] := by cases args; simp_all
  obtain ⟨rfl, rfl⟩ := trodVars_none hV
  have k0 := h0
  have lt0 : ∀ x ∈ p0, x.block < W.heap.size := by obtain ⟨m, hm⟩ := k0; exact DataW.trod_lt m _ _ _ hm
  obtain ⟨cs0, x0, rfl, w0⟩ := arg_struct Try.underlying28 opens_prog (hval 0 28 v0 rfl rfl) h0
  have k1 := h1
  have lt1 : ∀ x ∈ p1, x.block < W.heap.size := by obtain ⟨m, hm⟩ := k1; exact DataW.trod_lt m _ _ _ hm
  obtain ⟨x1, w1⟩ := arg_slice Try.underlying24 opens_ints (hval 1 24 v1 rfl rfl) h1
  clear hA0 hval0
  refine (law w0 w1).mono fun e W' ⟨he, bel⟩ => ?_
  subst he
  exact ⟨_, rfl, _, _, _, [], _, [], hW', trodAll_mk1 (shut_bool Try.underlying4 _), (trodAll_cons_mk (Below.trod laidOut (by kernel_rfl) (of_decide_eq_true (by kernel_rfl)) k0 bel lt0) (trodAll_cons_mk (Below.trod laidOut (by kernel_rfl) (of_decide_eq_true (by kernel_rfl)) k1 bel lt1) trodAll_mk0)), rfl, bel.frame _, fun h => by cases h⟩

theorem over : Rows.fnExactIsSplitRow.holds Try.pinned (OpenSpec.ofChange Rows.fnExactIsSplitSpec) :=
  OpenClaim.holds_of_wide 3 Try.f3 rfl rfl rfl rfl rfl rfl rfl ⟨rfl, rfl, rfl, rfl, rfl⟩ rfl rfl rfl rfl rfl (by kernel_rfl) Try.func3 (by kernel_rfl)
    (of_decide_eq_true (by kernel_rfl)) (by unfold Func.isWrapper; first | (rw [if_pos (by decide +kernel)]; kernel_rfl) | (rw [if_neg (by decide +kernel)]; exact ⟨rfl, rfl⟩))
    (fun os started H enc _ => lifted os started H enc)

theorem proved : Rows.FnExactIsSplitSaid := over
end Go.Proofs.Ytjainjpcpnoikaa.fnExactIsSplit
