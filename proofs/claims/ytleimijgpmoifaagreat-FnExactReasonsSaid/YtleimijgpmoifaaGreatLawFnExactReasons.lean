/-
  laws.FnExactReasons returns true, whatever its arguments; they read afterwards as before.
  Conditions: none (what every row of this form says by itself: the arguments can be read as data).
-/
import Derived.Test.YtleimijgpmoifaaGreatLawsP
import Derived.Test.YtleimijgpmoifaaGreatWhyQ
import Derived.Test.YtleimijgpmoifaaGreatWhyP
import Derived.Deep.RegionHeld3
import Derived.Test.YtleimijgpmoifaaGreatOpen
import Derived.Test.YtleimijgpmoifaaGreatRows
import Derived.WalkKit
import Derived.ProofKit
import Derived.OpenShut
import Derived.ShutString
import Derived.ChangeOld
import Derived.Below
namespace Go.Proofs.YtleimijgpmoifaaGreat.fnExactReasons
open Go.ChangeShapes Go.WideShapes Go.ChangeAt Go.RowKit
open Go.ChangeMaps (open_string shut_string)
set_option linter.unusedVariables false
set_option linter.unusedSimpArgs false

theorem own : ownKnob Tryz.prog.godebug = none := by kernel_rfl
theorem laidOut : laidOutB Tryz.prog = true := by kernel_rfl

set_option maxRecDepth 100000 in
set_option maxHeartbeats 2000000 in
theorem law {cs : List Value} {p : ProgD} {v v2 : Value} {xs : List Int} {l : List (Int × Int)} {w : World} (h : Rd.R w cs p) (g : RdL w [v] xs) (g2 : RdL w [v2] l) :
    Calls Tryz.prog 8 #[.agg cs.toArray, v, v2] w fun e w' => e = .returned (.bool true) ∧ Below w.heap.size w w' := by
  obtain ⟨e0, e1, e2, e3, e4, e5, e6, e7, rfl⟩ := list8 (Rd.len h)
  obtain ⟨ax, cx, rfl, _, hx⟩ := g.sl
  have hm := hx.1
  have t0 : Below w.heap.size w (w.alloc (.cells #[e0, e1, e2, e3, e4, e5, e6, e7] 28)) := (Below.refl _ _).alloc (by simp) _
  by_cases hbig : 1048576 < xs.length
  · have hb' : (1048576 : Int) < (xs.length : Int) := by omega
    go_enter Tryz.func8, Tryz.ntmps8
    go_wp2
    go_ret
    exact ⟨rfl, t0⟩
  have hb' : (xs.length : Int) ≤ 1048576 := by omega
  have sx : Hid (Sm.S xs) := ⟨by omega, fun _ _ => trivial⟩
  clear hbig hx
  have CXA := Cells.new w [e0, e1, e2, e3, e4, e5, e6, e7] 28
  go_enter Tryz.func8, Tryz.ntmps8
  go_wp2_with fail
  refine (szProg_calls 1048576 (Rd.mono t0 h) (by omega) (by omega)).mono ?_
  rintro e w1 ⟨⟨n1, rfl, _, m1, q1⟩, b1⟩
  have t1 := t0.step b1
  by_cases n01 : 0 ≤ n1
  case neg =>
    have hng : n1 < 0 := by omega
    clear n01 q1
    go_wp2
    go_ret
    exact ⟨rfl, t1⟩
  have s1 := Lib.hid (q1 n01)
  clear q1
  replace CXA := CXA.later b1
  obtain ⟨c0Aat1, c1Aat1, c2Aat1, c3Aat1, c4Aat1, c5Aat1, c6Aat1, c7Aat1⟩ := cells8 CXA
  have hlAat1 := CXA.lt
  go_wp2_with fail
  refine (szReasonS_calls n1 (Rd.mono (α := List (Int × Int)) t1 g2) n01 m1).mono ?_
  rintro e w' ⟨⟨n2, rfl, _, m2, q2⟩, rfl⟩
  by_cases n02 : 0 ≤ n2
  case neg =>
    have hng : n2 < 0 := by omega
    clear n02 q2
    go_wp2
    go_ret
    exact ⟨rfl, t1⟩
  have s2 := Lib.hid (q2 n02)
  clear q2
  go_wp2_with fail
  refine (toProg_calls (Rd.mono t1 h) s1.out).mono ?_
  rintro e w2 ⟨cs2, rfl, o2, b2⟩
  have t2 := t1.step b2
  have o2 := o2.shut
  replace CXA := CXA.later b2
  obtain ⟨c0Aat2, c1Aat2, c2Aat2, c3Aat2, c4Aat2, c5Aat2, c6Aat2, c7Aat2⟩ := cells8 CXA
  have hlAat2 := CXA.lt
  go_wp2_with fail
  refine (toIntSO_calls (Rd.mono (α := List Int) t2 g) sx.out).mono ?_
  rintro e w3 ⟨v3, rfl, o3, b3⟩
  have t3 := t2.step b3
  have o3 := o3.shut
  replace CXA := CXA.later b3
  obtain ⟨c0Aat3, c1Aat3, c2Aat3, c3Aat3, c4Aat3, c5Aat3, c6Aat3, c7Aat3⟩ := cells8 CXA
  have hlAat3 := CXA.lt
  go_wp2_with fail
  refine (toReasonS_calls (Rd.mono (α := List (Int × Int)) t3 g2) s2.out).mono ?_
  rintro e w4 ⟨v4, rfl, o4, b4⟩
  have t4 := t3.step b4
  have o4 := o4.shut
  replace CXA := CXA.later b4
  obtain ⟨c0Aat4, c1Aat4, c2Aat4, c3Aat4, c4Aat4, c5Aat4, c6Aat4, c7Aat4⟩ := cells8 CXA
  have hlAat4 := CXA.lt
  go_wp2_with fail
  refine (specReasons_calls ((o2.later b3).later b4).rd (o3.later b4).rd o4.rd).mono ?_
  rintro e w5 ⟨rfl, b5⟩
  have t5 := t4.step b5
  replace CXA := CXA.later b5
  obtain ⟨c0Aat5, c1Aat5, c2Aat5, c3Aat5, c4Aat5, c5Aat5, c6Aat5, c7Aat5⟩ := cells8 CXA
  have hlAat5 := CXA.lt
  go_wp2_with fail
  refine (toProg_calls (Rd.mono t5 h) s1.out).mono ?_
  rintro e w6 ⟨cs6, rfl, o6, b6⟩
  have t6 := t5.step b6
  have o6 := o6.shut
  replace CXA := CXA.later b6
  obtain ⟨c0Aat6, c1Aat6, c2Aat6, c3Aat6, c4Aat6, c5Aat6, c6Aat6, c7Aat6⟩ := cells8 CXA
  have hlAat6 := CXA.lt
  have l6 := Rd.one o6.rd
  obtain ⟨x06, x16, x26, x36, x46, x56, x66, x76, rfl⟩ := list8 (Rd.len o6.rd)
  have st06 := sto Tryz.prog (l6 x06 (by simp))
  have st16 := sto Tryz.prog (l6 x16 (by simp))
  have st26 := sto Tryz.prog (l6 x26 (by simp))
  have st36 := sto Tryz.prog (l6 x36 (by simp))
  have st46 := sto Tryz.prog (l6 x46 (by simp))
  have st56 := sto Tryz.prog (l6 x56 (by simp))
  have st66 := sto Tryz.prog (l6 x66 (by simp))
  have st76 := sto Tryz.prog (l6 x76 (by simp))
  have o6 := o6.alloc (.cells #[x06, x16, x26, x36, x46, x56, x66, x76] 36)
  have CX6 := Cells.new w6 [x06, x16, x26, x36, x46, x56, x66, x76] 36
  replace CXA := CXA.alloc (.cells #[x06, x16, x26, x36, x46, x56, x66, x76] 36)
  have t6 := t6.alloc t6.size (.cells #[x06, x16, x26, x36, x46, x56, x66, x76] 36)
  clear l6
  go_wp2_with fail
  refine (toIntSO_calls (Rd.mono (α := List Int) t6 g) sx.out).mono ?_
  rintro e w7 ⟨v7, rfl, o7, b7⟩
  have t7 := t6.step b7
  have o7 := o7.shut
  replace CXA := CXA.later b7
  obtain ⟨c0Aat7, c1Aat7, c2Aat7, c3Aat7, c4Aat7, c5Aat7, c6Aat7, c7Aat7⟩ := cells8 CXA
  have hlAat7 := CXA.lt
  replace CX6 := CX6.later b7
  obtain ⟨c06at7, c16at7, c26at7, c36at7, c46at7, c56at7, c66at7, c76at7⟩ := cells8 CX6
  have hl6at7 := CX6.lt
  obtain ⟨a7, n7, rfl, _⟩ := retO o7.own
  go_wp2_with fail
  refine (toReasonS_calls (Rd.mono (α := List (Int × Int)) t7 g2) s2.out).mono ?_
  rintro e w8 ⟨v8, rfl, o8, b8⟩
  have t8 := t7.step b8
  have o8 := o8.shut
  replace CXA := CXA.later b8
  obtain ⟨c0Aat8, c1Aat8, c2Aat8, c3Aat8, c4Aat8, c5Aat8, c6Aat8, c7Aat8⟩ := cells8 CXA
  have hlAat8 := CXA.lt
  replace CX6 := CX6.later b8
  obtain ⟨c06at8, c16at8, c26at8, c36at8, c46at8, c56at8, c66at8, c76at8⟩ := cells8 CX6
  have hl6at8 := CX6.lt
  obtain ⟨a8, n8, rfl, _⟩ := retO o8.own
  go_wp2_with fail
  refine (implReasons_calls ((o6.later b7).later b8).rd (o7.later b8).rd o8.rd).mono ?_
  rintro e w9 ⟨rfl, b9⟩
  have t9 := t8.step b9
  replace CXA := CXA.later b9
  obtain ⟨c0Aat9, c1Aat9, c2Aat9, c3Aat9, c4Aat9, c5Aat9, c6Aat9, c7Aat9⟩ := cells8 CXA
  have hlAat9 := CXA.lt
  replace CX6 := CX6.later b9
  obtain ⟨c06at9, c16at9, c26at9, c36at9, c46at9, c56at9, c66at9, c76at9⟩ := cells8 CX6
  have hl6at9 := CX6.lt
  go_wp2_with fail
  go_region_held3 (fun w' => (w'.cell? ⟨w6.heap.size, 0, none⟩ = some x06 ∧ w'.cell? ⟨w6.heap.size, 1, none⟩ = some x16 ∧ w'.cell? ⟨w6.heap.size, 2, none⟩ = some x26 ∧ w'.cell? ⟨w6.heap.size, 3, none⟩ = some x36 ∧ w'.cell? ⟨w6.heap.size, 4, none⟩ = some x46 ∧ w'.cell? ⟨w6.heap.size, 5, none⟩ = some x56 ∧ w'.cell? ⟨w6.heap.size, 6, none⟩ = some x66 ∧ w'.cell? ⟨w6.heap.size, 7, none⟩ = some x76) ∧ (w'.cell? ⟨w.heap.size, 0, none⟩ = some e0 ∧ w'.cell? ⟨w.heap.size, 1, none⟩ = some e1 ∧ w'.cell? ⟨w.heap.size, 2, none⟩ = some e2 ∧ w'.cell? ⟨w.heap.size, 3, none⟩ = some e3 ∧ w'.cell? ⟨w.heap.size, 4, none⟩ = some e4 ∧ w'.cell? ⟨w.heap.size, 5, none⟩ = some e5 ∧ w'.cell? ⟨w.heap.size, 6, none⟩ = some e6 ∧ w'.cell? ⟨w.heap.size, 7, none⟩ = some e7))
    (first | exact ⟨cells8 CX6, cells8 CXA⟩ | exact ⟨cells8 (CX6.drew.later b10), cells8 (CXA.drew.later b10)⟩ | exact ⟨cells8 ((CX6.drew.later b10).later b11), cells8 ((CXA.drew.later b10).later b11)⟩)
    (first | (go_at_call 11; refine (toProg_calls (Rd.mono t9.drew h) s1.out).mono ?_; rintro e w10 ⟨cs10, rfl, o10, b10⟩) | (go_at_call 14; refine (eqProg_calls ((((o6.later b7).later b8).later b9).drew.later b10).rd o10.rd).mono ?_; rintro e w11 ⟨rfl, b11⟩))
  have t11 := (t9.drew.step b10).step b11
  have CXA := ((CXA.drew.later b10).later b11)
  go_wp2_with fail
  refine (toIntSO_calls (Rd.mono (α := List Int) t11 g) sx.out).mono ?_
  rintro e w12 ⟨v12, rfl, o12, b12⟩
  have t12 := t11.step b12
  have o12 := o12.shut
  go_wp2_with fail
  refine (eqIntSR_calls ((((((o7.later b8).later b9).drew.later b10).later b11).later b12).rd) o12.rd).mono ?_
  rintro e w13 ⟨rfl, b13⟩
  have t13 := t12.step b13
  go_wp2_with fail
  refine (toReasonS_calls (Rd.mono (α := List (Int × Int)) t13 g2) s2.out).mono ?_
  rintro e w14 ⟨v14, rfl, o14, b14⟩
  have t14 := t13.step b14
  have o14 := o14.shut
  go_wp2_with fail
  refine (eqReasonS_calls (((((((o8.later b9).drew.later b10).later b11).later b12).later b13).later b14).rd) o14.rd).mono ?_
  rintro e w15 ⟨rfl, b15⟩
  have t15 := t14.step b15
  go_wp2
  go_ret
  exact ⟨rfl, t15⟩

set_option maxRecDepth 100000 in
theorem lifted (os : Os) (started : os.Started) (H : Type) (enc : TypeId × Value → H) :
    ReturnsInHanded {} Tryz.checked os 8 .any (Rows.fnExactReasonsSpec.pre6 enc Tryz.prog Tryz.f8 Rows.fnExactReasonsRow.domain false) (Rows.fnExactReasonsSpec.post enc Tryz.prog Tryz.f8 false true false false) := by
  refine returnsInHanded_of_change (C := Tryz.checked) own started (by kernel_rfl) Tryz.func8
    (ChangeSpec.witness6 (enc := enc) (C := Tryz.checked) false ⟨#[], #[.agg #[.int .i64 0, .slice none 0 0, .slice none 0 0, .bool false, .slice none 0 0, .slice none 0 0, .slice none 0 0, .slice none 0 0], .slice none 0 0, .slice none 0 0], []⟩ 8 (by kernel_rfl) (by kernel_rfl) (by kernel_rfl) (by kernel_rfl)) ?_
  intro W base args ds gs before hval0 hW hcnd _
  have hval : ∀ (j : Nat) t v, Tryz.f8.params[j]? = some t → args[j]? = some v → Value.okWide Tryz.prog W .any base t v := hval0
  have hW' := hW
  obtain ⟨p, q, hA0, hV, rfl, hfz, hnd⟩ := hW
  have hA : DataW.TrodAll enc Tryz.prog W 0 (fun _ => true) true Tryz.f8.params.toList args.toList ds p := hA0
  rw [Tryz.params8] at hA hval
  obtain ⟨v0, vs0, d0, ds0, p0, q0, hargs, rfl, rfl, h0, r0⟩ := trodAll_cons hA
  obtain ⟨v1, vs1, d1, ds1, p1, q1, rfl, rfl, rfl, h1, r1⟩ := trodAll_cons r0
  obtain ⟨v2, vs2, d2, ds2, p2, q2, rfl, rfl, rfl, h2, r2⟩ := trodAll_cons r1
  obtain ⟨rfl, rfl, rfl⟩ := trodAll_nil r2
  obtain rfl : args = #[v0, v1, v2] := by cases args; simp_all
  obtain ⟨rfl, rfl⟩ := trodVars_none hV
  have k0 := h0
  have lt0 : ∀ x ∈ p0, x.block < W.heap.size := by obtain ⟨m, hm⟩ := k0; exact DataW.trod_lt m _ _ _ hm
  obtain ⟨cs0, x0, rfl, w0⟩ := arg_struct Tryz.underlying28 opens_prog (hval 0 28 v0 rfl rfl) h0
  have k1 := h1
  have lt1 : ∀ x ∈ p1, x.block < W.heap.size := by obtain ⟨m, hm⟩ := k1; exact DataW.trod_lt m _ _ _ hm
  obtain ⟨x1, w1⟩ := arg_slice Tryz.underlying24 opens_ints (hval 1 24 v1 rfl rfl) h1
  have k2 := h2
  have lt2 : ∀ x ∈ p2, x.block < W.heap.size := by obtain ⟨m, hm⟩ := k2; exact DataW.trod_lt m _ _ _ hm
  obtain ⟨x2, w2⟩ := arg_slice Tryz.underlying55 opens_reasons (hval 2 55 v2 rfl rfl) h2
  clear hA0 hval0
  refine (law w0 w1 w2).mono fun e W' ⟨he, bel⟩ => ?_
  subst he
  exact ⟨_, rfl, _, _, _, [], _, [], hW', trodAll_mk1 (shut_bool Tryz.underlying4 _), (trodAll_cons_mk (Below.trod laidOut (by kernel_rfl) (of_decide_eq_true (by kernel_rfl)) k0 bel lt0) (trodAll_cons_mk (Below.trod laidOut (by kernel_rfl) (of_decide_eq_true (by kernel_rfl)) k1 bel lt1) (trodAll_cons_mk (Below.trod laidOut (by kernel_rfl) (of_decide_eq_true (by kernel_rfl)) k2 bel lt2) trodAll_mk0))), rfl, bel.frame _, fun h => by cases h⟩

theorem over : Rows.fnExactReasonsRow.holds Tryz.pinned (OpenSpec.ofChange Rows.fnExactReasonsSpec) :=
  OpenClaim.holds_of_wide 8 Tryz.f8 rfl rfl rfl rfl rfl rfl rfl ⟨rfl, rfl, rfl, rfl, rfl⟩ rfl rfl rfl rfl rfl (by kernel_rfl) Tryz.func8 (by kernel_rfl)
    (of_decide_eq_true (by kernel_rfl)) (by unfold Func.isWrapper; first | (rw [if_pos (by decide +kernel)]; kernel_rfl) | (rw [if_neg (by decide +kernel)]; exact ⟨rfl, rfl⟩))
    (fun os started H enc _ => lifted os started H enc)

theorem proved : Rows.FnExactReasonsSaid := over
end Go.Proofs.YtleimijgpmoifaaGreat.fnExactReasons
