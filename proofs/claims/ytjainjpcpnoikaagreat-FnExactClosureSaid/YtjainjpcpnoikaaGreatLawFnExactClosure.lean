/-
  laws.FnExactClosure returns true, whatever its arguments; they read afterwards as before.
  Conditions: none (what every row of this form says by itself: the arguments can be read as data).
-/
import Derived.Test.YtjainjpcpnoikaaGreatLawsP
import Derived.Test.YtjainjpcpnoikaaGreatMarkC
import Derived.Test.YtjainjpcpnoikaaGreatHeldB
import Derived.Test.YtjainjpcpnoikaaGreatLawReg
import Derived.Test.YtjainjpcpnoikaaGreatSplC
import Derived.Test.YtjainjpcpnoikaaGreatSplS
import Derived.Deep.RegionHeld3
import Derived.Test.YtjainjpcpnoikaaGreatOpen
import Derived.Test.YtjainjpcpnoikaaGreatRows
import Derived.WalkKit
import Derived.ProofKit
import Derived.OpenShut
import Derived.ShutString
import Derived.ChangeOld
import Derived.Below
namespace Go.Proofs.YtjainjpcpnoikaaGreat.fnExactClosure
open Go.ChangeShapes Go.WideShapes Go.ChangeAt Go.RowKit
open Go.ChangeMaps (open_string shut_string)
set_option linter.unusedVariables false
set_option linter.unusedSimpArgs false

theorem own : ownKnob Tryz.prog.godebug = none := by kernel_rfl
theorem laidOut : laidOutB Tryz.prog = true := by kernel_rfl

theorem WrF_I {fp : List Nat} {lo hi : Nat} {w w' : World} (h : WrF fp w w') (hl : ∀ g ∈ fp, lo ≤ g ∧ g < hi) : WrI lo hi w w' :=
  ⟨h.os, h.tape, h.output, h.size, fun g hg hd => h.block g hg fun hm => by have := hl g hm; omega⟩
theorem specO_calls {cs : List Value} {p : ProgD} {v : Value} {xs : List Int} {w : World} (h : Rd.R w cs p) (g : RdL w [v] xs) :
    Calls Tryz.prog 25 #[.agg cs.toArray, v] w fun e w' => ∃ u, e = .returned u ∧ Own w.heap.size w' [u] (clsR p xs) ∧ Below w.heap.size w w' :=
  (specClosure_calls h g).mono fun _ _ ⟨v, he, ho, hb⟩ => ⟨v, he, ho.own, hb⟩
theorem implO_calls {cs : List Value} {p : ProgD} {v : Value} {xs : List Int} {w : World} (h : Rd.R w cs p) (g : RdL w [v] xs) :
    Calls Tryz.prog 26 #[.agg cs.toArray, v] w fun e w' => ∃ u, e = .returned u ∧ Own w.heap.size w' [u] (clsR p xs) ∧ Below w.heap.size w w' :=
  (implClosure_calls h g).mono fun _ _ ⟨v, he, ho, hb⟩ => ⟨v, he, ho.own, hb⟩

set_option maxRecDepth 100000 in
set_option maxHeartbeats 8000000 in
theorem law {cs : List Value} {p : ProgD} {v : Value} {xs : List Int} {w : World} (h : Rd.R w cs p) (g : RdL w [v] xs) :
    Calls Tryz.prog 6 #[.agg cs.toArray, v] w fun e w' => e = .returned (.bool true) ∧ Below w.heap.size w w' := by
  obtain ⟨e0, e1, e2, e3, e4, e5, e6, e7, rfl⟩ := list8 (Rd.len h)
  obtain ⟨ax, cx, rfl, _, hx⟩ := g.sl
  have hm := hx.1
  have t0 : Below w.heap.size w (w.alloc (.cells #[e0, e1, e2, e3, e4, e5, e6, e7] 28)) := (Below.refl _ _).alloc (by simp) _
  by_cases hbig : 1048576 < xs.length
  · have hb' : (1048576 : Int) < (xs.length : Int) := by omega
    go_enter Tryz.func6, Tryz.ntmps6
    go_wp2
    go_ret
    exact ⟨rfl, t0⟩
  have hb' : (xs.length : Int) ≤ 1048576 := by omega
  have sx : Hid (Sm.S xs) := ⟨by omega, fun _ _ => trivial⟩
  clear hbig hx
  have CXA := Cells.new w [e0, e1, e2, e3, e4, e5, e6, e7] 28
  have hlen := clsR_len p xs
  obtain ⟨R, hR⟩ : ∃ R, R = clsR p xs := ⟨_, rfl⟩
  have HS := fun (cs : List Value) (v : Value) (w : World) (h : Rd.R w cs p) (g : RdL w [v] xs) => Lib.hid (specO_calls h g)
  have HI := fun (cs : List Value) (v : Value) (w : World) (h : Rd.R w cs p) (g : RdL w [v] xs) => Lib.hid (implO_calls h g)
  rw [← hR] at HS HI hlen
  clear hR
  go_enter Tryz.func6, Tryz.ntmps6
  go_wp2_with fail
  refine (szProg_calls 1048576 (Rd.mono t0 h) (by omega) (by omega)).mono ?_
  rintro e w1 ⟨⟨n1, rfl, _, m1, q1⟩, b1⟩
  have t1 := t0.step b1
  by_cases n01 : 0 ≤ n1
  case neg =>
    have hng : n1 < 0 := by omega
    clear n01 q1
    go_wp2
    go_ret
    exact ⟨rfl, t1⟩
  have s1 := Lib.hid (q1 n01)
  clear q1
  replace CXA := CXA.later b1
  obtain ⟨c0Aat1, c1Aat1, c2Aat1, c3Aat1, c4Aat1, c5Aat1, c6Aat1, c7Aat1⟩ := cells8 CXA
  have hlAat1 := CXA.lt
  go_wp2_with fail
  refine (toProg_calls (Rd.mono t1 h) s1.out).mono ?_
  rintro e w2 ⟨cs2, rfl, o2, b2⟩
  have t2 := t1.step b2
  have o2 := o2.shut
  replace CXA := CXA.later b2
  obtain ⟨c0Aat2, c1Aat2, c2Aat2, c3Aat2, c4Aat2, c5Aat2, c6Aat2, c7Aat2⟩ := cells8 CXA
  have hlAat2 := CXA.lt
  go_wp2_with fail
  refine (toIntSO_calls (Rd.mono (α := List Int) t2 g) sx.out).mono ?_
  rintro e w3 ⟨v3, rfl, o3, b3⟩
  have t3 := t2.step b3
  have o3 := o3.shut
  replace CXA := CXA.later b3
  obtain ⟨c0Aat3, c1Aat3, c2Aat3, c3Aat3, c4Aat3, c5Aat3, c6Aat3, c7Aat3⟩ := cells8 CXA
  have hlAat3 := CXA.lt
  go_wp2_with fail
  refine ((HS _ _ _ (o2.later b3).rd o3.rd).out).mono ?_
  rintro e w4 ⟨v4, rfl, o4, b4⟩
  have t4 := t3.step b4
  have o4 := o4.shut
  replace CXA := CXA.later b4
  obtain ⟨c0Aat4, c1Aat4, c2Aat4, c3Aat4, c4Aat4, c5Aat4, c6Aat4, c7Aat4⟩ := cells8 CXA
  have hlAat4 := CXA.lt
  obtain ⟨a4, n4, rfl, _⟩ := retO o4.own
  go_wp2_with fail
  refine (toProg_calls (Rd.mono t4 h) s1.out).mono ?_
  rintro e w5 ⟨cs5, rfl, o5, b5⟩
  have t5 := t4.step b5
  have o5 := o5.shut
  replace CXA := CXA.later b5
  obtain ⟨c0Aat5, c1Aat5, c2Aat5, c3Aat5, c4Aat5, c5Aat5, c6Aat5, c7Aat5⟩ := cells8 CXA
  have hlAat5 := CXA.lt
  have l5 := Rd.one o5.rd
  obtain ⟨x05, x15, x25, x35, x45, x55, x65, x75, rfl⟩ := list8 (Rd.len o5.rd)
  have st05 := sto Tryz.prog (l5 x05 (by simp))
  have st15 := sto Tryz.prog (l5 x15 (by simp))
  have st25 := sto Tryz.prog (l5 x25 (by simp))
  have st35 := sto Tryz.prog (l5 x35 (by simp))
  have st45 := sto Tryz.prog (l5 x45 (by simp))
  have st55 := sto Tryz.prog (l5 x55 (by simp))
  have st65 := sto Tryz.prog (l5 x65 (by simp))
  have st75 := sto Tryz.prog (l5 x75 (by simp))
  have o5 := o5.alloc (.cells #[x05, x15, x25, x35, x45, x55, x65, x75] 35)
  have CX5 := Cells.new w5 [x05, x15, x25, x35, x45, x55, x65, x75] 35
  replace CXA := CXA.alloc (.cells #[x05, x15, x25, x35, x45, x55, x65, x75] 35)
  have t5 := t5.alloc t5.size (.cells #[x05, x15, x25, x35, x45, x55, x65, x75] 35)
  clear l5
  go_wp2_with fail
  refine (toIntSO_calls (Rd.mono (α := List Int) t5 g) sx.out).mono ?_
  rintro e w6 ⟨v6, rfl, o6, b6⟩
  have t6 := t5.step b6
  have o6 := o6.shut
  replace CXA := CXA.later b6
  obtain ⟨c0Aat6, c1Aat6, c2Aat6, c3Aat6, c4Aat6, c5Aat6, c6Aat6, c7Aat6⟩ := cells8 CXA
  have hlAat6 := CXA.lt
  replace CX5 := CX5.later b6
  obtain ⟨c05at6, c15at6, c25at6, c35at6, c45at6, c55at6, c65at6, c75at6⟩ := cells8 CX5
  have hl5at6 := CX5.lt
  obtain ⟨a6, n6, rfl, _⟩ := retO o6.own
  go_wp2_with fail
  refine ((HI _ _ _ (o5.later b6).rd o6.rd).out).mono ?_
  rintro e w7 ⟨v7, rfl, o7, b7⟩
  have t7 := t6.step b7
  have o7 := o7.shut
  replace CXA := CXA.later b7
  obtain ⟨c0Aat7, c1Aat7, c2Aat7, c3Aat7, c4Aat7, c5Aat7, c6Aat7, c7Aat7⟩ := cells8 CXA
  have hlAat7 := CXA.lt
  replace CX5 := CX5.later b7
  obtain ⟨c05at7, c15at7, c25at7, c35at7, c45at7, c55at7, c65at7, c75at7⟩ := cells8 CX5
  have hl5at7 := CX5.lt
  obtain ⟨a7, n7, rfl, _⟩ := retO o7.own
  have o4 := (((o4.later b5).alloc (.cells #[x05, x15, x25, x35, x45, x55, x65, x75] 35)).later b6).later b7
  have o5 := (o5.later b6).later b7
  have o6 := o6.later b7
  go_wp2_with fail
  refine (eqIntSR_calls o7.rd o4.rd).mono ?_
  rintro e w8 ⟨rfl, b8⟩
  have t8 := t7.step b8
  replace CXA := CXA.later b8
  obtain ⟨c0Aat8, c1Aat8, c2Aat8, c3Aat8, c4Aat8, c5Aat8, c6Aat8, c7Aat8⟩ := cells8 CXA
  have hlAat8 := CXA.lt
  replace CX5 := CX5.later b8
  obtain ⟨c05at8, c15at8, c25at8, c35at8, c45at8, c55at8, c65at8, c75at8⟩ := cells8 CX5
  have hl5at8 := CX5.lt
  have o4 := o4.later b8
  have o5 := o5.later b8
  have o6 := o6.later b8
  have o7 := o7.later b8
  go_wp2_with fail
  go_region_held3 (fun w' => (w'.cell? ⟨w5.heap.size, 0, none⟩ = some x05 ∧ w'.cell? ⟨w5.heap.size, 1, none⟩ = some x15 ∧ w'.cell? ⟨w5.heap.size, 2, none⟩ = some x25 ∧ w'.cell? ⟨w5.heap.size, 3, none⟩ = some x35 ∧ w'.cell? ⟨w5.heap.size, 4, none⟩ = some x45 ∧ w'.cell? ⟨w5.heap.size, 5, none⟩ = some x55 ∧ w'.cell? ⟨w5.heap.size, 6, none⟩ = some x65 ∧ w'.cell? ⟨w5.heap.size, 7, none⟩ = some x75) ∧ (w'.cell? ⟨w.heap.size, 0, none⟩ = some e0 ∧ w'.cell? ⟨w.heap.size, 1, none⟩ = some e1 ∧ w'.cell? ⟨w.heap.size, 2, none⟩ = some e2 ∧ w'.cell? ⟨w.heap.size, 3, none⟩ = some e3 ∧ w'.cell? ⟨w.heap.size, 4, none⟩ = some e4 ∧ w'.cell? ⟨w.heap.size, 5, none⟩ = some e5 ∧ w'.cell? ⟨w.heap.size, 6, none⟩ = some e6 ∧ w'.cell? ⟨w.heap.size, 7, none⟩ = some e7))
    (first | exact ⟨cells8 CX5, cells8 CXA⟩ | exact ⟨cells8 (CX5.drew.later b9), cells8 (CXA.drew.later b9)⟩ | exact ⟨cells8 ((CX5.drew.later b9).later b10), cells8 ((CXA.drew.later b9).later b10)⟩)
    (first | (go_at_call 10; refine (toProg_calls (Rd.mono t8.drew h) s1.out).mono ?_; rintro e w9 ⟨cs9, rfl, o9, b9⟩) | (go_at_call 13; refine (eqProg_calls (o5.drew.later b9).rd o9.rd).mono ?_; rintro e w10 ⟨rfl, b10⟩))
  have t10 := (t8.drew.step b9).step b10
  have CXA := ((CXA.drew.later b9).later b10)
  have o4 := ((o4.drew.later b9).later b10)
  have o5 := ((o5.drew.later b9).later b10)
  have o6 := ((o6.drew.later b9).later b10)
  have o7 := ((o7.drew.later b9).later b10)
  have CX5 := ((CX5.drew.later b9).later b10)
  go_wp2_with fail
  refine (toIntSO_calls (Rd.mono (α := List Int) t10 g) sx.out).mono ?_
  rintro e w11 ⟨v11, rfl, o11, b11⟩
  have t11 := t10.step b11
  have o11 := o11.shut
  replace CXA := CXA.later b11
  obtain ⟨c0Aat11, c1Aat11, c2Aat11, c3Aat11, c4Aat11, c5Aat11, c6Aat11, c7Aat11⟩ := cells8 CXA
  have hlAat11 := CXA.lt
  replace CX5 := CX5.later b11
  obtain ⟨c05at11, c15at11, c25at11, c35at11, c45at11, c55at11, c65at11, c75at11⟩ := cells8 CX5
  have hl5at11 := CX5.lt
  have o4 := o4.later b11
  have o5 := o5.later b11
  have o6 := o6.later b11
  have o7 := o7.later b11
  go_wp2_with fail
  refine (eqIntSR_calls o6.rd o11.rd).mono ?_
  rintro e w12 ⟨rfl, b12⟩
  have t12 := t11.step b12
  replace CXA := CXA.later b12
  obtain ⟨c0Aat12, c1Aat12, c2Aat12, c3Aat12, c4Aat12, c5Aat12, c6Aat12, c7Aat12⟩ := cells8 CXA
  have hlAat12 := CXA.lt
  replace CX5 := CX5.later b12
  obtain ⟨c05at12, c15at12, c25at12, c35at12, c45at12, c55at12, c65at12, c75at12⟩ := cells8 CX5
  have hl5at12 := CX5.lt
  have o4 := o4.later b12
  have o5 := o5.later b12
  have o6 := o6.later b12
  have o7 := o7.later b12
  have z4 := b4.size
  have z5 := b5.size
  have z6 := b6.size
  rw [World.size_alloc] at z6
  have z7 := b7.size
  have z8 : w7.heap.size ≤ w12.heap.size := Nat.le_trans b8.size (Nat.le_trans b9.size (Nat.le_trans b10.size (Nat.le_trans b11.size b12.size)))
  have za := t3.size
  have hcp := cntSm (p := p) s1.out
  have hcx := sx.out.1
  have hci := cntTo_int xs xs.length
  have hcr := cntTo_int R R.length
  have hk1 : (0 : Int) ≤ 1 + (cntProgV p : Nat) := by omega
  have hk2 : (0 : Int) ≤ 1 + (cntProgV p : Nat) + ((cntTo xs xs.length : Nat) : Int) := by omega
  have hk3 : (0 : Int) ≤ 1 + ((cntTo R R.length : Nat) : Int) := by omega
  clear o2 o3 o11 b1 b2 b3 b4 b5 b6 b7 b8 b9 b10 b11 b12
  obtain ⟨f5, q5, l5⟩ := o5
  go_wp2_with fail
  refine (markProg_calls 1 q5 (by omega) (by omega)).mono ?_
  rintro e w13 ⟨rfl, m5, g13⟩
  have g13 := WrF_I g13 l5
  have t13 := g13.below t12 (by omega)
  have o4 := o4.wr g13 (.inl (by omega))
  have o6 := o6.wr g13 (.inr (by rw [World.size_alloc]; omega))
  have o7 := o7.wr g13 (.inr (by omega))
  have CXA := CXA.wr g13 (.inl (by omega))
  obtain ⟨cB0, cB1, cB2, cB3, cB4, cB5, cB6, cB7⟩ := cells8 CXA
  have hlA := CXA.lt
  clear m5
  go_wp2_with fail
  refine (markIntSI_calls (1 + (cntProgV p : Nat)) o6 (by omega) (by omega)).mono ?_
  rintro e w14 ⟨rfl, m6, g14⟩
  have t14 := g14.below t13 (by rw [World.size_alloc]; omega)
  have o4 := o4.wr g14 (.inl (by rw [World.size_alloc]; omega))
  have o7 := o7.wr g14 (.inr (by omega))
  have CXA := CXA.wr g14 (.inl (by rw [World.size_alloc]; omega))
  clear m6 cB0 cB1 cB2 cB3 cB4 cB5 cB6 cB7
  obtain ⟨cB0, cB1, cB2, cB3, cB4, cB5, cB6, cB7⟩ := cells8 CXA
  go_wp2_with fail
  refine (eqIntSR_calls o7.rd o4.rd).mono ?_
  rintro e w15 ⟨rfl, b15⟩
  have t15 := t14.step b15
  have CXA := CXA.later b15
  have o4 := o4.later b15
  clear cB0 cB1 cB2 cB3 cB4 cB5 cB6 cB7
  obtain ⟨cB0, cB1, cB2, cB3, cB4, cB5, cB6, cB7⟩ := cells8 CXA
  go_wp2_with fail
  refine (markIntSI_calls 1 (o7.later b15) (by omega) (by omega)).mono ?_
  rintro e w16 ⟨rfl, m7, g16⟩
  have o4 := o4.wr g16 (.inl (by omega))
  have t16 := g16.below t15 (by omega)
  have CXA := CXA.wr g16 (.inl (by omega))
  clear cB0 cB1 cB2 cB3 cB4 cB5 cB6 cB7
  obtain ⟨cB0, cB1, cB2, cB3, cB4, cB5, cB6, cB7⟩ := cells8 CXA
  go_wp2_with fail
  refine (heldIntSO_calls 1 m7.rd (by omega) (by omega)).mono ?_
  rintro e w' ⟨rfl, rfl⟩
  go_wp2_with fail
  refine (toProg_calls (Rd.mono t16 h) s1.out).mono ?_
  rintro e w17 ⟨cs17, rfl, o17, b17⟩
  have t17 := t16.step b17
  have o17 := o17.shut
  replace CXA := CXA.later b17
  obtain ⟨c0Aat17, c1Aat17, c2Aat17, c3Aat17, c4Aat17, c5Aat17, c6Aat17, c7Aat17⟩ := cells8 CXA
  have hlAat17 := CXA.lt
  go_wp2_with fail
  refine (toIntSO_calls (Rd.mono (α := List Int) t17 g) sx.out).mono ?_
  rintro e w18 ⟨v18, rfl, o18, b18⟩
  have t18 := t17.step b18
  have o18 := o18.shut
  replace CXA := CXA.later b18
  obtain ⟨c0Aat18, c1Aat18, c2Aat18, c3Aat18, c4Aat18, c5Aat18, c6Aat18, c7Aat18⟩ := cells8 CXA
  have hlAat18 := CXA.lt
  go_wp2_with fail
  refine ((HI _ _ _ (o17.later b18).rd o18.rd).out).mono ?_
  rintro e w19 ⟨v19, rfl, o19, b19⟩
  have t19 := t18.step b19
  have o19 := o19.shut
  replace CXA := CXA.later b19
  obtain ⟨c0Aat19, c1Aat19, c2Aat19, c3Aat19, c4Aat19, c5Aat19, c6Aat19, c7Aat19⟩ := cells8 CXA
  have hlAat19 := CXA.lt
  obtain ⟨a19, n19, rfl, _⟩ := retO o19.own
  go_wp2_with fail
  refine (eqIntSR_calls o19.rd (((o4.later b17).later b18).later b19).rd).mono ?_
  rintro e w20 ⟨rfl, b20⟩
  have t20 := t19.step b20
  go_wp2_with fail
  refine (heldIntSO_calls 1 ((((m7.later b17).later b18).later b19).later b20).rd (by omega) (by omega)).mono ?_
  rintro e w' ⟨rfl, rfl⟩
  go_wp2
  go_ret
  exact ⟨rfl, t20⟩

set_option maxRecDepth 100000 in
theorem lifted (os : Os) (started : os.Started) (H : Type) (enc : TypeId × Value → H) :
    ReturnsInHanded {} Tryz.checked os 6 .any (Rows.fnExactClosureSpec.pre6 enc Tryz.prog Tryz.f6 Rows.fnExactClosureRow.domain false) (Rows.fnExactClosureSpec.post enc Tryz.prog Tryz.f6 false true false false) := by
  refine returnsInHanded_of_change (C := Tryz.checked) own started (by kernel_rfl) Tryz.func6
    (ChangeSpec.witness6 (enc := enc) (C := Tryz.checked) false ⟨#[], #[.agg #[.int .i64 0, .slice none 0 0, .slice none 0 0, .bool false, .slice none 0 0, .slice none 0 0, .slice none 0 0, .slice none 0 0], .slice none 0 0], []⟩ 8 (by kernel_rfl) (by kernel_rfl) (by kernel_rfl) (by kernel_rfl)) ?_
  intro W base args ds gs before hval0 hW hcnd _
  have hval : ∀ (j : Nat) t v, Tryz.f6.params[j]? = some t → args[j]? = some v → Value.okWide Tryz.prog W .any base t v := hval0
  have hW' := hW
  obtain ⟨p, q, hA0, hV, rfl, hfz, hnd⟩ := hW
  have hA : DataW.TrodAll enc Tryz.prog W 0 (fun _ => true) true Tryz.f6.params.toList args.toList ds p := hA0
  rw [Tryz.params6] at hA hval
  obtain ⟨v0, vs0, d0, ds0, p0, q0, hargs, rfl, rfl, h0, r0⟩ := trodAll_cons hA
  obtain ⟨v1, vs1, d1, ds1, p1, q1, rfl, rfl, rfl, h1, r1⟩ := trodAll_cons r0
  obtain ⟨rfl, rfl, rfl⟩ := trodAll_nil r1
  obtain rfl : args = #[v0, v1] := by cases args; simp_all
  obtain ⟨rfl, rfl⟩ := trodVars_none hV
  have k0 := h0
  have lt0 : ∀ x ∈ p0, x.block < W.heap.size := by obtain ⟨m, hm⟩ := k0; exact DataW.trod_lt m _ _ _ hm
  obtain ⟨cs0, x0, rfl, w0⟩ := arg_struct Tryz.underlying28 opens_prog (hval 0 28 v0 rfl rfl) h0
  have k1 := h1
  have lt1 : ∀ x ∈ p1, x.block < W.heap.size := by obtain ⟨m, hm⟩ := k1; exact DataW.trod_lt m _ _ _ hm
  obtain ⟨x1, w1⟩ := arg_slice Tryz.underlying24 opens_ints (hval 1 24 v1 rfl rfl) h1
  clear hA0 hval0
  refine (law w0 w1).mono fun e W' ⟨he, bel⟩ => ?_
  subst he
  exact ⟨_, rfl, _, _, _, [], _, [], hW', trodAll_mk1 (shut_bool Tryz.underlying4 _), (trodAll_cons_mk (Below.trod laidOut (by kernel_rfl) (of_decide_eq_true (by kernel_rfl)) k0 bel lt0) (trodAll_cons_mk (Below.trod laidOut (by kernel_rfl) (of_decide_eq_true (by kernel_rfl)) k1 bel lt1) trodAll_mk0)), rfl, bel.frame _, fun h => by cases h⟩

theorem over : Rows.fnExactClosureRow.holds Tryz.pinned (OpenSpec.ofChange Rows.fnExactClosureSpec) :=
  OpenClaim.holds_of_wide 6 Tryz.f6 rfl rfl rfl rfl rfl rfl rfl ⟨rfl, rfl, rfl, rfl, rfl⟩ rfl rfl rfl rfl rfl (by kernel_rfl) Tryz.func6 (by kernel_rfl)
    (of_decide_eq_true (by kernel_rfl)) (by unfold Func.isWrapper; first | (rw [if_pos (by decide +kernel)]; kernel_rfl) | (rw [if_neg (by decide +kernel)]; exact ⟨rfl, rfl⟩))
    (fun os started H enc _ => lifted os started H enc)

theorem proved : Rows.FnExactClosureSaid := over
end Go.Proofs.YtjainjpcpnoikaaGreat.fnExactClosure
