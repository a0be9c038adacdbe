/-
  laws.FnExactEqual returns true, whatever its arguments; they read afterwards as before.
  Conditions: none (what every row of this form says by itself: the arguments can be read as data).
-/
import Derived.Test.YtleimijgpmoifaaGreatLawsP
import Derived.Test.YtleimijgpmoifaaGreatEqu
import Derived.Deep.RegionHeld3
import Derived.Deep.DeepCutAuto
import Derived.Test.YtleimijgpmoifaaGreatOpen
import Derived.Test.YtleimijgpmoifaaGreatRows
import Derived.WalkKit
import Derived.ProofKit
import Derived.OpenShut
import Derived.ShutString
import Derived.ChangeOld
import Derived.Below
namespace Go.Proofs.YtleimijgpmoifaaGreat.fnExactEqual
open Go.ChangeShapes Go.WideShapes Go.ChangeAt Go.RowKit
open Go.ChangeMaps (open_string shut_string)
set_option linter.unusedVariables false
set_option linter.unusedSimpArgs false

theorem own : ownKnob Tryz.prog.godebug = none := by kernel_rfl
theorem laidOut : laidOutB Tryz.prog = true := by kernel_rfl

set_option maxRecDepth 100000 in
set_option maxHeartbeats 8000000 in
theorem law {cs ds : List Value} {p q : ProgD} {w : World} (h : Rd.R w cs p) (g : Rd.R w ds q) :
    Calls Tryz.prog 6 #[.agg cs.toArray, .agg ds.toArray] w fun e w' => e = .returned (.bool true) ∧ Below w.heap.size w w' := by
  obtain ⟨e0, e1, e2, e3, e4, e5, e6, e7, rfl⟩ := list8 (Rd.len h)
  obtain ⟨d0, d1, d2, d3, d4, d5, d6, d7, rfl⟩ := list8 (Rd.len g)
  have t0 : Below w.heap.size w ((w.alloc (.cells #[e0, e1, e2, e3, e4, e5, e6, e7] 28)).alloc (.cells #[d0, d1, d2, d3, d4, d5, d6, d7] 28)) := ((Below.refl _ _).alloc (by simp) _).alloc (by simp) _
  have CXA := (Cells.new w [e0, e1, e2, e3, e4, e5, e6, e7] 28).alloc (.cells #[d0, d1, d2, d3, d4, d5, d6, d7] 28)
  have CXB := Cells.new (w.alloc (.cells #[e0, e1, e2, e3, e4, e5, e6, e7] 28)) [d0, d1, d2, d3, d4, d5, d6, d7] 28
  rw [World.size_alloc] at CXB
  go_enter Tryz.func6, Tryz.ntmps6
  go_wp2_with fail
  refine (szProg_calls 1048576 (Rd.mono t0 h) (by omega) (by omega)).mono ?_
  rintro e w1 ⟨⟨n1, rfl, _, m1, q1⟩, b1⟩
  have t1 := t0.step b1
  by_cases n01 : 0 ≤ n1
  case neg =>
    have hng : n1 < 0 := by omega
    clear n01 q1
    go_wp2
    go_ret
    exact ⟨rfl, t1⟩
  have s1 := Lib.hid (q1 n01)
  clear q1
  replace CXA := CXA.later b1
  obtain ⟨c0Aat1, c1Aat1, c2Aat1, c3Aat1, c4Aat1, c5Aat1, c6Aat1, c7Aat1⟩ := cells8 CXA
  have hlAat1 := CXA.lt
  replace CXB := CXB.later b1
  obtain ⟨c0Bat1, c1Bat1, c2Bat1, c3Bat1, c4Bat1, c5Bat1, c6Bat1, c7Bat1⟩ := cells8 CXB
  have hlBat1 := CXB.lt
  go_wp2_with fail
  refine (szProg_calls n1 (Rd.mono t1 g) n01 m1).mono ?_
  rintro e w2 ⟨⟨n2, rfl, _, m2, q2⟩, b2⟩
  have t2 := t1.step b2
  by_cases n02 : 0 ≤ n2
  case neg =>
    have hng : n2 < 0 := by omega
    clear n02 q2
    go_wp2
    go_ret
    exact ⟨rfl, t2⟩
  have s2 := Lib.hid (q2 n02)
  clear q2
  replace CXA := CXA.later b2
  obtain ⟨c0Aat2, c1Aat2, c2Aat2, c3Aat2, c4Aat2, c5Aat2, c6Aat2, c7Aat2⟩ := cells8 CXA
  have hlAat2 := CXA.lt
  replace CXB := CXB.later b2
  obtain ⟨c0Bat2, c1Bat2, c2Bat2, c3Bat2, c4Bat2, c5Bat2, c6Bat2, c7Bat2⟩ := cells8 CXB
  have hlBat2 := CXB.lt
  clear c0Aat1 c1Aat1 c2Aat1 c3Aat1 c4Aat1 c5Aat1 c6Aat1 c7Aat1 c0Bat1 c1Bat1 c2Bat1 c3Bat1 c4Bat1 c5Bat1 c6Bat1 c7Bat1
  go_upto_region 8 with fail
  clear c0Aat2 c1Aat2 c2Aat2 c3Aat2 c4Aat2 c5Aat2 c6Aat2 c7Aat2 c0Bat2 c1Bat2 c2Bat2 c3Bat2 c4Bat2 c5Bat2 c6Bat2 c7Bat2
  have szB : w.heap.size + 1 < w2.heap.size := CXB.lt
  refine wp_region_held_drew (S := fun w' => (w'.cell? ⟨w.heap.size, 0, none⟩ = some e0 ∧ w'.cell? ⟨w.heap.size, 1, none⟩ = some e1 ∧ w'.cell? ⟨w.heap.size, 2, none⟩ = some e2 ∧ w'.cell? ⟨w.heap.size, 3, none⟩ = some e3 ∧ w'.cell? ⟨w.heap.size, 4, none⟩ = some e4 ∧ w'.cell? ⟨w.heap.size, 5, none⟩ = some e5 ∧ w'.cell? ⟨w.heap.size, 6, none⟩ = some e6 ∧ w'.cell? ⟨w.heap.size, 7, none⟩ = some e7) ∧ (w'.cell? ⟨w.heap.size + 1, 0, none⟩ = some d0 ∧ w'.cell? ⟨w.heap.size + 1, 1, none⟩ = some d1 ∧ w'.cell? ⟨w.heap.size + 1, 2, none⟩ = some d2 ∧ w'.cell? ⟨w.heap.size + 1, 3, none⟩ = some d3 ∧ w'.cell? ⟨w.heap.size + 1, 4, none⟩ = some d4 ∧ w'.cell? ⟨w.heap.size + 1, 5, none⟩ = some d5 ∧ w'.cell? ⟨w.heap.size + 1, 6, none⟩ = some d6 ∧ w'.cell? ⟨w.heap.size + 1, 7, none⟩ = some d7)) (by kernel_rfl) ⟨cells8 CXA, cells8 CXB⟩ (fun hHeld => ?_)
  refine takeD (i := 0) (v := .agg #[e0, e1, e2, e3, e4, e5, e6, e7]) (some 20) rfl rfl (by kernel_rfl) (by kernel_rfl) (by kernel_rfl) (fun _ _ _ h => h) (Or.inl ⟨by rfl, fun w' hw' => ?_⟩) hHeld ?_
  · first | (go_simp; done) | (obtain ⟨⟨s0, s1, s2, s3, s4, s5, s6, s7⟩, r0, r1, r2, r3, r4, r5, r6, r7⟩ := hw'; go_simp; done)
  try simp only [Act.put, List.setIfInBounds_toArray, List.set_cons_zero, List.set_cons_succ]
  refine takeD (i := 2) (v := .agg #[d0, d1, d2, d3, d4, d5, d6, d7]) (some 22) rfl rfl (by kernel_rfl) (by kernel_rfl) (by kernel_rfl) (fun _ _ _ h => h) (Or.inl ⟨by rfl, fun w' hw' => ?_⟩) hHeld ?_
  · first | (go_simp; done) | (obtain ⟨⟨s0, s1, s2, s3, s4, s5, s6, s7⟩, r0, r1, r2, r3, r4, r5, r6, r7⟩ := hw'; go_simp; done)
  try simp only [Act.put, List.setIfInBounds_toArray, List.set_cons_zero, List.set_cons_succ]
  refine wpAnyH_ready (rs := [1]) (by kernel_rfl) (by simp) ?_
  refine AllReadyH.cons rfl (fun K hK => ?_) AllReadyH.nil
  go_simp
  refine (toProg_calls (Rd.mono t2.drew h) s1.out).mono ?_
  rintro e w3 ⟨cs3, rfl, o3, b3⟩
  have b3 := (Below.refl w2.heap.size w2).drew.step b3
  refine hK.out _ _ ⟨cells8 (CXA.later b3), cells8 (CXB.later b3)⟩ (fun hHeld => ?_)
  clear hK K
  try simp only [Act.put, List.setIfInBounds_toArray, List.set_cons_zero, List.set_cons_succ]
  refine wpAnyH_ready (rs := [3]) (by kernel_rfl) (by simp) ?_
  refine AllReadyH.cons rfl (fun K hK => ?_) AllReadyH.nil
  go_simp
  refine (toProg_calls (Rd.mono (t2.step b3) g) s2.out).mono ?_
  rintro e w4 ⟨cs4, rfl, o4, b4⟩
  have b34 := b3.step b4
  refine hK.out _ _ ⟨cells8 (CXA.later b34), cells8 (CXB.later b34)⟩ (fun hHeld => ?_)
  clear hK K
  try simp only [Act.put, List.setIfInBounds_toArray, List.set_cons_zero, List.set_cons_succ]
  refine wpAnyH_ready (rs := [4]) (by kernel_rfl) (by simp) ?_
  refine AllReadyH.cons rfl (fun K hK => ?_) AllReadyH.nil
  go_simp
  refine (specEqual_calls (o3.later b4).rd o4.rd).mono ?_
  rintro e w5 ⟨rfl, b5⟩
  have b35 := b34.step b5
  refine hK.out _ _ ⟨cells8 (CXA.later b35), cells8 (CXB.later b35)⟩ (fun hHeld => ?_)
  clear hK K
  try simp only [Act.put, List.setIfInBounds_toArray, List.set_cons_zero, List.set_cons_succ]
  refine takeD (i := 5) (v := .bool (eqvB p q)) (some 6) rfl rfl (by kernel_rfl) (by kernel_rfl) (by kernel_rfl) (fun _ _ _ h => h) (Or.inl ⟨by rfl, fun w' hw' => ?_⟩) hHeld ?_
  · first | (go_simp; done) | (obtain ⟨⟨s0, s1, s2, s3, s4, s5, s6, s7⟩, r0, r1, r2, r3, r4, r5, r6, r7⟩ := hw'; go_simp; done)
  try simp only [Act.put, List.setIfInBounds_toArray, List.set_cons_zero, List.set_cons_succ]
  refine wpAnyH_done (by kernel_rfl) ?_ _
  have t5 := t2.step b35
  have CXA := CXA.later b35
  have CXB := CXB.later b35
  clear o3 o4 b3 b4 b34 b5 b35 hHeld
  obtain ⟨c0, c1, c2, c3, c4, c5, c6, c7⟩ := cells8 CXA
  go_wp2_with fail
  refine (toProg_calls (Rd.mono t5 h) s1.out).mono ?_
  rintro e w6 ⟨cs6, rfl, o6, b6⟩
  obtain ⟨x0, x1, x2, x3, x4, x5, x6, x7, rfl⟩ := list8 (Rd.len o6.rd)
  have l6 := Rd.one o6.rd
  have st0 := sto Tryz.prog (l6 x0 (by simp))
  have st1 := sto Tryz.prog (l6 x1 (by simp))
  have st2 := sto Tryz.prog (l6 x2 (by simp))
  have st3 := sto Tryz.prog (l6 x3 (by simp))
  have st4 := sto Tryz.prog (l6 x4 (by simp))
  have st5 := sto Tryz.prog (l6 x5 (by simp))
  have st6 := sto Tryz.prog (l6 x6 (by simp))
  have st7 := sto Tryz.prog (l6 x7 (by simp))
  have t6 := (t5.step b6).alloc (t5.step b6).size (.cells #[x0, x1, x2, x3, x4, x5, x6, x7] 36)
  have CX := Cells.new w6 [x0, x1, x2, x3, x4, x5, x6, x7] 36
  have o6 := o6.alloc (.cells #[x0, x1, x2, x3, x4, x5, x6, x7] 36)
  have CXA := (CXA.later b6).alloc (.cells #[x0, x1, x2, x3, x4, x5, x6, x7] 36)
  have CXB := (CXB.later b6).alloc (.cells #[x0, x1, x2, x3, x4, x5, x6, x7] 36)
  have hb6 := b6.size
  clear l6 c0 c1 c2 c3 c4 c5 c6 c7
  go_upto_region 10 with fail
  have hs6 : w6.heap.size < (w6.alloc (.cells #[x0, x1, x2, x3, x4, x5, x6, x7] 36)).heap.size := by simp
  generalize w6.alloc (.cells #[x0, x1, x2, x3, x4, x5, x6, x7] 36) = wa at *
  obtain ⟨c0, c1, c2, c3, c4, c5, c6, c7⟩ := cells8 CXB
  go_wp2_with fail
  refine (toProg_calls (Rd.mono t6 g) s2.out).mono ?_
  rintro e w7 ⟨cs7, rfl, o7, b7⟩
  obtain ⟨z0, z1, z2, z3, z4, z5, z6, z7, rfl⟩ := list8 (Rd.len o7.rd)
  have l7 := Rd.one o7.rd
  clear st0 st1 st2 st3 st4 st5 st6 st7
  have st0 := sto Tryz.prog (l7 z0 (by simp))
  have st1 := sto Tryz.prog (l7 z1 (by simp))
  have st2 := sto Tryz.prog (l7 z2 (by simp))
  have st3 := sto Tryz.prog (l7 z3 (by simp))
  have st4 := sto Tryz.prog (l7 z4 (by simp))
  have st5 := sto Tryz.prog (l7 z5 (by simp))
  have st6 := sto Tryz.prog (l7 z6 (by simp))
  have st7 := sto Tryz.prog (l7 z7 (by simp))
  have t7 := (t6.step b7).alloc (t6.step b7).size (.cells #[z0, z1, z2, z3, z4, z5, z6, z7] 36)
  have CZ := Cells.new w7 [z0, z1, z2, z3, z4, z5, z6, z7] 36
  have o6 := (o6.later b7).alloc (.cells #[z0, z1, z2, z3, z4, z5, z6, z7] 36)
  have o7 := o7.alloc (.cells #[z0, z1, z2, z3, z4, z5, z6, z7] 36)
  have CX := (CX.later b7).alloc (.cells #[z0, z1, z2, z3, z4, z5, z6, z7] 36)
  have CXA := (CXA.later b7).alloc (.cells #[z0, z1, z2, z3, z4, z5, z6, z7] 36)
  have CXB := (CXB.later b7).alloc (.cells #[z0, z1, z2, z3, z4, z5, z6, z7] 36)
  have hb7 := b7.size
  clear l7 c0 c1 c2 c3 c4 c5 c6 c7
  go_upto_region 11 with fail
  have hs7 : w7.heap.size < (w7.alloc (.cells #[z0, z1, z2, z3, z4, z5, z6, z7] 36)).heap.size := by simp
  generalize w7.alloc (.cells #[z0, z1, z2, z3, z4, z5, z6, z7] 36) = we at *
  clear st0 st1 st2 st3 st4 st5 st6 st7
  obtain ⟨c0, c1, c2, c3, c4, c5, c6, c7⟩ := cells8 CX
  obtain ⟨k0, k1, k2, k3, k4, k5, k6, k7⟩ := cells8 CZ
  go_wp2_with fail
  refine (implEqual_calls o6.rd o7.rd).mono ?_
  rintro e w8 ⟨rfl, b8⟩
  have t8 := t7.step b8
  have CX := CX.later b8
  have CZ := CZ.later b8
  have CXA := CXA.later b8
  have CXB := CXB.later b8
  have o6 := o6.later b8
  have o7 := o7.later b8
  clear c0 c1 c2 c3 c4 c5 c6 c7 k0 k1 k2 k3 k4 k5 k6 k7
  go_upto_region 14 with fail
  refine wp_region_held_drew (S := fun w' => (w'.cell? ⟨w6.heap.size, 0, none⟩ = some x0 ∧ w'.cell? ⟨w6.heap.size, 1, none⟩ = some x1 ∧ w'.cell? ⟨w6.heap.size, 2, none⟩ = some x2 ∧ w'.cell? ⟨w6.heap.size, 3, none⟩ = some x3 ∧ w'.cell? ⟨w6.heap.size, 4, none⟩ = some x4 ∧ w'.cell? ⟨w6.heap.size, 5, none⟩ = some x5 ∧ w'.cell? ⟨w6.heap.size, 6, none⟩ = some x6 ∧ w'.cell? ⟨w6.heap.size, 7, none⟩ = some x7) ∧ (w'.cell? ⟨w.heap.size, 0, none⟩ = some e0 ∧ w'.cell? ⟨w.heap.size, 1, none⟩ = some e1 ∧ w'.cell? ⟨w.heap.size, 2, none⟩ = some e2 ∧ w'.cell? ⟨w.heap.size, 3, none⟩ = some e3 ∧ w'.cell? ⟨w.heap.size, 4, none⟩ = some e4 ∧ w'.cell? ⟨w.heap.size, 5, none⟩ = some e5 ∧ w'.cell? ⟨w.heap.size, 6, none⟩ = some e6 ∧ w'.cell? ⟨w.heap.size, 7, none⟩ = some e7)) (by kernel_rfl) ⟨cells8 CX, cells8 CXA⟩ (fun hHeld => ?_)
  refine takeD (i := 0) (v := .agg #[x0, x1, x2, x3, x4, x5, x6, x7]) (some 35) rfl rfl (by kernel_rfl) (by kernel_rfl) (by kernel_rfl) (fun _ _ _ h => h) (Or.inl ⟨by rfl, fun w' hw' => ?_⟩) hHeld ?_
  · first | (go_simp; done) | (obtain ⟨⟨s0, s1, s2, s3, s4, s5, s6, s7⟩, r0, r1, r2, r3, r4, r5, r6, r7⟩ := hw'; go_simp; done)
  try simp only [Act.put, List.setIfInBounds_toArray, List.set_cons_zero, List.set_cons_succ]
  refine takeD (i := 1) (v := .agg #[e0, e1, e2, e3, e4, e5, e6, e7]) (some 36) rfl rfl (by kernel_rfl) (by kernel_rfl) (by kernel_rfl) (fun _ _ _ h => h) (Or.inl ⟨by rfl, fun w' hw' => ?_⟩) hHeld ?_
  · first | (go_simp; done) | (obtain ⟨⟨s0, s1, s2, s3, s4, s5, s6, s7⟩, r0, r1, r2, r3, r4, r5, r6, r7⟩ := hw'; go_simp; done)
  try simp only [Act.put, List.setIfInBounds_toArray, List.set_cons_zero, List.set_cons_succ]
  refine wpAnyH_ready (rs := [2]) (by kernel_rfl) (by simp) ?_
  refine AllReadyH.cons rfl (fun K hK => ?_) AllReadyH.nil
  go_simp
  refine (toProg_calls (Rd.mono t8.drew h) s1.out).mono ?_
  rintro e w9 ⟨cs9, rfl, o9, b9⟩
  have b9 := (Below.refl w8.heap.size w8).drew.step b9
  refine hK.out _ _ ⟨cells8 (CX.later b9), cells8 (CXA.later b9)⟩ (fun hHeld => ?_)
  clear hK K
  try simp only [Act.put, List.setIfInBounds_toArray, List.set_cons_zero, List.set_cons_succ]
  refine wpAnyH_ready (rs := [3]) (by kernel_rfl) (by simp) ?_
  refine AllReadyH.cons rfl (fun K hK => ?_) AllReadyH.nil
  go_simp
  refine (eqProg_calls (o6.later b9).rd o9.rd).mono ?_
  rintro e w10 ⟨rfl, b10⟩
  have b90 := b9.step b10
  refine hK.out _ _ ⟨cells8 (CX.later b90), cells8 (CXA.later b90)⟩ (fun hHeld => ?_)
  clear hK K
  try simp only [Act.put, List.setIfInBounds_toArray, List.set_cons_zero, List.set_cons_succ]
  refine takeD (i := 4) (v := .bool false) (some 39) rfl rfl (by kernel_rfl) (by kernel_rfl) (by kernel_rfl) (fun _ _ _ h => h) (Or.inl ⟨by rfl, fun w' hw' => ?_⟩) hHeld ?_
  · first | (go_simp; done) | (obtain ⟨⟨s0, s1, s2, s3, s4, s5, s6, s7⟩, r0, r1, r2, r3, r4, r5, r6, r7⟩ := hw'; go_simp; done)
  try simp only [Act.put, List.setIfInBounds_toArray, List.set_cons_zero, List.set_cons_succ]
  refine wpAnyH_done (by kernel_rfl) ?_ _
  have t10 := t8.step b90
  have CZ := CZ.later b90
  have CXB := CXB.later b90
  have o7 := o7.later b90
  clear o9 b9 b10 b90 hHeld
  go_upto_region 16 with fail
  refine wp_region_held_drew (S := fun w' => (w'.cell? ⟨w7.heap.size, 0, none⟩ = some z0 ∧ w'.cell? ⟨w7.heap.size, 1, none⟩ = some z1 ∧ w'.cell? ⟨w7.heap.size, 2, none⟩ = some z2 ∧ w'.cell? ⟨w7.heap.size, 3, none⟩ = some z3 ∧ w'.cell? ⟨w7.heap.size, 4, none⟩ = some z4 ∧ w'.cell? ⟨w7.heap.size, 5, none⟩ = some z5 ∧ w'.cell? ⟨w7.heap.size, 6, none⟩ = some z6 ∧ w'.cell? ⟨w7.heap.size, 7, none⟩ = some z7) ∧ (w'.cell? ⟨w.heap.size + 1, 0, none⟩ = some d0 ∧ w'.cell? ⟨w.heap.size + 1, 1, none⟩ = some d1 ∧ w'.cell? ⟨w.heap.size + 1, 2, none⟩ = some d2 ∧ w'.cell? ⟨w.heap.size + 1, 3, none⟩ = some d3 ∧ w'.cell? ⟨w.heap.size + 1, 4, none⟩ = some d4 ∧ w'.cell? ⟨w.heap.size + 1, 5, none⟩ = some d5 ∧ w'.cell? ⟨w.heap.size + 1, 6, none⟩ = some d6 ∧ w'.cell? ⟨w.heap.size + 1, 7, none⟩ = some d7)) (by kernel_rfl) ⟨cells8 CZ, cells8 CXB⟩ (fun hHeld => ?_)
  refine takeD (i := 0) (v := .agg #[z0, z1, z2, z3, z4, z5, z6, z7]) (some 40) rfl rfl (by kernel_rfl) (by kernel_rfl) (by kernel_rfl) (fun _ _ _ h => h) (Or.inl ⟨by rfl, fun w' hw' => ?_⟩) hHeld ?_
  · first | (go_simp; done) | (obtain ⟨⟨s0, s1, s2, s3, s4, s5, s6, s7⟩, r0, r1, r2, r3, r4, r5, r6, r7⟩ := hw'; go_simp; done)
  try simp only [Act.put, List.setIfInBounds_toArray, List.set_cons_zero, List.set_cons_succ]
  refine takeD (i := 1) (v := .agg #[d0, d1, d2, d3, d4, d5, d6, d7]) (some 41) rfl rfl (by kernel_rfl) (by kernel_rfl) (by kernel_rfl) (fun _ _ _ h => h) (Or.inl ⟨by rfl, fun w' hw' => ?_⟩) hHeld ?_
  · first | (go_simp; done) | (obtain ⟨⟨s0, s1, s2, s3, s4, s5, s6, s7⟩, r0, r1, r2, r3, r4, r5, r6, r7⟩ := hw'; go_simp; done)
  try simp only [Act.put, List.setIfInBounds_toArray, List.set_cons_zero, List.set_cons_succ]
  refine wpAnyH_ready (rs := [2]) (by kernel_rfl) (by simp) ?_
  refine AllReadyH.cons rfl (fun K hK => ?_) AllReadyH.nil
  go_simp
  refine (toProg_calls (Rd.mono t10.drew g) s2.out).mono ?_
  rintro e w11 ⟨cs11, rfl, o11, b11⟩
  have b11 := (Below.refl w10.heap.size w10).drew.step b11
  refine hK.out _ _ ⟨cells8 (CZ.later b11), cells8 (CXB.later b11)⟩ (fun hHeld => ?_)
  clear hK K
  try simp only [Act.put, List.setIfInBounds_toArray, List.set_cons_zero, List.set_cons_succ]
  refine wpAnyH_ready (rs := [3]) (by kernel_rfl) (by simp) ?_
  refine AllReadyH.cons rfl (fun K hK => ?_) AllReadyH.nil
  go_simp
  refine (eqProg_calls (o7.later b11).rd o11.rd).mono ?_
  rintro e w12 ⟨rfl, b12⟩
  have b112 := b11.step b12
  refine hK.out _ _ ⟨cells8 (CZ.later b112), cells8 (CXB.later b112)⟩ (fun hHeld => ?_)
  clear hK K
  try simp only [Act.put, List.setIfInBounds_toArray, List.set_cons_zero, List.set_cons_succ]
  refine takeD (i := 4) (v := .bool false) (some 44) rfl rfl (by kernel_rfl) (by kernel_rfl) (by kernel_rfl) (fun _ _ _ h => h) (Or.inl ⟨by rfl, fun w' hw' => ?_⟩) hHeld ?_
  · first | (go_simp; done) | (obtain ⟨⟨s0, s1, s2, s3, s4, s5, s6, s7⟩, r0, r1, r2, r3, r4, r5, r6, r7⟩ := hw'; go_simp; done)
  try simp only [Act.put, List.setIfInBounds_toArray, List.set_cons_zero, List.set_cons_succ]
  refine wpAnyH_done (by kernel_rfl) ?_ _
  go_wp2
  go_ret
  exact ⟨rfl, t10.step b112⟩

set_option maxRecDepth 100000 in
theorem lifted (os : Os) (started : os.Started) (H : Type) (enc : TypeId × Value → H) :
    ReturnsInHanded {} Tryz.checked os 6 .any (Rows.fnExactEqualSpec.pre6 enc Tryz.prog Tryz.f6 Rows.fnExactEqualRow.domain false) (Rows.fnExactEqualSpec.post enc Tryz.prog Tryz.f6 false true false false) := by
  refine returnsInHanded_of_change (C := Tryz.checked) own started (by kernel_rfl) Tryz.func6
    (ChangeSpec.witness6 (enc := enc) (C := Tryz.checked) false ⟨#[], #[.agg #[.int .i64 0, .slice none 0 0, .slice none 0 0, .bool false, .slice none 0 0, .slice none 0 0, .slice none 0 0, .slice none 0 0], .agg #[.int .i64 0, .slice none 0 0, .slice none 0 0, .bool false, .slice none 0 0, .slice none 0 0, .slice none 0 0, .slice none 0 0]], []⟩ 8 (by kernel_rfl) (by kernel_rfl) (by kernel_rfl) (by kernel_rfl)) ?_
  intro W base args ds gs before hval0 hW hcnd _
  have hval : ∀ (j : Nat) t v, Tryz.f6.params[j]? = some t → args[j]? = some v → Value.okWide Tryz.prog W .any base t v := hval0
  have hW' := hW
  obtain ⟨p, q, hA0, hV, rfl, hfz, hnd⟩ := hW
  have hA : DataW.TrodAll enc Tryz.prog W 0 (fun _ => true) true Tryz.f6.params.toList args.toList ds p := hA0
  rw [Tryz.params6] at hA hval
  obtain ⟨v0, vs0, d0, ds0, p0, q0, hargs, rfl, rfl, h0, r0⟩ := trodAll_cons hA
  obtain ⟨v1, vs1, d1, ds1, p1, q1, rfl, rfl, rfl, h1, r1⟩ := trodAll_cons r0
  obtain ⟨rfl, rfl, rfl⟩ := trodAll_nil r1
  obtain rfl : args = #[v0, v1] := by cases args; simp_all
  obtain ⟨rfl, rfl⟩ := trodVars_none hV
  have k0 := h0
  have lt0 : ∀ x ∈ p0, x.block < W.heap.size := by obtain ⟨m, hm⟩ := k0; exact DataW.trod_lt m _ _ _ hm
  obtain ⟨cs0, x0, rfl, w0⟩ := arg_struct Tryz.underlying28 opens_prog (hval 0 28 v0 rfl rfl) h0
  have k1 := h1
  have lt1 : ∀ x ∈ p1, x.block < W.heap.size := by obtain ⟨m, hm⟩ := k1; exact DataW.trod_lt m _ _ _ hm
  obtain ⟨cs1, x1, rfl, w1⟩ := arg_struct Tryz.underlying28 opens_prog (hval 1 28 v1 rfl rfl) h1
  clear hA0 hval0
  refine (law w0 w1).mono fun e W' ⟨he, bel⟩ => ?_
  subst he
  exact ⟨_, rfl, _, _, _, [], _, [], hW', trodAll_mk1 (shut_bool Tryz.underlying4 _), (trodAll_cons_mk (Below.trod laidOut (by kernel_rfl) (of_decide_eq_true (by kernel_rfl)) k0 bel lt0) (trodAll_cons_mk (Below.trod laidOut (by kernel_rfl) (of_decide_eq_true (by kernel_rfl)) k1 bel lt1) trodAll_mk0)), rfl, bel.frame _, fun h => by cases h⟩

theorem over : Rows.fnExactEqualRow.holds Tryz.pinned (OpenSpec.ofChange Rows.fnExactEqualSpec) :=
  OpenClaim.holds_of_wide 6 Tryz.f6 rfl rfl rfl rfl rfl rfl rfl ⟨rfl, rfl, rfl, rfl, rfl⟩ rfl rfl rfl rfl rfl (by kernel_rfl) Tryz.func6 (by kernel_rfl)
    (of_decide_eq_true (by kernel_rfl)) (by unfold Func.isWrapper; first | (rw [if_pos (by decide +kernel)]; kernel_rfl) | (rw [if_neg (by decide +kernel)]; exact ⟨rfl, rfl⟩))
    (fun os started H enc _ => lifted os started H enc)

theorem proved : Rows.FnExactEqualSaid := over
end Go.Proofs.YtleimijgpmoifaaGreat.fnExactEqual
