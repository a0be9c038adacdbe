/-
  laws.FnExactBoth returns true, whatever its arguments; they read afterwards as before.
  Conditions: none (what every row of this form says by itself: the arguments can be read as data).
-/
import Derived.Test.YtgckeaijbmcdcaaBothS
import Derived.Test.YtgckeaijbmcdcaaLawReg
import Derived.Deep.RegionHeld3
import Derived.Deep.DeepCutAuto
import Derived.Test.YtgckeaijbmcdcaaOpen
import Derived.Test.YtgckeaijbmcdcaaRows
import Derived.WalkKit
import Derived.ProofKit
import Derived.OpenShut
import Derived.ShutString
import Derived.ChangeOld
import Derived.Below
namespace Go.Proofs.Ytgckeaijbmcdcaa.fnExactBoth
open Go.ChangeShapes Go.WideShapes Go.ChangeAt Go.RowKit
open Go.ChangeMaps (open_string shut_string)
set_option linter.unusedVariables false

theorem own : ownKnob Try.prog.godebug = none := by kernel_rfl
theorem laidOut : laidOutB Try.prog = true := by kernel_rfl

theorem cntBoth {p q : ProgD} : (cntProgV (bothR p q) : Int) ≤ 20000000000000 := by
  cases hb : bothB p q
  · rw [bothR_no hb]; exact cntZero
  · rw [bothR_yes hb]
    have hpq : progOkB p = true ∧ progOkB q = true := by simp only [bothB, Bool.and_eq_true] at hb; exact hb.1
    have hb2 := bothB_C hpq.1 hpq.2
    rw [hb] at hb2
    exact cntSm (smOk hb2.symm)
set_option maxRecDepth 100000 in
set_option maxHeartbeats 40000000 in
theorem law {cs ds : List Value} {p q : ProgD} {w : World} (h : Rd.R w cs p) (g : Rd.R w ds q) :
    Calls Try.prog 3 #[.agg cs.toArray, .agg ds.toArray] w fun e w' => e = .returned (.bool true) ∧ Below w.heap.size w w' := by
  obtain ⟨e0, e1, e2, e3, e4, e5, e6, e7, rfl⟩ := list8 (Rd.len h)
  obtain ⟨d0, d1, d2, d3, d4, d5, d6, d7, rfl⟩ := list8 (Rd.len g)
  have t0 : Below w.heap.size w ((w.alloc (.cells #[e0, e1, e2, e3, e4, e5, e6, e7] 28)).alloc (.cells #[d0, d1, d2, d3, d4, d5, d6, d7] 28)) := ((Below.refl _ _).alloc (by simp) _).alloc (by simp) _
  have CXA := (Cells.new w [e0, e1, e2, e3, e4, e5, e6, e7] 28).alloc (.cells #[d0, d1, d2, d3, d4, d5, d6, d7] 28)
  have CXB := Cells.new (w.alloc (.cells #[e0, e1, e2, e3, e4, e5, e6, e7] 28)) [d0, d1, d2, d3, d4, d5, d6, d7] 28
  rw [World.size_alloc] at CXB
  go_enter Try.func3, Try.ntmps3
  go_wp2_with fail
  refine (szProg_calls 1048576 (Rd.mono t0 h) (by omega) (by omega)).mono ?_
  rintro e w1 ⟨⟨n1, rfl, _, m1, q1⟩, b1⟩
  have t1 := t0.step b1
  by_cases n01 : 0 ≤ n1
  case neg =>
    have hng : n1 < 0 := by omega
    clear n01 q1
    go_wp2
    go_ret
    exact ⟨rfl, t1⟩
  have s1 := Lib.hid (q1 n01)
  clear q1
  replace CXA := CXA.later b1
  obtain ⟨c0Aat1, c1Aat1, c2Aat1, c3Aat1, c4Aat1, c5Aat1, c6Aat1, c7Aat1⟩ := cells8 CXA
  have hlAat1 := CXA.lt
  replace CXB := CXB.later b1
  obtain ⟨c0Bat1, c1Bat1, c2Bat1, c3Bat1, c4Bat1, c5Bat1, c6Bat1, c7Bat1⟩ := cells8 CXB
  have hlBat1 := CXB.lt
  go_wp2_with fail
  refine (szProg_calls n1 (Rd.mono t1 g) n01 m1).mono ?_
  rintro e w2 ⟨⟨n2, rfl, _, m2, q2⟩, b2⟩
  have t2 := t1.step b2
  by_cases n02 : 0 ≤ n2
  case neg =>
    have hng : n2 < 0 := by omega
    clear n02 q2
    go_wp2
    go_ret
    exact ⟨rfl, t2⟩
  have s2 := Lib.hid (q2 n02)
  clear q2
  replace CXA := CXA.later b2
  obtain ⟨c0Aat2, c1Aat2, c2Aat2, c3Aat2, c4Aat2, c5Aat2, c6Aat2, c7Aat2⟩ := cells8 CXA
  have hlAat2 := CXA.lt
  replace CXB := CXB.later b2
  obtain ⟨c0Bat2, c1Bat2, c2Bat2, c3Bat2, c4Bat2, c5Bat2, c6Bat2, c7Bat2⟩ := cells8 CXB
  have hlBat2 := CXB.lt
  clear c0Aat1 c1Aat1 c2Aat1 c3Aat1 c4Aat1 c5Aat1 c6Aat1 c7Aat1 c0Bat1 c1Bat1 c2Bat1 c3Bat1 c4Bat1 c5Bat1 c6Bat1 c7Bat1
  go_upto_region 8 with fail
  clear c0Aat2 c1Aat2 c2Aat2 c3Aat2 c4Aat2 c5Aat2 c6Aat2 c7Aat2 c0Bat2 c1Bat2 c2Bat2 c3Bat2 c4Bat2 c5Bat2 c6Bat2 c7Bat2
  go_cut [6, 7] (fun v6 v7 wx => RegP w2.heap.size w2 (bothR p q) (bothB p q) v6 v7 wx)
  case first =>
    have szB : w.heap.size + 1 < w2.heap.size := CXB.lt
    have keepS : ∀ w', Below w2.heap.size w2 w' → ((w'.cell? ⟨w.heap.size, 0, none⟩ = some e0 ∧ w'.cell? ⟨w.heap.size, 1, none⟩ = some e1 ∧ w'.cell? ⟨w.heap.size, 2, none⟩ = some e2 ∧ w'.cell? ⟨w.heap.size, 3, none⟩ = some e3 ∧ w'.cell? ⟨w.heap.size, 4, none⟩ = some e4 ∧ w'.cell? ⟨w.heap.size, 5, none⟩ = some e5 ∧ w'.cell? ⟨w.heap.size, 6, none⟩ = some e6 ∧ w'.cell? ⟨w.heap.size, 7, none⟩ = some e7) ∧ (w'.cell? ⟨w.heap.size + 1, 0, none⟩ = some d0 ∧ w'.cell? ⟨w.heap.size + 1, 1, none⟩ = some d1 ∧ w'.cell? ⟨w.heap.size + 1, 2, none⟩ = some d2 ∧ w'.cell? ⟨w.heap.size + 1, 3, none⟩ = some d3 ∧ w'.cell? ⟨w.heap.size + 1, 4, none⟩ = some d4 ∧ w'.cell? ⟨w.heap.size + 1, 5, none⟩ = some d5 ∧ w'.cell? ⟨w.heap.size + 1, 6, none⟩ = some d6 ∧ w'.cell? ⟨w.heap.size + 1, 7, none⟩ = some d7)) := fun w' hb => ⟨cells8 (CXA.later hb), cells8 (CXB.later hb)⟩
    have B0 := (Below.refl w2.heap.size w2).drew
    have T0 := t2.drew
    have hzD : w2.drew.heap.size = w2.heap.size := rfl
    refine wp_region_held_drew (S := fun w' => (w'.cell? ⟨w.heap.size, 0, none⟩ = some e0 ∧ w'.cell? ⟨w.heap.size, 1, none⟩ = some e1 ∧ w'.cell? ⟨w.heap.size, 2, none⟩ = some e2 ∧ w'.cell? ⟨w.heap.size, 3, none⟩ = some e3 ∧ w'.cell? ⟨w.heap.size, 4, none⟩ = some e4 ∧ w'.cell? ⟨w.heap.size, 5, none⟩ = some e5 ∧ w'.cell? ⟨w.heap.size, 6, none⟩ = some e6 ∧ w'.cell? ⟨w.heap.size, 7, none⟩ = some e7) ∧ (w'.cell? ⟨w.heap.size + 1, 0, none⟩ = some d0 ∧ w'.cell? ⟨w.heap.size + 1, 1, none⟩ = some d1 ∧ w'.cell? ⟨w.heap.size + 1, 2, none⟩ = some d2 ∧ w'.cell? ⟨w.heap.size + 1, 3, none⟩ = some d3 ∧ w'.cell? ⟨w.heap.size + 1, 4, none⟩ = some d4 ∧ w'.cell? ⟨w.heap.size + 1, 5, none⟩ = some d5 ∧ w'.cell? ⟨w.heap.size + 1, 6, none⟩ = some d6 ∧ w'.cell? ⟨w.heap.size + 1, 7, none⟩ = some d7)) (by kernel_rfl) (keepS _ B0) (fun hHeld => ?_)
    refine takeD (i := 0) (v := .agg #[e0, e1, e2, e3, e4, e5, e6, e7]) (some 28) rfl rfl (by kernel_rfl) (by kernel_rfl) (by kernel_rfl) (fun _ _ _ h => h) (Or.inl ⟨by rfl, fun w' hw' => ?_⟩) hHeld ?_
    · first | (go_simp; done) | (obtain ⟨⟨q0, q1, q2, q3, q4, q5, q6, q7⟩, u0, u1, u2, u3, u4, u5, u6, u7⟩ := hw'; go_simp)
    try simp only [Act.put, List.setIfInBounds_toArray, List.set_cons_zero, List.set_cons_succ]
    refine takeD (i := 2) (v := .agg #[d0, d1, d2, d3, d4, d5, d6, d7]) (some 30) rfl rfl (by kernel_rfl) (by kernel_rfl) (by kernel_rfl) (fun _ _ _ h => h) (Or.inl ⟨by rfl, fun w' hw' => ?_⟩) hHeld ?_
    · first | (go_simp; done) | (obtain ⟨⟨q0, q1, q2, q3, q4, q5, q6, q7⟩, u0, u1, u2, u3, u4, u5, u6, u7⟩ := hw'; go_simp)
    try simp only [Act.put, List.setIfInBounds_toArray, List.set_cons_zero, List.set_cons_succ]
    refine wpAnyH_ready (rs := [1, 8]) (by kernel_rfl) (by simp) ?_
    refine AllReadyH.cons rfl (fun K hK => ?_) (AllReadyH.cons rfl (fun K hK => ?_) AllReadyH.nil)
    · skip
      go_simp
      refine (toProg_calls (Rd.mono T0 h) s1.out).mono ?_
      rintro e wa ⟨ca, rfl, oa, ba⟩
      have B1 := B0.step ba
      have T1 := T0.step ba
      have ra := oa.rd
      refine hK.out _ _ (keepS _ B1) (fun hHeld => ?_)
      clear hK K
      try simp only [Act.put, List.setIfInBounds_toArray, List.set_cons_zero, List.set_cons_succ]
      refine wpAnyH_ready (rs := [3, 8]) (by kernel_rfl) (by simp) ?_
      refine AllReadyH.cons rfl (fun K hK => ?_) (AllReadyH.cons rfl (fun K hK => ?_) AllReadyH.nil)
      · skip
        go_simp
        refine (toProg_calls (Rd.mono T1 g) s2.out).mono ?_
        rintro e wb ⟨cb, rfl, ob, bb⟩
        have B2 := B1.step bb
        have T2 := T1.step bb
        have rb := ob.rd
        have ra := Rd.mono bb ra
        refine hK.out _ _ (keepS _ B2) (fun hHeld => ?_)
        clear hK K
        try simp only [Act.put, List.setIfInBounds_toArray, List.set_cons_zero, List.set_cons_succ]
        refine wpAnyH_ready (rs := [4, 8]) (by kernel_rfl) (by simp) ?_
        refine AllReadyH.cons rfl (fun K hK => ?_) (AllReadyH.cons rfl (fun K hK => ?_) AllReadyH.nil)
        · skip
          go_simp
          refine (specBoth_calls ra rb).mono ?_
          rintro e wc ⟨cc, rfl, oc, bc⟩
          have B3 := B2.step bc
          have T3 := T2.step bc
          obtain ⟨fp, oc, hfp⟩ := oc
          obtain ⟨x0, x1, x2, x3, x4, x5, x6, x7, rfl⟩ := list8 (Rd.len (Ow.rd oc))
          refine hK.out _ _ (keepS _ B3) (fun hHeld => ?_)
          clear hK K
          try simp only [Act.put, List.setIfInBounds_toArray, List.set_cons_zero, List.set_cons_succ]
          refine takeD (i := 5) (v := .tuple #[.agg #[x0, x1, x2, x3, x4, x5, x6, x7], .bool (bothB p q)]) (some 27) rfl rfl (by kernel_rfl) (by kernel_rfl) (by kernel_rfl) (fun _ _ _ h => h) (Or.inl ⟨by rfl, fun w' hw' => ?_⟩) hHeld ?_
          · first | (go_simp; done) | (obtain ⟨⟨q0, q1, q2, q3, q4, q5, q6, q7⟩, u0, u1, u2, u3, u4, u5, u6, u7⟩ := hw'; go_simp)
          try simp only [Act.put, List.setIfInBounds_toArray, List.set_cons_zero, List.set_cons_succ]
          refine takeD (i := 6) (v := .agg #[x0, x1, x2, x3, x4, x5, x6, x7]) (some 33) rfl rfl (by kernel_rfl) (by kernel_rfl) (by kernel_rfl) (fun _ _ _ h => h) (Or.inl ⟨by rfl, fun w' hw' => ?_⟩) hHeld ?_
          · first | (go_simp; done) | (obtain ⟨⟨q0, q1, q2, q3, q4, q5, q6, q7⟩, u0, u1, u2, u3, u4, u5, u6, u7⟩ := hw'; go_simp)
          try simp only [Act.put, List.setIfInBounds_toArray, List.set_cons_zero, List.set_cons_succ]
          refine takeD (i := 7) (v := .bool (bothB p q)) (some 34) rfl rfl (by kernel_rfl) (by kernel_rfl) (by kernel_rfl) (fun _ _ _ h => h) (Or.inl ⟨by rfl, fun w' hw' => ?_⟩) hHeld ?_
          · first | (go_simp; done) | (obtain ⟨⟨q0, q1, q2, q3, q4, q5, q6, q7⟩, u0, u1, u2, u3, u4, u5, u6, u7⟩ := hw'; go_simp)
          try simp only [Act.put, List.setIfInBounds_toArray, List.set_cons_zero, List.set_cons_succ]
          have hzB := B2.size
          have hzC := B3.size
          have hlt := Ow.lt oc
          refine wpAnyH_ready (rs := [8]) (by kernel_rfl) (by simp) ?_
          refine AllReadyH.cons rfl (fun K hK => ?_) AllReadyH.nil
          go_simp
          have bA := (Below.refl wc.heap.size wc).alloc (Nat.le_refl _) (.cells #[.int .i64 0, .slice none 0 0, .slice none 0 0, .bool false, .slice none 0 0, .slice none 0 0, .slice none 0 0, .slice none 0 0] 35)
          have B4 := B3.step bA
          have T4 := T3.step bA
          have HG := alloc_block wc #[.int .i64 0, .slice none 0 0, .slice none 0 0, .bool false, .slice none 0 0, .slice none 0 0, .slice none 0 0, .slice none 0 0] 35
          refine hK.out _ _ (keepS _ B4) (fun hHeld => ?_)
          clear hK K
          try simp only [Act.put, List.setIfInBounds_toArray, List.set_cons_zero, List.set_cons_succ]
          have oc' := Ow.kept oc fun a ha => bA.block a (hlt a ha)
          have hnq : ∀ a ∈ fp, w2.heap.size ≤ a ∧ a ≠ wc.heap.size := fun a ha => by have := hlt a ha; have := hfp a ha; omega
          clear bA hlt
          generalize wc.alloc (.cells #[.int .i64 0, .slice none 0 0, .slice none 0 0, .bool false, .slice none 0 0, .slice none 0 0, .slice none 0 0, .slice none 0 0] 35) = wd at oc' HG B4 T4 ⊢
          have hfq := fun j => frozen_of_row (wd) (wc.heap.size) j _ _ HG
          have CZ : Cells (wd) (wc.heap.size) 0 [.int .i64 0, .slice none 0 0, .slice none 0 0, .bool false, .slice none 0 0, .slice none 0 0, .slice none 0 0, .slice none 0 0] := fun j v hv => by
            rw [Nat.zero_add, cell_of_row (wd) (wc.heap.size) j _ _ _ HG]; simpa using hv
          obtain ⟨z0, z1, z2, z3, z4, z5, z6, z7⟩ := cells8 CZ
          have lx := Rd.one (Ow.rd oc')
          have st0 := sto Try.prog (lx x0 (by simp))
          have st1 := sto Try.prog (lx x1 (by simp))
          have st2 := sto Try.prog (lx x2 (by simp))
          have st3 := sto Try.prog (lx x3 (by simp))
          have st4 := sto Try.prog (lx x4 (by simp))
          have st5 := sto Try.prog (lx x5 (by simp))
          have st6 := sto Try.prog (lx x6 (by simp))
          have st7 := sto Try.prog (lx x7 (by simp))
          have HR := Lib.hid ((regP_put (b := bothB p q) oc' hnq HG rfl hzC B4))
          have BP := HR.out.bel
          refine wpAnyH_ready (rs := [9]) (by kernel_rfl) (by simp) ?_
          refine AllReadyH.cons rfl (fun K hK => ?_) AllReadyH.nil
          go_simp
          refine hK.out _ (put (wd) (wc.heap.size) 0 [x0, x1, x2, x3, x4, x5, x6, x7]) (keepS _ BP) (fun hHeld => ?_)
          clear hK K
          try simp only [Act.put, List.setIfInBounds_toArray, List.set_cons_zero, List.set_cons_succ]
          clear z0 z1 z2 z3 z4 z5 z6 z7 CZ hfq lx st0 st1 st2 st3 st4 st5 st6 st7
          refine wpAnyH_ready (rs := [10]) (by kernel_rfl) (by simp) ?_
          refine AllReadyH.cons rfl (fun K hK => ?_) AllReadyH.nil
          go_simp
          refine hK.out _ _ (keepS _ BP) (fun hHeld => ?_)
          clear hK K
          try simp only [Act.put, List.setIfInBounds_toArray, List.set_cons_zero, List.set_cons_succ]
          refine wpAnyH_done (by kernel_rfl) ?_ _
          go_wp2_with fail
          go_meet
          exact HR.out
        · skip
          have hzB := B2.size
          go_simp
          have bA := (Below.refl wb.heap.size wb).alloc (Nat.le_refl _) (.cells #[.int .i64 0, .slice none 0 0, .slice none 0 0, .bool false, .slice none 0 0, .slice none 0 0, .slice none 0 0, .slice none 0 0] 35)
          have B3 := B2.step bA
          have T3 := T2.step bA
          have HG := alloc_block wb #[.int .i64 0, .slice none 0 0, .slice none 0 0, .bool false, .slice none 0 0, .slice none 0 0, .slice none 0 0, .slice none 0 0] 35
          have ra := Rd.mono bA ra
          have rb := Rd.mono bA rb
          refine hK.out _ _ (keepS _ B3) (fun hHeld => ?_)
          clear hK K
          try simp only [Act.put, List.setIfInBounds_toArray, List.set_cons_zero, List.set_cons_succ]
          refine wpAnyH_ready (rs := [4]) (by kernel_rfl) (by simp) ?_
          refine AllReadyH.cons rfl (fun K hK => ?_) AllReadyH.nil
          go_simp
          refine (specBoth_calls ra rb).mono ?_
          rintro e wc ⟨cc, rfl, oc, bc⟩
          have B4 := B3.step bc
          have T4 := T3.step bc
          obtain ⟨fp, oc, hfp⟩ := oc
          obtain ⟨x0, x1, x2, x3, x4, x5, x6, x7, rfl⟩ := list8 (Rd.len (Ow.rd oc))
          have hlg := block_lt HG
          have HG := (bc.block _ (block_lt HG)).trans HG
          refine hK.out _ _ (keepS _ B4) (fun hHeld => ?_)
          clear hK K
          try simp only [Act.put, List.setIfInBounds_toArray, List.set_cons_zero, List.set_cons_succ]
          refine takeD (i := 5) (v := .tuple #[.agg #[x0, x1, x2, x3, x4, x5, x6, x7], .bool (bothB p q)]) (some 27) rfl rfl (by kernel_rfl) (by kernel_rfl) (by kernel_rfl) (fun _ _ _ h => h) (Or.inl ⟨by rfl, fun w' hw' => ?_⟩) hHeld ?_
          · first | (go_simp; done) | (obtain ⟨⟨q0, q1, q2, q3, q4, q5, q6, q7⟩, u0, u1, u2, u3, u4, u5, u6, u7⟩ := hw'; go_simp)
          try simp only [Act.put, List.setIfInBounds_toArray, List.set_cons_zero, List.set_cons_succ]
          refine takeD (i := 6) (v := .agg #[x0, x1, x2, x3, x4, x5, x6, x7]) (some 33) rfl rfl (by kernel_rfl) (by kernel_rfl) (by kernel_rfl) (fun _ _ _ h => h) (Or.inl ⟨by rfl, fun w' hw' => ?_⟩) hHeld ?_
          · first | (go_simp; done) | (obtain ⟨⟨q0, q1, q2, q3, q4, q5, q6, q7⟩, u0, u1, u2, u3, u4, u5, u6, u7⟩ := hw'; go_simp)
          try simp only [Act.put, List.setIfInBounds_toArray, List.set_cons_zero, List.set_cons_succ]
          refine takeD (i := 7) (v := .bool (bothB p q)) (some 34) rfl rfl (by kernel_rfl) (by kernel_rfl) (by kernel_rfl) (fun _ _ _ h => h) (Or.inl ⟨by rfl, fun w' hw' => ?_⟩) hHeld ?_
          · first | (go_simp; done) | (obtain ⟨⟨q0, q1, q2, q3, q4, q5, q6, q7⟩, u0, u1, u2, u3, u4, u5, u6, u7⟩ := hw'; go_simp)
          try simp only [Act.put, List.setIfInBounds_toArray, List.set_cons_zero, List.set_cons_succ]
          have hnq : ∀ a ∈ fp, w2.heap.size ≤ a ∧ a ≠ wb.heap.size := fun a ha => by have := hfp a ha; have hq := B3.size; rw [World.size_alloc] at this hq; omega
          have hfq := fun j => frozen_of_row (wc) (wb.heap.size) j _ _ HG
          have CZ : Cells (wc) (wb.heap.size) 0 [.int .i64 0, .slice none 0 0, .slice none 0 0, .bool false, .slice none 0 0, .slice none 0 0, .slice none 0 0, .slice none 0 0] := fun j v hv => by
            rw [Nat.zero_add, cell_of_row (wc) (wb.heap.size) j _ _ _ HG]; simpa using hv
          obtain ⟨z0, z1, z2, z3, z4, z5, z6, z7⟩ := cells8 CZ
          have lx := Rd.one (Ow.rd oc)
          have st0 := sto Try.prog (lx x0 (by simp))
          have st1 := sto Try.prog (lx x1 (by simp))
          have st2 := sto Try.prog (lx x2 (by simp))
          have st3 := sto Try.prog (lx x3 (by simp))
          have st4 := sto Try.prog (lx x4 (by simp))
          have st5 := sto Try.prog (lx x5 (by simp))
          have st6 := sto Try.prog (lx x6 (by simp))
          have st7 := sto Try.prog (lx x7 (by simp))
          have HR := Lib.hid ((regP_put (b := bothB p q) oc hnq HG rfl hzB B4))
          have BP := HR.out.bel
          refine wpAnyH_ready (rs := [9]) (by kernel_rfl) (by simp) ?_
          refine AllReadyH.cons rfl (fun K hK => ?_) AllReadyH.nil
          go_simp
          refine hK.out _ (put (wc) (wb.heap.size) 0 [x0, x1, x2, x3, x4, x5, x6, x7]) (keepS _ BP) (fun hHeld => ?_)
          clear hK K
          try simp only [Act.put, List.setIfInBounds_toArray, List.set_cons_zero, List.set_cons_succ]
          clear z0 z1 z2 z3 z4 z5 z6 z7 CZ hfq lx st0 st1 st2 st3 st4 st5 st6 st7
          refine wpAnyH_ready (rs := [10]) (by kernel_rfl) (by simp) ?_
          refine AllReadyH.cons rfl (fun K hK => ?_) AllReadyH.nil
          go_simp
          refine hK.out _ _ (keepS _ BP) (fun hHeld => ?_)
          clear hK K
          try simp only [Act.put, List.setIfInBounds_toArray, List.set_cons_zero, List.set_cons_succ]
          refine wpAnyH_done (by kernel_rfl) ?_ _
          go_wp2_with fail
          go_meet
          exact HR.out
      · skip
        have hzB := B1.size
        go_simp
        have bA := (Below.refl wa.heap.size wa).alloc (Nat.le_refl _) (.cells #[.int .i64 0, .slice none 0 0, .slice none 0 0, .bool false, .slice none 0 0, .slice none 0 0, .slice none 0 0, .slice none 0 0] 35)
        have B2 := B1.step bA
        have T2 := T1.step bA
        have HG := alloc_block wa #[.int .i64 0, .slice none 0 0, .slice none 0 0, .bool false, .slice none 0 0, .slice none 0 0, .slice none 0 0, .slice none 0 0] 35
        have ra := Rd.mono bA ra
        refine hK.out _ _ (keepS _ B2) (fun hHeld => ?_)
        clear hK K
        try simp only [Act.put, List.setIfInBounds_toArray, List.set_cons_zero, List.set_cons_succ]
        refine wpAnyH_ready (rs := [3]) (by kernel_rfl) (by simp) ?_
        refine AllReadyH.cons rfl (fun K hK => ?_) AllReadyH.nil
        go_simp
        refine (toProg_calls (Rd.mono T2 g) s2.out).mono ?_
        rintro e wb ⟨cb, rfl, ob, bb⟩
        have B3 := B2.step bb
        have T3 := T2.step bb
        have rb := ob.rd
        have ra := Rd.mono bb ra
        have HG := (bb.block _ (block_lt HG)).trans HG
        refine hK.out _ _ (keepS _ B3) (fun hHeld => ?_)
        clear hK K
        try simp only [Act.put, List.setIfInBounds_toArray, List.set_cons_zero, List.set_cons_succ]
        refine wpAnyH_ready (rs := [4]) (by kernel_rfl) (by simp) ?_
        refine AllReadyH.cons rfl (fun K hK => ?_) AllReadyH.nil
        go_simp
        refine (specBoth_calls ra rb).mono ?_
        rintro e wc ⟨cc, rfl, oc, bc⟩
        have B4 := B3.step bc
        have T4 := T3.step bc
        obtain ⟨fp, oc, hfp⟩ := oc
        obtain ⟨x0, x1, x2, x3, x4, x5, x6, x7, rfl⟩ := list8 (Rd.len (Ow.rd oc))
        have hlg := block_lt HG
        have HG := (bc.block _ (block_lt HG)).trans HG
        refine hK.out _ _ (keepS _ B4) (fun hHeld => ?_)
        clear hK K
        try simp only [Act.put, List.setIfInBounds_toArray, List.set_cons_zero, List.set_cons_succ]
        refine takeD (i := 5) (v := .tuple #[.agg #[x0, x1, x2, x3, x4, x5, x6, x7], .bool (bothB p q)]) (some 27) rfl rfl (by kernel_rfl) (by kernel_rfl) (by kernel_rfl) (fun _ _ _ h => h) (Or.inl ⟨by rfl, fun w' hw' => ?_⟩) hHeld ?_
        · first | (go_simp; done) | (obtain ⟨⟨q0, q1, q2, q3, q4, q5, q6, q7⟩, u0, u1, u2, u3, u4, u5, u6, u7⟩ := hw'; go_simp)
        try simp only [Act.put, List.setIfInBounds_toArray, List.set_cons_zero, List.set_cons_succ]
        refine takeD (i := 6) (v := .agg #[x0, x1, x2, x3, x4, x5, x6, x7]) (some 33) rfl rfl (by kernel_rfl) (by kernel_rfl) (by kernel_rfl) (fun _ _ _ h => h) (Or.inl ⟨by rfl, fun w' hw' => ?_⟩) hHeld ?_
        · first | (go_simp; done) | (obtain ⟨⟨q0, q1, q2, q3, q4, q5, q6, q7⟩, u0, u1, u2, u3, u4, u5, u6, u7⟩ := hw'; go_simp)
        try simp only [Act.put, List.setIfInBounds_toArray, List.set_cons_zero, List.set_cons_succ]
        refine takeD (i := 7) (v := .bool (bothB p q)) (some 34) rfl rfl (by kernel_rfl) (by kernel_rfl) (by kernel_rfl) (fun _ _ _ h => h) (Or.inl ⟨by rfl, fun w' hw' => ?_⟩) hHeld ?_
        · first | (go_simp; done) | (obtain ⟨⟨q0, q1, q2, q3, q4, q5, q6, q7⟩, u0, u1, u2, u3, u4, u5, u6, u7⟩ := hw'; go_simp)
        try simp only [Act.put, List.setIfInBounds_toArray, List.set_cons_zero, List.set_cons_succ]
        have hnq : ∀ a ∈ fp, w2.heap.size ≤ a ∧ a ≠ wa.heap.size := fun a ha => by have := hfp a ha; have hq := bb.size; rw [World.size_alloc] at hq; omega
        have hfq := fun j => frozen_of_row (wc) (wa.heap.size) j _ _ HG
        have CZ : Cells (wc) (wa.heap.size) 0 [.int .i64 0, .slice none 0 0, .slice none 0 0, .bool false, .slice none 0 0, .slice none 0 0, .slice none 0 0, .slice none 0 0] := fun j v hv => by
          rw [Nat.zero_add, cell_of_row (wc) (wa.heap.size) j _ _ _ HG]; simpa using hv
        obtain ⟨z0, z1, z2, z3, z4, z5, z6, z7⟩ := cells8 CZ
        have lx := Rd.one (Ow.rd oc)
        have st0 := sto Try.prog (lx x0 (by simp))
        have st1 := sto Try.prog (lx x1 (by simp))
        have st2 := sto Try.prog (lx x2 (by simp))
        have st3 := sto Try.prog (lx x3 (by simp))
        have st4 := sto Try.prog (lx x4 (by simp))
        have st5 := sto Try.prog (lx x5 (by simp))
        have st6 := sto Try.prog (lx x6 (by simp))
        have st7 := sto Try.prog (lx x7 (by simp))
        have HR := Lib.hid ((regP_put (b := bothB p q) oc hnq HG rfl hzB B4))
        have BP := HR.out.bel
        refine wpAnyH_ready (rs := [9]) (by kernel_rfl) (by simp) ?_
        refine AllReadyH.cons rfl (fun K hK => ?_) AllReadyH.nil
        go_simp
        refine hK.out _ (put (wc) (wa.heap.size) 0 [x0, x1, x2, x3, x4, x5, x6, x7]) (keepS _ BP) (fun hHeld => ?_)
        clear hK K
        try simp only [Act.put, List.setIfInBounds_toArray, List.set_cons_zero, List.set_cons_succ]
        clear z0 z1 z2 z3 z4 z5 z6 z7 CZ hfq lx st0 st1 st2 st3 st4 st5 st6 st7
        refine wpAnyH_ready (rs := [10]) (by kernel_rfl) (by simp) ?_
        refine AllReadyH.cons rfl (fun K hK => ?_) AllReadyH.nil
        go_simp
        refine hK.out _ _ (keepS _ BP) (fun hHeld => ?_)
        clear hK K
        try simp only [Act.put, List.setIfInBounds_toArray, List.set_cons_zero, List.set_cons_succ]
        refine wpAnyH_done (by kernel_rfl) ?_ _
        go_wp2_with fail
        go_meet
        exact HR.out
    · skip
      go_simp
      have bA := (Below.refl w2.drew.heap.size w2.drew).alloc (Nat.le_refl _) (.cells #[.int .i64 0, .slice none 0 0, .slice none 0 0, .bool false, .slice none 0 0, .slice none 0 0, .slice none 0 0, .slice none 0 0] 35)
      have B1 := B0.step bA
      have T1 := T0.step bA
      have HG := alloc_block w2.drew #[.int .i64 0, .slice none 0 0, .slice none 0 0, .bool false, .slice none 0 0, .slice none 0 0, .slice none 0 0, .slice none 0 0] 35
      refine hK.out _ _ (keepS _ B1) (fun hHeld => ?_)
      clear hK K
      try simp only [Act.put, List.setIfInBounds_toArray, List.set_cons_zero, List.set_cons_succ]
      refine wpAnyH_ready (rs := [1]) (by kernel_rfl) (by simp) ?_
      refine AllReadyH.cons rfl (fun K hK => ?_) AllReadyH.nil
      go_simp
      refine (toProg_calls (Rd.mono T1 h) s1.out).mono ?_
      rintro e wa ⟨ca, rfl, oa, ba⟩
      have B2 := B1.step ba
      have T2 := T1.step ba
      have ra := oa.rd
      have HG := (ba.block _ (block_lt HG)).trans HG
      refine hK.out _ _ (keepS _ B2) (fun hHeld => ?_)
      clear hK K
      try simp only [Act.put, List.setIfInBounds_toArray, List.set_cons_zero, List.set_cons_succ]
      refine wpAnyH_ready (rs := [3]) (by kernel_rfl) (by simp) ?_
      refine AllReadyH.cons rfl (fun K hK => ?_) AllReadyH.nil
      go_simp
      refine (toProg_calls (Rd.mono T2 g) s2.out).mono ?_
      rintro e wb ⟨cb, rfl, ob, bb⟩
      have B3 := B2.step bb
      have T3 := T2.step bb
      have rb := ob.rd
      have ra := Rd.mono bb ra
      have HG := (bb.block _ (block_lt HG)).trans HG
      refine hK.out _ _ (keepS _ B3) (fun hHeld => ?_)
      clear hK K
      try simp only [Act.put, List.setIfInBounds_toArray, List.set_cons_zero, List.set_cons_succ]
      refine wpAnyH_ready (rs := [4]) (by kernel_rfl) (by simp) ?_
      refine AllReadyH.cons rfl (fun K hK => ?_) AllReadyH.nil
      go_simp
      refine (specBoth_calls ra rb).mono ?_
      rintro e wc ⟨cc, rfl, oc, bc⟩
      have B4 := B3.step bc
      have T4 := T3.step bc
      obtain ⟨fp, oc, hfp⟩ := oc
      obtain ⟨x0, x1, x2, x3, x4, x5, x6, x7, rfl⟩ := list8 (Rd.len (Ow.rd oc))
      have hlg := block_lt HG
      have HG := (bc.block _ (block_lt HG)).trans HG
      refine hK.out _ _ (keepS _ B4) (fun hHeld => ?_)
      clear hK K
      try simp only [Act.put, List.setIfInBounds_toArray, List.set_cons_zero, List.set_cons_succ]
      refine takeD (i := 5) (v := .tuple #[.agg #[x0, x1, x2, x3, x4, x5, x6, x7], .bool (bothB p q)]) (some 27) rfl rfl (by kernel_rfl) (by kernel_rfl) (by kernel_rfl) (fun _ _ _ h => h) (Or.inl ⟨by rfl, fun w' hw' => ?_⟩) hHeld ?_
      · first | (go_simp; done) | (obtain ⟨⟨q0, q1, q2, q3, q4, q5, q6, q7⟩, u0, u1, u2, u3, u4, u5, u6, u7⟩ := hw'; go_simp)
      try simp only [Act.put, List.setIfInBounds_toArray, List.set_cons_zero, List.set_cons_succ]
      refine takeD (i := 6) (v := .agg #[x0, x1, x2, x3, x4, x5, x6, x7]) (some 33) rfl rfl (by kernel_rfl) (by kernel_rfl) (by kernel_rfl) (fun _ _ _ h => h) (Or.inl ⟨by rfl, fun w' hw' => ?_⟩) hHeld ?_
      · first | (go_simp; done) | (obtain ⟨⟨q0, q1, q2, q3, q4, q5, q6, q7⟩, u0, u1, u2, u3, u4, u5, u6, u7⟩ := hw'; go_simp)
      try simp only [Act.put, List.setIfInBounds_toArray, List.set_cons_zero, List.set_cons_succ]
      refine takeD (i := 7) (v := .bool (bothB p q)) (some 34) rfl rfl (by kernel_rfl) (by kernel_rfl) (by kernel_rfl) (fun _ _ _ h => h) (Or.inl ⟨by rfl, fun w' hw' => ?_⟩) hHeld ?_
      · first | (go_simp; done) | (obtain ⟨⟨q0, q1, q2, q3, q4, q5, q6, q7⟩, u0, u1, u2, u3, u4, u5, u6, u7⟩ := hw'; go_simp)
      try simp only [Act.put, List.setIfInBounds_toArray, List.set_cons_zero, List.set_cons_succ]
      have hnq : ∀ a ∈ fp, w2.heap.size ≤ a ∧ a ≠ w2.heap.size := fun a ha => by have := hfp a ha; have hq := ba.size; have hq2 := bb.size; rw [World.size_alloc] at hq; omega
      replace HG : wc.heap[w2.heap.size]? = _ := HG
      have hfq := fun j => frozen_of_row (wc) (w2.heap.size) j _ _ HG
      have CZ : Cells (wc) (w2.heap.size) 0 [.int .i64 0, .slice none 0 0, .slice none 0 0, .bool false, .slice none 0 0, .slice none 0 0, .slice none 0 0, .slice none 0 0] := fun j v hv => by
        rw [Nat.zero_add, cell_of_row (wc) (w2.heap.size) j _ _ _ HG]; simpa using hv
      obtain ⟨z0, z1, z2, z3, z4, z5, z6, z7⟩ := cells8 CZ
      have lx := Rd.one (Ow.rd oc)
      have st0 := sto Try.prog (lx x0 (by simp))
      have st1 := sto Try.prog (lx x1 (by simp))
      have st2 := sto Try.prog (lx x2 (by simp))
      have st3 := sto Try.prog (lx x3 (by simp))
      have st4 := sto Try.prog (lx x4 (by simp))
      have st5 := sto Try.prog (lx x5 (by simp))
      have st6 := sto Try.prog (lx x6 (by simp))
      have st7 := sto Try.prog (lx x7 (by simp))
      have HR := Lib.hid ((regP_put (b := bothB p q) oc hnq HG rfl (Nat.le_refl _) B4))
      have BP := HR.out.bel
      refine wpAnyH_ready (rs := [9]) (by kernel_rfl) (by simp) ?_
      refine AllReadyH.cons rfl (fun K hK => ?_) AllReadyH.nil
      go_simp
      refine hK.out _ (put (wc) (w2.heap.size) 0 [x0, x1, x2, x3, x4, x5, x6, x7]) (keepS _ BP) (fun hHeld => ?_)
      clear hK K
      try simp only [Act.put, List.setIfInBounds_toArray, List.set_cons_zero, List.set_cons_succ]
      clear z0 z1 z2 z3 z4 z5 z6 z7 CZ hfq lx st0 st1 st2 st3 st4 st5 st6 st7
      refine wpAnyH_ready (rs := [10]) (by kernel_rfl) (by simp) ?_
      refine AllReadyH.cons rfl (fun K hK => ?_) AllReadyH.nil
      go_simp
      refine hK.out _ _ (keepS _ BP) (fun hHeld => ?_)
      clear hK K
      try simp only [Act.put, List.setIfInBounds_toArray, List.set_cons_zero, List.set_cons_succ]
      refine wpAnyH_done (by kernel_rfl) ?_ _
      go_wp2_with fail
      go_meet
      exact HR.out
  case rest =>
    obtain ⟨gW, x0, x1, x2, x3, x4, x5, x6, x7, fpW, rfl, rfl, oW, hfpW, hgW, CXW, BW⟩ := hcut
    generalize hw3 : wc = w3 at *
    have t3 := t2.step BW
    have zA := CXA.lt
    have zB := CXB.lt
    have CXA := CXA.later BW
    have CXB := CXB.later BW
    have z23 : w2.heap.size ≤ w3.heap.size := BW.size
    have zW := CXW.lt
    have oW : OwnIn w2.heap.size w3.heap.size w3 [x0, x1, x2, x3, x4, x5, x6, x7] (bothR p q) := ⟨fpW, oW, fun a ha => ⟨(hfpW a ha).1, Ow.lt oW a ha⟩⟩
    clear hfpW b1 b2 BW hw3 t0 t1 t2
    obtain ⟨s0A, s1A, s2A, s3A, s4A, s5A, s6A, s7A⟩ := cells8 CXA
    go_wp2_with fail
    clear s0A s1A s2A s3A s4A s5A s6A s7A
    refine (toProg_calls (Rd.mono t3 h) s1.out).mono ?_
    rintro e w4 ⟨cs4, rfl, o4, b4⟩
    have t4 := t3.step b4
    replace CXA := CXA.later b4
    replace CXB := CXB.later b4
    replace CXW := CXW.later b4
    have o4 := o4.shut
    have z34 := b4.size
    replace oW := oW.later b4
    have l4 := Rd.one o4.rd
    obtain ⟨x04, x14, x24, x34, x44, x54, x64, x74, rfl⟩ := list8 (Rd.len o4.rd)
    have st04 := sto Try.prog (l4 x04 (by simp))
    have st14 := sto Try.prog (l4 x14 (by simp))
    have st24 := sto Try.prog (l4 x24 (by simp))
    have st34 := sto Try.prog (l4 x34 (by simp))
    have st44 := sto Try.prog (l4 x44 (by simp))
    have st54 := sto Try.prog (l4 x54 (by simp))
    have st64 := sto Try.prog (l4 x64 (by simp))
    have st74 := sto Try.prog (l4 x74 (by simp))
    have o4 := o4.alloc (.cells #[x04, x14, x24, x34, x44, x54, x64, x74] 35)
    have CX4 := Cells.new w4 [x04, x14, x24, x34, x44, x54, x64, x74] 35
    replace CXA := CXA.alloc (.cells #[x04, x14, x24, x34, x44, x54, x64, x74] 35)
    replace CXB := CXB.alloc (.cells #[x04, x14, x24, x34, x44, x54, x64, x74] 35)
    replace CXW := CXW.alloc (.cells #[x04, x14, x24, x34, x44, x54, x64, x74] 35)
    replace oW := oW.alloc (.cells #[x04, x14, x24, x34, x44, x54, x64, x74] 35)
    have t4 := t4.alloc t4.size (.cells #[x04, x14, x24, x34, x44, x54, x64, x74] 35)
    clear l4
    obtain ⟨s0B, s1B, s2B, s3B, s4B, s5B, s6B, s7B⟩ := cells8 CXB
    go_wp2_with fail
    clear s0B s1B s2B s3B s4B s5B s6B s7B
    refine (toProg_calls (Rd.mono t4 g) s2.out).mono ?_
    rintro e w5 ⟨cs5, rfl, o5, b5⟩
    have t5 := t4.step b5
    replace CXA := CXA.later b5
    replace CXB := CXB.later b5
    replace CXW := CXW.later b5
    replace CX4 := CX4.later b5
    have o5 := o5.shut
    have z45 := b5.size
    rw [World.size_alloc] at z45
    clear st04 st14 st24 st34 st44 st54 st64 st74
    replace oW := oW.later b5
    replace o4 := o4.later b5
    have l5 := Rd.one o5.rd
    obtain ⟨x05, x15, x25, x35, x45, x55, x65, x75, rfl⟩ := list8 (Rd.len o5.rd)
    have st05 := sto Try.prog (l5 x05 (by simp))
    have st15 := sto Try.prog (l5 x15 (by simp))
    have st25 := sto Try.prog (l5 x25 (by simp))
    have st35 := sto Try.prog (l5 x35 (by simp))
    have st45 := sto Try.prog (l5 x45 (by simp))
    have st55 := sto Try.prog (l5 x55 (by simp))
    have st65 := sto Try.prog (l5 x65 (by simp))
    have st75 := sto Try.prog (l5 x75 (by simp))
    have o5 := o5.alloc (.cells #[x05, x15, x25, x35, x45, x55, x65, x75] 35)
    have CX5 := Cells.new w5 [x05, x15, x25, x35, x45, x55, x65, x75] 35
    replace CXA := CXA.alloc (.cells #[x05, x15, x25, x35, x45, x55, x65, x75] 35)
    replace CXB := CXB.alloc (.cells #[x05, x15, x25, x35, x45, x55, x65, x75] 35)
    replace CXW := CXW.alloc (.cells #[x05, x15, x25, x35, x45, x55, x65, x75] 35)
    replace CX4 := CX4.alloc (.cells #[x05, x15, x25, x35, x45, x55, x65, x75] 35)
    replace oW := oW.alloc (.cells #[x05, x15, x25, x35, x45, x55, x65, x75] 35)
    replace o4 := o4.alloc (.cells #[x05, x15, x25, x35, x45, x55, x65, x75] 35)
    have t5 := t5.alloc t5.size (.cells #[x05, x15, x25, x35, x45, x55, x65, x75] 35)
    clear l5
    obtain ⟨s04, s14, s24, s34, s44, s54, s64, s74⟩ := cells8 CX4
    obtain ⟨s05, s15, s25, s35, s45, s55, s65, s75⟩ := cells8 CX5
    go_wp2_with fail
    clear s04 s14 s24 s34 s44 s54 s64 s74
    clear s05 s15 s25 s35 s45 s55 s65 s75
    refine (implBoth_calls o4.rd o5.rd).mono ?_
    rintro e w6 ⟨cs6, rfl, o6, b6⟩
    have t6 := t5.step b6
    replace CXA := CXA.later b6
    replace CXB := CXB.later b6
    replace CXW := CXW.later b6
    replace CX4 := CX4.later b6
    replace CX5 := CX5.later b6
    have o6 := o6.shut
    have z56 := b6.size
    rw [World.size_alloc] at z56
    clear st05 st15 st25 st35 st45 st55 st65 st75
    replace oW := oW.later b6
    replace o4 := o4.later b6
    replace o5 := o5.later b6
    have l6 := Rd.one o6.rd
    obtain ⟨x06, x16, x26, x36, x46, x56, x66, x76, rfl⟩ := list8 (Rd.len o6.rd)
    have st06 := sto Try.prog (l6 x06 (by simp))
    have st16 := sto Try.prog (l6 x16 (by simp))
    have st26 := sto Try.prog (l6 x26 (by simp))
    have st36 := sto Try.prog (l6 x36 (by simp))
    have st46 := sto Try.prog (l6 x46 (by simp))
    have st56 := sto Try.prog (l6 x56 (by simp))
    have st66 := sto Try.prog (l6 x66 (by simp))
    have st76 := sto Try.prog (l6 x76 (by simp))
    have o6 := o6.alloc (.cells #[x06, x16, x26, x36, x46, x56, x66, x76] 35)
    have CX6 := Cells.new w6 [x06, x16, x26, x36, x46, x56, x66, x76] 35
    replace CXA := CXA.alloc (.cells #[x06, x16, x26, x36, x46, x56, x66, x76] 35)
    replace CXB := CXB.alloc (.cells #[x06, x16, x26, x36, x46, x56, x66, x76] 35)
    replace CXW := CXW.alloc (.cells #[x06, x16, x26, x36, x46, x56, x66, x76] 35)
    replace CX4 := CX4.alloc (.cells #[x06, x16, x26, x36, x46, x56, x66, x76] 35)
    replace CX5 := CX5.alloc (.cells #[x06, x16, x26, x36, x46, x56, x66, x76] 35)
    replace oW := oW.alloc (.cells #[x06, x16, x26, x36, x46, x56, x66, x76] 35)
    replace o4 := o4.alloc (.cells #[x06, x16, x26, x36, x46, x56, x66, x76] 35)
    replace o5 := o5.alloc (.cells #[x06, x16, x26, x36, x46, x56, x66, x76] 35)
    have t6 := t6.alloc t6.size (.cells #[x06, x16, x26, x36, x46, x56, x66, x76] 35)
    clear l6
    obtain ⟨s06, s16, s26, s36, s46, s56, s66, s76⟩ := cells8 CX6
    obtain ⟨s0W, s1W, s2W, s3W, s4W, s5W, s6W, s7W⟩ := cells8 CXW
    go_wp2_with fail
    clear s06 s16 s26 s36 s46 s56 s66 s76
    clear s0W s1W s2W s3W s4W s5W s6W s7W
    refine (eqProg_calls o6.rd oW.rd).mono ?_
    rintro e w7 ⟨rfl, b7⟩
    have t7 := t6.step b7
    replace CXA := CXA.later b7
    replace CXB := CXB.later b7
    replace CXW := CXW.later b7
    replace CX4 := CX4.later b7
    replace CX5 := CX5.later b7
    replace CX6 := CX6.later b7
    have z67 := b7.size
    rw [World.size_alloc] at z67
    clear st06 st16 st26 st36 st46 st56 st66 st76
    replace oW := oW.later b7
    replace o4 := o4.later b7
    replace o5 := o5.later b7
    replace o6 := o6.later b7
    clear b4 b5 b6 b7
    go_wp2_with fail
    go_region_held3 (fun w' => (w'.cell? ⟨w4.heap.size, 0, none⟩ = some x04 ∧ w'.cell? ⟨w4.heap.size, 1, none⟩ = some x14 ∧ w'.cell? ⟨w4.heap.size, 2, none⟩ = some x24 ∧ w'.cell? ⟨w4.heap.size, 3, none⟩ = some x34 ∧ w'.cell? ⟨w4.heap.size, 4, none⟩ = some x44 ∧ w'.cell? ⟨w4.heap.size, 5, none⟩ = some x54 ∧ w'.cell? ⟨w4.heap.size, 6, none⟩ = some x64 ∧ w'.cell? ⟨w4.heap.size, 7, none⟩ = some x74) ∧ (w'.cell? ⟨w.heap.size, 0, none⟩ = some e0 ∧ w'.cell? ⟨w.heap.size, 1, none⟩ = some e1 ∧ w'.cell? ⟨w.heap.size, 2, none⟩ = some e2 ∧ w'.cell? ⟨w.heap.size, 3, none⟩ = some e3 ∧ w'.cell? ⟨w.heap.size, 4, none⟩ = some e4 ∧ w'.cell? ⟨w.heap.size, 5, none⟩ = some e5 ∧ w'.cell? ⟨w.heap.size, 6, none⟩ = some e6 ∧ w'.cell? ⟨w.heap.size, 7, none⟩ = some e7))
      (first | exact ⟨cells8 CX4, cells8 CXA⟩ | exact ⟨cells8 (CX4.drew.later b8), cells8 (CXA.drew.later b8)⟩ | exact ⟨cells8 ((CX4.drew.later b8).later b9), cells8 ((CXA.drew.later b8).later b9)⟩)
      (first | (go_at_call 7; refine (toProg_calls (Rd.mono t7.drew h) s1.out).mono ?_; rintro e w8 ⟨cs8, rfl, o8, b8⟩) | (go_at_call 9; refine (eqProg_calls (o4.drew.later b8).rd o8.rd).mono ?_; rintro e w9 ⟨rfl, b9⟩))
    have t9 := (t7.drew.step b8).step b9
    have CXA := ((CXA.drew.later b8).later b9)
    have CXB := ((CXB.drew.later b8).later b9)
    have CXW := ((CXW.drew.later b8).later b9)
    have CX4 := ((CX4.drew.later b8).later b9)
    have CX5 := ((CX5.drew.later b8).later b9)
    have CX6 := ((CX6.drew.later b8).later b9)
    have oW := ((oW.drew.later b8).later b9)
    have o4 := ((o4.drew.later b8).later b9)
    have o5 := ((o5.drew.later b8).later b9)
    have o6 := ((o6.drew.later b8).later b9)
    have z78 : w7.heap.size ≤ w8.heap.size := b8.size
    have z89 := b9.size
    clear b8 b9
    go_wp2_with fail
    go_region_held3 (fun w' => (w'.cell? ⟨w5.heap.size, 0, none⟩ = some x05 ∧ w'.cell? ⟨w5.heap.size, 1, none⟩ = some x15 ∧ w'.cell? ⟨w5.heap.size, 2, none⟩ = some x25 ∧ w'.cell? ⟨w5.heap.size, 3, none⟩ = some x35 ∧ w'.cell? ⟨w5.heap.size, 4, none⟩ = some x45 ∧ w'.cell? ⟨w5.heap.size, 5, none⟩ = some x55 ∧ w'.cell? ⟨w5.heap.size, 6, none⟩ = some x65 ∧ w'.cell? ⟨w5.heap.size, 7, none⟩ = some x75) ∧ (w'.cell? ⟨w.heap.size + 1, 0, none⟩ = some d0 ∧ w'.cell? ⟨w.heap.size + 1, 1, none⟩ = some d1 ∧ w'.cell? ⟨w.heap.size + 1, 2, none⟩ = some d2 ∧ w'.cell? ⟨w.heap.size + 1, 3, none⟩ = some d3 ∧ w'.cell? ⟨w.heap.size + 1, 4, none⟩ = some d4 ∧ w'.cell? ⟨w.heap.size + 1, 5, none⟩ = some d5 ∧ w'.cell? ⟨w.heap.size + 1, 6, none⟩ = some d6 ∧ w'.cell? ⟨w.heap.size + 1, 7, none⟩ = some d7))
      (first | exact ⟨cells8 CX5, cells8 CXB⟩ | exact ⟨cells8 (CX5.drew.later b10), cells8 (CXB.drew.later b10)⟩ | exact ⟨cells8 ((CX5.drew.later b10).later b11), cells8 ((CXB.drew.later b10).later b11)⟩)
      (first | (go_at_call 7; refine (toProg_calls (Rd.mono t9.drew g) s2.out).mono ?_; rintro e w10 ⟨cs10, rfl, o10, b10⟩) | (go_at_call 9; refine (eqProg_calls (o5.drew.later b10).rd o10.rd).mono ?_; rintro e w11 ⟨rfl, b11⟩))
    have t11 := (t9.drew.step b10).step b11
    have CXA := ((CXA.drew.later b10).later b11)
    have CXB := ((CXB.drew.later b10).later b11)
    have CXW := ((CXW.drew.later b10).later b11)
    have CX4 := ((CX4.drew.later b10).later b11)
    have CX5 := ((CX5.drew.later b10).later b11)
    have CX6 := ((CX6.drew.later b10).later b11)
    have oW := ((oW.drew.later b10).later b11)
    have o4 := ((o4.drew.later b10).later b11)
    have o5 := ((o5.drew.later b10).later b11)
    have o6 := ((o6.drew.later b10).later b11)
    have z9A : w9.heap.size ≤ w10.heap.size := b10.size
    have zAB := b11.size
    clear b10 b11
    have hcp := cntSm (p := p) s1.out
    have hcq := cntSm (p := q) s2.out
    have hcb := cntBoth (p := p) (q := q)
    obtain ⟨s04, s14, s24, s34, s44, s54, s64, s74⟩ := cells8 CX4
    obtain ⟨f4, q4, l4⟩ := o4
    go_wp2_with fail
    clear s04 s14 s24 s34 s44 s54 s64 s74
    refine (markProg_calls 1 q4 (by omega) (by omega)).mono ?_
    rintro e w12 ⟨rfl, m4, g12⟩
    have t12 : Below w.heap.size w w12 := t11.trans (g12.below (lo := w.heap.size) (fun k hk => by have := l4 k hk; omega) (by omega))
    have y12 := g12.size
    replace oW := oW.wrF g12 l4 (.inl (by first | exact Nat.le_refl _ | (try rw [World.size_alloc]) <;> omega))
    replace o5 := o5.wrF g12 l4 (.inr (by first | exact Nat.le_refl _ | (try rw [World.size_alloc]) <;> omega))
    replace o6 := o6.wrF g12 l4 (.inr (by first | exact Nat.le_refl _ | (try rw [World.size_alloc]) <;> omega))
    replace CXA := CXA.wrF g12 (fun hm => by have := l4 _ hm; omega)
    replace CXB := CXB.wrF g12 (fun hm => by have := l4 _ hm; omega)
    replace CXW := CXW.wrF g12 (fun hm => by have := l4 _ hm; omega)
    replace CX5 := CX5.wrF g12 (fun hm => by have := l4 _ hm; omega)
    replace CX6 := CX6.wrF g12 (fun hm => by have := l4 _ hm; omega)
    clear g12 m4 CX4
    obtain ⟨s05, s15, s25, s35, s45, s55, s65, s75⟩ := cells8 CX5
    obtain ⟨f5, q5, l5⟩ := o5
    rw [World.size_alloc] at l5
    go_wp2_with fail
    clear s05 s15 s25 s35 s45 s55 s65 s75
    refine (markProg_calls (1 + (cntProgV p : Nat)) q5 (by omega) (by omega)).mono ?_
    rintro e w13 ⟨rfl, m5, g13⟩
    have t13 : Below w.heap.size w w13 := t12.trans (g13.below (lo := w.heap.size) (fun k hk => by have := l5 k hk; omega) (by omega))
    have y13 := g13.size
    replace oW := oW.wrF g13 l5 (.inl (by first | exact Nat.le_refl _ | (try rw [World.size_alloc]) <;> omega))
    replace o6 := o6.wrF g13 l5 (.inr (by first | exact Nat.le_refl _ | (try rw [World.size_alloc]) <;> omega))
    replace CXA := CXA.wrF g13 (fun hm => by have := l5 _ hm; omega)
    replace CXB := CXB.wrF g13 (fun hm => by have := l5 _ hm; omega)
    replace CXW := CXW.wrF g13 (fun hm => by have := l5 _ hm; omega)
    replace CX6 := CX6.wrF g13 (fun hm => by have := l5 _ hm; omega)
    clear g13 m5 CX5
    have hk13 : (0 : Int) ≤ 1 + (cntProgV p : Nat) + (cntProgV q : Nat) := by omega
    have hk13' : 1 + (cntProgV p : Nat) + (cntProgV q : Nat) ≤ (1152921504606846976 : Int) := by omega
    have hk15 : (0 : Int) ≤ 1 + (cntProgV (bothR p q) : Nat) := by omega
    have hk15' : 1 + (cntProgV (bothR p q) : Nat) ≤ (1152921504606846976 : Int) := by omega
    obtain ⟨s06, s16, s26, s36, s46, s56, s66, s76⟩ := cells8 CX6
    obtain ⟨s0W, s1W, s2W, s3W, s4W, s5W, s6W, s7W⟩ := cells8 CXW
    go_wp2_with fail
    clear s06 s16 s26 s36 s46 s56 s66 s76
    clear s0W s1W s2W s3W s4W s5W s6W s7W
    refine (eqProg_calls o6.rd oW.rd).mono ?_
    rintro e w14 ⟨rfl, b14⟩
    have t14 := t13.step b14
    replace CXA := CXA.later b14
    replace CXB := CXB.later b14
    replace CXW := CXW.later b14
    replace CX6 := CX6.later b14
    replace oW := oW.later b14
    replace o6 := o6.later b14
    have y14 := b14.size
    obtain ⟨s06, s16, s26, s36, s46, s56, s66, s76⟩ := cells8 CX6
    obtain ⟨f6, q6, l6⟩ := o6
    rw [World.size_alloc] at l6
    go_wp2_with fail
    clear s06 s16 s26 s36 s46 s56 s66 s76
    refine (markProg_calls 1 q6 (by omega) (by omega)).mono ?_
    rintro e w15 ⟨rfl, m6, g15⟩
    have t15 : Below w.heap.size w w15 := t14.trans (g15.below (lo := w.heap.size) (fun k hk => by have := l6 k hk; omega) (by omega))
    have y15 := g15.size
    replace oW := oW.wrF g15 l6 (.inl (by first | exact Nat.le_refl _ | (try rw [World.size_alloc]) <;> omega))
    replace CXA := CXA.wrF g15 (fun hm => by have := l6 _ hm; omega)
    replace CXB := CXB.wrF g15 (fun hm => by have := l6 _ hm; omega)
    replace CXW := CXW.wrF g15 (fun hm => by have := l6 _ hm; omega)
    replace CX6 := CX6.wrF g15 (fun hm => by have := l6 _ hm; omega)
    clear g15
    obtain ⟨s06, s16, s26, s36, s46, s56, s66, s76⟩ := cells8 CX6
    go_wp2_with fail
    clear s06 s16 s26 s36 s46 s56 s66 s76
    refine (heldProg_calls 1 (Ow.rd m6) (by omega) (by omega)).mono ?_
    rintro e w16 ⟨rfl, b16⟩
    have t16 := t15.step b16
    replace CXA := CXA.later b16
    replace CXB := CXB.later b16
    replace CXW := CXW.later b16
    replace CX6 := CX6.later b16
    replace oW := oW.later b16
    have m6 := Ow.kept m6 fun a ha => b16.block a (Ow.lt m6 a ha)
    have y16 := b16.size
    clear b14 b16
    go_upto_region 31 with fail
    go_cut [15, 16] (fun v6 v7 wx => RegP w16.heap.size w16 (bothR p q) (bothB p q) v6 v7 wx)
    case first =>
      have keepT : ∀ w', Below w16.heap.size w16 w' → ((w'.cell? ⟨w.heap.size, 0, none⟩ = some e0 ∧ w'.cell? ⟨w.heap.size, 1, none⟩ = some e1 ∧ w'.cell? ⟨w.heap.size, 2, none⟩ = some e2 ∧ w'.cell? ⟨w.heap.size, 3, none⟩ = some e3 ∧ w'.cell? ⟨w.heap.size, 4, none⟩ = some e4 ∧ w'.cell? ⟨w.heap.size, 5, none⟩ = some e5 ∧ w'.cell? ⟨w.heap.size, 6, none⟩ = some e6 ∧ w'.cell? ⟨w.heap.size, 7, none⟩ = some e7) ∧ (w'.cell? ⟨w.heap.size + 1, 0, none⟩ = some d0 ∧ w'.cell? ⟨w.heap.size + 1, 1, none⟩ = some d1 ∧ w'.cell? ⟨w.heap.size + 1, 2, none⟩ = some d2 ∧ w'.cell? ⟨w.heap.size + 1, 3, none⟩ = some d3 ∧ w'.cell? ⟨w.heap.size + 1, 4, none⟩ = some d4 ∧ w'.cell? ⟨w.heap.size + 1, 5, none⟩ = some d5 ∧ w'.cell? ⟨w.heap.size + 1, 6, none⟩ = some d6 ∧ w'.cell? ⟨w.heap.size + 1, 7, none⟩ = some d7)) := fun w' hb => ⟨cells8 (CXA.later hb), cells8 (CXB.later hb)⟩
      clear oW m6 CXW CX6
      have B0 := (Below.refl w16.heap.size w16).drew
      have T0 := t16.drew
      have hzD : w16.drew.heap.size = w16.heap.size := rfl
      refine wp_region_held_drew (S := fun w' => (w'.cell? ⟨w.heap.size, 0, none⟩ = some e0 ∧ w'.cell? ⟨w.heap.size, 1, none⟩ = some e1 ∧ w'.cell? ⟨w.heap.size, 2, none⟩ = some e2 ∧ w'.cell? ⟨w.heap.size, 3, none⟩ = some e3 ∧ w'.cell? ⟨w.heap.size, 4, none⟩ = some e4 ∧ w'.cell? ⟨w.heap.size, 5, none⟩ = some e5 ∧ w'.cell? ⟨w.heap.size, 6, none⟩ = some e6 ∧ w'.cell? ⟨w.heap.size, 7, none⟩ = some e7) ∧ (w'.cell? ⟨w.heap.size + 1, 0, none⟩ = some d0 ∧ w'.cell? ⟨w.heap.size + 1, 1, none⟩ = some d1 ∧ w'.cell? ⟨w.heap.size + 1, 2, none⟩ = some d2 ∧ w'.cell? ⟨w.heap.size + 1, 3, none⟩ = some d3 ∧ w'.cell? ⟨w.heap.size + 1, 4, none⟩ = some d4 ∧ w'.cell? ⟨w.heap.size + 1, 5, none⟩ = some d5 ∧ w'.cell? ⟨w.heap.size + 1, 6, none⟩ = some d6 ∧ w'.cell? ⟨w.heap.size + 1, 7, none⟩ = some d7)) (by kernel_rfl) (keepT _ B0) (fun hHeld => ?_)
      refine takeD (i := 0) (v := .agg #[e0, e1, e2, e3, e4, e5, e6, e7]) (some 95) rfl rfl (by kernel_rfl) (by kernel_rfl) (by kernel_rfl) (fun _ _ _ h => h) (Or.inl ⟨by rfl, fun w' hw' => ?_⟩) hHeld ?_
      · first | (go_simp; done) | (obtain ⟨⟨q0, q1, q2, q3, q4, q5, q6, q7⟩, u0, u1, u2, u3, u4, u5, u6, u7⟩ := hw'; go_simp)
      try simp only [Act.put, List.setIfInBounds_toArray, List.set_cons_zero, List.set_cons_succ]
      refine takeD (i := 2) (v := .agg #[d0, d1, d2, d3, d4, d5, d6, d7]) (some 97) rfl rfl (by kernel_rfl) (by kernel_rfl) (by kernel_rfl) (fun _ _ _ h => h) (Or.inl ⟨by rfl, fun w' hw' => ?_⟩) hHeld ?_
      · first | (go_simp; done) | (obtain ⟨⟨q0, q1, q2, q3, q4, q5, q6, q7⟩, u0, u1, u2, u3, u4, u5, u6, u7⟩ := hw'; go_simp)
      try simp only [Act.put, List.setIfInBounds_toArray, List.set_cons_zero, List.set_cons_succ]
      refine wpAnyH_ready (rs := [1, 8]) (by kernel_rfl) (by simp) ?_
      refine AllReadyH.cons rfl (fun K hK => ?_) (AllReadyH.cons rfl (fun K hK => ?_) AllReadyH.nil)
      · skip
        go_simp
        refine (toProg_calls (Rd.mono T0 h) s1.out).mono ?_
        rintro e wa ⟨ca, rfl, oa, ba⟩
        have B1 := B0.step ba
        have T1 := T0.step ba
        have ra := oa.rd
        refine hK.out _ _ (keepT _ B1) (fun hHeld => ?_)
        clear hK K
        try simp only [Act.put, List.setIfInBounds_toArray, List.set_cons_zero, List.set_cons_succ]
        refine wpAnyH_ready (rs := [3, 8]) (by kernel_rfl) (by simp) ?_
        refine AllReadyH.cons rfl (fun K hK => ?_) (AllReadyH.cons rfl (fun K hK => ?_) AllReadyH.nil)
        · skip
          go_simp
          refine (toProg_calls (Rd.mono T1 g) s2.out).mono ?_
          rintro e wb ⟨cb, rfl, ob, bb⟩
          have B2 := B1.step bb
          have T2 := T1.step bb
          have rb := ob.rd
          have ra := Rd.mono bb ra
          refine hK.out _ _ (keepT _ B2) (fun hHeld => ?_)
          clear hK K
          try simp only [Act.put, List.setIfInBounds_toArray, List.set_cons_zero, List.set_cons_succ]
          refine wpAnyH_ready (rs := [4, 8]) (by kernel_rfl) (by simp) ?_
          refine AllReadyH.cons rfl (fun K hK => ?_) (AllReadyH.cons rfl (fun K hK => ?_) AllReadyH.nil)
          · skip
            go_simp
            refine (implBoth_calls ra rb).mono ?_
            rintro e wc ⟨cc, rfl, oc, bc⟩
            have B3 := B2.step bc
            have T3 := T2.step bc
            obtain ⟨fp, oc, hfp⟩ := oc
            obtain ⟨x0, x1, x2, x3, x4, x5, x6, x7, rfl⟩ := list8 (Rd.len (Ow.rd oc))
            refine hK.out _ _ (keepT _ B3) (fun hHeld => ?_)
            clear hK K
            try simp only [Act.put, List.setIfInBounds_toArray, List.set_cons_zero, List.set_cons_succ]
            refine takeD (i := 5) (v := .tuple #[.agg #[x0, x1, x2, x3, x4, x5, x6, x7], .bool (bothB p q)]) (some 94) rfl rfl (by kernel_rfl) (by kernel_rfl) (by kernel_rfl) (fun _ _ _ h => h) (Or.inl ⟨by rfl, fun w' hw' => ?_⟩) hHeld ?_
            · first | (go_simp; done) | (obtain ⟨⟨q0, q1, q2, q3, q4, q5, q6, q7⟩, u0, u1, u2, u3, u4, u5, u6, u7⟩ := hw'; go_simp)
            try simp only [Act.put, List.setIfInBounds_toArray, List.set_cons_zero, List.set_cons_succ]
            refine takeD (i := 6) (v := .agg #[x0, x1, x2, x3, x4, x5, x6, x7]) (some 100) rfl rfl (by kernel_rfl) (by kernel_rfl) (by kernel_rfl) (fun _ _ _ h => h) (Or.inl ⟨by rfl, fun w' hw' => ?_⟩) hHeld ?_
            · first | (go_simp; done) | (obtain ⟨⟨q0, q1, q2, q3, q4, q5, q6, q7⟩, u0, u1, u2, u3, u4, u5, u6, u7⟩ := hw'; go_simp)
            try simp only [Act.put, List.setIfInBounds_toArray, List.set_cons_zero, List.set_cons_succ]
            refine takeD (i := 7) (v := .bool (bothB p q)) (some 101) rfl rfl (by kernel_rfl) (by kernel_rfl) (by kernel_rfl) (fun _ _ _ h => h) (Or.inl ⟨by rfl, fun w' hw' => ?_⟩) hHeld ?_
            · first | (go_simp; done) | (obtain ⟨⟨q0, q1, q2, q3, q4, q5, q6, q7⟩, u0, u1, u2, u3, u4, u5, u6, u7⟩ := hw'; go_simp)
            try simp only [Act.put, List.setIfInBounds_toArray, List.set_cons_zero, List.set_cons_succ]
            have hzB := B2.size
            have hzC := B3.size
            have hlt := Ow.lt oc
            refine wpAnyH_ready (rs := [8]) (by kernel_rfl) (by simp) ?_
            refine AllReadyH.cons rfl (fun K hK => ?_) AllReadyH.nil
            go_simp
            have bA := (Below.refl wc.heap.size wc).alloc (Nat.le_refl _) (.cells #[.int .i64 0, .slice none 0 0, .slice none 0 0, .bool false, .slice none 0 0, .slice none 0 0, .slice none 0 0, .slice none 0 0] 35)
            have B4 := B3.step bA
            have T4 := T3.step bA
            have HG := alloc_block wc #[.int .i64 0, .slice none 0 0, .slice none 0 0, .bool false, .slice none 0 0, .slice none 0 0, .slice none 0 0, .slice none 0 0] 35
            refine hK.out _ _ (keepT _ B4) (fun hHeld => ?_)
            clear hK K
            try simp only [Act.put, List.setIfInBounds_toArray, List.set_cons_zero, List.set_cons_succ]
            have oc' := Ow.kept oc fun a ha => bA.block a (hlt a ha)
            have hnq : ∀ a ∈ fp, w16.heap.size ≤ a ∧ a ≠ wc.heap.size := fun a ha => by have := hlt a ha; have := hfp a ha; omega
            clear bA hlt
            generalize wc.alloc (.cells #[.int .i64 0, .slice none 0 0, .slice none 0 0, .bool false, .slice none 0 0, .slice none 0 0, .slice none 0 0, .slice none 0 0] 35) = wd at oc' HG B4 T4 ⊢
            have hfq := fun j => frozen_of_row (wd) (wc.heap.size) j _ _ HG
            have CZ : Cells (wd) (wc.heap.size) 0 [.int .i64 0, .slice none 0 0, .slice none 0 0, .bool false, .slice none 0 0, .slice none 0 0, .slice none 0 0, .slice none 0 0] := fun j v hv => by
              rw [Nat.zero_add, cell_of_row (wd) (wc.heap.size) j _ _ _ HG]; simpa using hv
            obtain ⟨z0, z1, z2, z3, z4, z5, z6, z7⟩ := cells8 CZ
            have lx := Rd.one (Ow.rd oc')
            have st0 := sto Try.prog (lx x0 (by simp))
            have st1 := sto Try.prog (lx x1 (by simp))
            have st2 := sto Try.prog (lx x2 (by simp))
            have st3 := sto Try.prog (lx x3 (by simp))
            have st4 := sto Try.prog (lx x4 (by simp))
            have st5 := sto Try.prog (lx x5 (by simp))
            have st6 := sto Try.prog (lx x6 (by simp))
            have st7 := sto Try.prog (lx x7 (by simp))
            have HR := Lib.hid ((regP_put (b := bothB p q) oc' hnq HG rfl hzC B4))
            have BP := HR.out.bel
            refine wpAnyH_ready (rs := [9]) (by kernel_rfl) (by simp) ?_
            refine AllReadyH.cons rfl (fun K hK => ?_) AllReadyH.nil
            go_simp
            refine hK.out _ (put (wd) (wc.heap.size) 0 [x0, x1, x2, x3, x4, x5, x6, x7]) (keepT _ BP) (fun hHeld => ?_)
            clear hK K
            try simp only [Act.put, List.setIfInBounds_toArray, List.set_cons_zero, List.set_cons_succ]
            clear z0 z1 z2 z3 z4 z5 z6 z7 CZ hfq lx st0 st1 st2 st3 st4 st5 st6 st7
            refine wpAnyH_ready (rs := [10]) (by kernel_rfl) (by simp) ?_
            refine AllReadyH.cons rfl (fun K hK => ?_) AllReadyH.nil
            go_simp
            refine hK.out _ _ (keepT _ BP) (fun hHeld => ?_)
            clear hK K
            try simp only [Act.put, List.setIfInBounds_toArray, List.set_cons_zero, List.set_cons_succ]
            refine wpAnyH_done (by kernel_rfl) ?_ _
            go_wp2_with fail
            go_meet
            exact HR.out
          · skip
            have hzB := B2.size
            go_simp
            have bA := (Below.refl wb.heap.size wb).alloc (Nat.le_refl _) (.cells #[.int .i64 0, .slice none 0 0, .slice none 0 0, .bool false, .slice none 0 0, .slice none 0 0, .slice none 0 0, .slice none 0 0] 35)
            have B3 := B2.step bA
            have T3 := T2.step bA
            have HG := alloc_block wb #[.int .i64 0, .slice none 0 0, .slice none 0 0, .bool false, .slice none 0 0, .slice none 0 0, .slice none 0 0, .slice none 0 0] 35
            have ra := Rd.mono bA ra
            have rb := Rd.mono bA rb
            refine hK.out _ _ (keepT _ B3) (fun hHeld => ?_)
            clear hK K
            try simp only [Act.put, List.setIfInBounds_toArray, List.set_cons_zero, List.set_cons_succ]
            refine wpAnyH_ready (rs := [4]) (by kernel_rfl) (by simp) ?_
            refine AllReadyH.cons rfl (fun K hK => ?_) AllReadyH.nil
            go_simp
            refine (implBoth_calls ra rb).mono ?_
            rintro e wc ⟨cc, rfl, oc, bc⟩
            have B4 := B3.step bc
            have T4 := T3.step bc
            obtain ⟨fp, oc, hfp⟩ := oc
            obtain ⟨x0, x1, x2, x3, x4, x5, x6, x7, rfl⟩ := list8 (Rd.len (Ow.rd oc))
            have hlg := block_lt HG
            have HG := (bc.block _ (block_lt HG)).trans HG
            refine hK.out _ _ (keepT _ B4) (fun hHeld => ?_)
            clear hK K
            try simp only [Act.put, List.setIfInBounds_toArray, List.set_cons_zero, List.set_cons_succ]
            refine takeD (i := 5) (v := .tuple #[.agg #[x0, x1, x2, x3, x4, x5, x6, x7], .bool (bothB p q)]) (some 94) rfl rfl (by kernel_rfl) (by kernel_rfl) (by kernel_rfl) (fun _ _ _ h => h) (Or.inl ⟨by rfl, fun w' hw' => ?_⟩) hHeld ?_
            · first | (go_simp; done) | (obtain ⟨⟨q0, q1, q2, q3, q4, q5, q6, q7⟩, u0, u1, u2, u3, u4, u5, u6, u7⟩ := hw'; go_simp)
            try simp only [Act.put, List.setIfInBounds_toArray, List.set_cons_zero, List.set_cons_succ]
            refine takeD (i := 6) (v := .agg #[x0, x1, x2, x3, x4, x5, x6, x7]) (some 100) rfl rfl (by kernel_rfl) (by kernel_rfl) (by kernel_rfl) (fun _ _ _ h => h) (Or.inl ⟨by rfl, fun w' hw' => ?_⟩) hHeld ?_
            · first | (go_simp; done) | (obtain ⟨⟨q0, q1, q2, q3, q4, q5, q6, q7⟩, u0, u1, u2, u3, u4, u5, u6, u7⟩ := hw'; go_simp)
            try simp only [Act.put, List.setIfInBounds_toArray, List.set_cons_zero, List.set_cons_succ]
            refine takeD (i := 7) (v := .bool (bothB p q)) (some 101) rfl rfl (by kernel_rfl) (by kernel_rfl) (by kernel_rfl) (fun _ _ _ h => h) (Or.inl ⟨by rfl, fun w' hw' => ?_⟩) hHeld ?_
            · first | (go_simp; done) | (obtain ⟨⟨q0, q1, q2, q3, q4, q5, q6, q7⟩, u0, u1, u2, u3, u4, u5, u6, u7⟩ := hw'; go_simp)
            try simp only [Act.put, List.setIfInBounds_toArray, List.set_cons_zero, List.set_cons_succ]
            have hnq : ∀ a ∈ fp, w16.heap.size ≤ a ∧ a ≠ wb.heap.size := fun a ha => by have := hfp a ha; have hq := B3.size; rw [World.size_alloc] at this hq; omega
            have hfq := fun j => frozen_of_row (wc) (wb.heap.size) j _ _ HG
            have CZ : Cells (wc) (wb.heap.size) 0 [.int .i64 0, .slice none 0 0, .slice none 0 0, .bool false, .slice none 0 0, .slice none 0 0, .slice none 0 0, .slice none 0 0] := fun j v hv => by
              rw [Nat.zero_add, cell_of_row (wc) (wb.heap.size) j _ _ _ HG]; simpa using hv
            obtain ⟨z0, z1, z2, z3, z4, z5, z6, z7⟩ := cells8 CZ
            have lx := Rd.one (Ow.rd oc)
            have st0 := sto Try.prog (lx x0 (by simp))
            have st1 := sto Try.prog (lx x1 (by simp))
            have st2 := sto Try.prog (lx x2 (by simp))
            have st3 := sto Try.prog (lx x3 (by simp))
            have st4 := sto Try.prog (lx x4 (by simp))
            have st5 := sto Try.prog (lx x5 (by simp))
            have st6 := sto Try.prog (lx x6 (by simp))
            have st7 := sto Try.prog (lx x7 (by simp))
            have HR := Lib.hid ((regP_put (b := bothB p q) oc hnq HG rfl hzB B4))
            have BP := HR.out.bel
            refine wpAnyH_ready (rs := [9]) (by kernel_rfl) (by simp) ?_
            refine AllReadyH.cons rfl (fun K hK => ?_) AllReadyH.nil
            go_simp
            refine hK.out _ (put (wc) (wb.heap.size) 0 [x0, x1, x2, x3, x4, x5, x6, x7]) (keepT _ BP) (fun hHeld => ?_)
            clear hK K
            try simp only [Act.put, List.setIfInBounds_toArray, List.set_cons_zero, List.set_cons_succ]
            clear z0 z1 z2 z3 z4 z5 z6 z7 CZ hfq lx st0 st1 st2 st3 st4 st5 st6 st7
            refine wpAnyH_ready (rs := [10]) (by kernel_rfl) (by simp) ?_
            refine AllReadyH.cons rfl (fun K hK => ?_) AllReadyH.nil
            go_simp
            refine hK.out _ _ (keepT _ BP) (fun hHeld => ?_)
            clear hK K
            try simp only [Act.put, List.setIfInBounds_toArray, List.set_cons_zero, List.set_cons_succ]
            refine wpAnyH_done (by kernel_rfl) ?_ _
            go_wp2_with fail
            go_meet
            exact HR.out
        · skip
          have hzB := B1.size
          go_simp
          have bA := (Below.refl wa.heap.size wa).alloc (Nat.le_refl _) (.cells #[.int .i64 0, .slice none 0 0, .slice none 0 0, .bool false, .slice none 0 0, .slice none 0 0, .slice none 0 0, .slice none 0 0] 35)
          have B2 := B1.step bA
          have T2 := T1.step bA
          have HG := alloc_block wa #[.int .i64 0, .slice none 0 0, .slice none 0 0, .bool false, .slice none 0 0, .slice none 0 0, .slice none 0 0, .slice none 0 0] 35
          have ra := Rd.mono bA ra
          refine hK.out _ _ (keepT _ B2) (fun hHeld => ?_)
          clear hK K
          try simp only [Act.put, List.setIfInBounds_toArray, List.set_cons_zero, List.set_cons_succ]
          refine wpAnyH_ready (rs := [3]) (by kernel_rfl) (by simp) ?_
          refine AllReadyH.cons rfl (fun K hK => ?_) AllReadyH.nil
          go_simp
          refine (toProg_calls (Rd.mono T2 g) s2.out).mono ?_
          rintro e wb ⟨cb, rfl, ob, bb⟩
          have B3 := B2.step bb
          have T3 := T2.step bb
          have rb := ob.rd
          have ra := Rd.mono bb ra
          have HG := (bb.block _ (block_lt HG)).trans HG
          refine hK.out _ _ (keepT _ B3) (fun hHeld => ?_)
          clear hK K
          try simp only [Act.put, List.setIfInBounds_toArray, List.set_cons_zero, List.set_cons_succ]
          refine wpAnyH_ready (rs := [4]) (by kernel_rfl) (by simp) ?_
          refine AllReadyH.cons rfl (fun K hK => ?_) AllReadyH.nil
          go_simp
          refine (implBoth_calls ra rb).mono ?_
          rintro e wc ⟨cc, rfl, oc, bc⟩
          have B4 := B3.step bc
          have T4 := T3.step bc
          obtain ⟨fp, oc, hfp⟩ := oc
          obtain ⟨x0, x1, x2, x3, x4, x5, x6, x7, rfl⟩ := list8 (Rd.len (Ow.rd oc))
          have hlg := block_lt HG
          have HG := (bc.block _ (block_lt HG)).trans HG
          refine hK.out _ _ (keepT _ B4) (fun hHeld => ?_)
          clear hK K
          try simp only [Act.put, List.setIfInBounds_toArray, List.set_cons_zero, List.set_cons_succ]
          refine takeD (i := 5) (v := .tuple #[.agg #[x0, x1, x2, x3, x4, x5, x6, x7], .bool (bothB p q)]) (some 94) rfl rfl (by kernel_rfl) (by kernel_rfl) (by kernel_rfl) (fun _ _ _ h => h) (Or.inl ⟨by rfl, fun w' hw' => ?_⟩) hHeld ?_
          · first | (go_simp; done) | (obtain ⟨⟨q0, q1, q2, q3, q4, q5, q6, q7⟩, u0, u1, u2, u3, u4, u5, u6, u7⟩ := hw'; go_simp)
          try simp only [Act.put, List.setIfInBounds_toArray, List.set_cons_zero, List.set_cons_succ]
          refine takeD (i := 6) (v := .agg #[x0, x1, x2, x3, x4, x5, x6, x7]) (some 100) rfl rfl (by kernel_rfl) (by kernel_rfl) (by kernel_rfl) (fun _ _ _ h => h) (Or.inl ⟨by rfl, fun w' hw' => ?_⟩) hHeld ?_
          · first | (go_simp; done) | (obtain ⟨⟨q0, q1, q2, q3, q4, q5, q6, q7⟩, u0, u1, u2, u3, u4, u5, u6, u7⟩ := hw'; go_simp)
          try simp only [Act.put, List.setIfInBounds_toArray, List.set_cons_zero, List.set_cons_succ]
          refine takeD (i := 7) (v := .bool (bothB p q)) (some 101) rfl rfl (by kernel_rfl) (by kernel_rfl) (by kernel_rfl) (fun _ _ _ h => h) (Or.inl ⟨by rfl, fun w' hw' => ?_⟩) hHeld ?_
          · first | (go_simp; done) | (obtain ⟨⟨q0, q1, q2, q3, q4, q5, q6, q7⟩, u0, u1, u2, u3, u4, u5, u6, u7⟩ := hw'; go_simp)
          try simp only [Act.put, List.setIfInBounds_toArray, List.set_cons_zero, List.set_cons_succ]
          have hnq : ∀ a ∈ fp, w16.heap.size ≤ a ∧ a ≠ wa.heap.size := fun a ha => by have := hfp a ha; have hq := bb.size; rw [World.size_alloc] at hq; omega
          have hfq := fun j => frozen_of_row (wc) (wa.heap.size) j _ _ HG
          have CZ : Cells (wc) (wa.heap.size) 0 [.int .i64 0, .slice none 0 0, .slice none 0 0, .bool false, .slice none 0 0, .slice none 0 0, .slice none 0 0, .slice none 0 0] := fun j v hv => by
            rw [Nat.zero_add, cell_of_row (wc) (wa.heap.size) j _ _ _ HG]; simpa using hv
          obtain ⟨z0, z1, z2, z3, z4, z5, z6, z7⟩ := cells8 CZ
          have lx := Rd.one (Ow.rd oc)
          have st0 := sto Try.prog (lx x0 (by simp))
          have st1 := sto Try.prog (lx x1 (by simp))
          have st2 := sto Try.prog (lx x2 (by simp))
          have st3 := sto Try.prog (lx x3 (by simp))
          have st4 := sto Try.prog (lx x4 (by simp))
          have st5 := sto Try.prog (lx x5 (by simp))
          have st6 := sto Try.prog (lx x6 (by simp))
          have st7 := sto Try.prog (lx x7 (by simp))
          have HR := Lib.hid ((regP_put (b := bothB p q) oc hnq HG rfl hzB B4))
          have BP := HR.out.bel
          refine wpAnyH_ready (rs := [9]) (by kernel_rfl) (by simp) ?_
          refine AllReadyH.cons rfl (fun K hK => ?_) AllReadyH.nil
          go_simp
          refine hK.out _ (put (wc) (wa.heap.size) 0 [x0, x1, x2, x3, x4, x5, x6, x7]) (keepT _ BP) (fun hHeld => ?_)
          clear hK K
          try simp only [Act.put, List.setIfInBounds_toArray, List.set_cons_zero, List.set_cons_succ]
          clear z0 z1 z2 z3 z4 z5 z6 z7 CZ hfq lx st0 st1 st2 st3 st4 st5 st6 st7
          refine wpAnyH_ready (rs := [10]) (by kernel_rfl) (by simp) ?_
          refine AllReadyH.cons rfl (fun K hK => ?_) AllReadyH.nil
          go_simp
          refine hK.out _ _ (keepT _ BP) (fun hHeld => ?_)
          clear hK K
          try simp only [Act.put, List.setIfInBounds_toArray, List.set_cons_zero, List.set_cons_succ]
          refine wpAnyH_done (by kernel_rfl) ?_ _
          go_wp2_with fail
          go_meet
          exact HR.out
      · skip
        go_simp
        have bA := (Below.refl w16.drew.heap.size w16.drew).alloc (Nat.le_refl _) (.cells #[.int .i64 0, .slice none 0 0, .slice none 0 0, .bool false, .slice none 0 0, .slice none 0 0, .slice none 0 0, .slice none 0 0] 35)
        have B1 := B0.step bA
        have T1 := T0.step bA
        have HG := alloc_block w16.drew #[.int .i64 0, .slice none 0 0, .slice none 0 0, .bool false, .slice none 0 0, .slice none 0 0, .slice none 0 0, .slice none 0 0] 35
        refine hK.out _ _ (keepT _ B1) (fun hHeld => ?_)
        clear hK K
        try simp only [Act.put, List.setIfInBounds_toArray, List.set_cons_zero, List.set_cons_succ]
        refine wpAnyH_ready (rs := [1]) (by kernel_rfl) (by simp) ?_
        refine AllReadyH.cons rfl (fun K hK => ?_) AllReadyH.nil
        go_simp
        refine (toProg_calls (Rd.mono T1 h) s1.out).mono ?_
        rintro e wa ⟨ca, rfl, oa, ba⟩
        have B2 := B1.step ba
        have T2 := T1.step ba
        have ra := oa.rd
        have HG := (ba.block _ (block_lt HG)).trans HG
        refine hK.out _ _ (keepT _ B2) (fun hHeld => ?_)
        clear hK K
        try simp only [Act.put, List.setIfInBounds_toArray, List.set_cons_zero, List.set_cons_succ]
        refine wpAnyH_ready (rs := [3]) (by kernel_rfl) (by simp) ?_
        refine AllReadyH.cons rfl (fun K hK => ?_) AllReadyH.nil
        go_simp
        refine (toProg_calls (Rd.mono T2 g) s2.out).mono ?_
        rintro e wb ⟨cb, rfl, ob, bb⟩
        have B3 := B2.step bb
        have T3 := T2.step bb
        have rb := ob.rd
        have ra := Rd.mono bb ra
        have HG := (bb.block _ (block_lt HG)).trans HG
        refine hK.out _ _ (keepT _ B3) (fun hHeld => ?_)
        clear hK K
        try simp only [Act.put, List.setIfInBounds_toArray, List.set_cons_zero, List.set_cons_succ]
        refine wpAnyH_ready (rs := [4]) (by kernel_rfl) (by simp) ?_
        refine AllReadyH.cons rfl (fun K hK => ?_) AllReadyH.nil
        go_simp
        refine (implBoth_calls ra rb).mono ?_
        rintro e wc ⟨cc, rfl, oc, bc⟩
        have B4 := B3.step bc
        have T4 := T3.step bc
        obtain ⟨fp, oc, hfp⟩ := oc
        obtain ⟨x0, x1, x2, x3, x4, x5, x6, x7, rfl⟩ := list8 (Rd.len (Ow.rd oc))
        have hlg := block_lt HG
        have HG := (bc.block _ (block_lt HG)).trans HG
        refine hK.out _ _ (keepT _ B4) (fun hHeld => ?_)
        clear hK K
        try simp only [Act.put, List.setIfInBounds_toArray, List.set_cons_zero, List.set_cons_succ]
        refine takeD (i := 5) (v := .tuple #[.agg #[x0, x1, x2, x3, x4, x5, x6, x7], .bool (bothB p q)]) (some 94) rfl rfl (by kernel_rfl) (by kernel_rfl) (by kernel_rfl) (fun _ _ _ h => h) (Or.inl ⟨by rfl, fun w' hw' => ?_⟩) hHeld ?_
        · first | (go_simp; done) | (obtain ⟨⟨q0, q1, q2, q3, q4, q5, q6, q7⟩, u0, u1, u2, u3, u4, u5, u6, u7⟩ := hw'; go_simp)
        try simp only [Act.put, List.setIfInBounds_toArray, List.set_cons_zero, List.set_cons_succ]
        refine takeD (i := 6) (v := .agg #[x0, x1, x2, x3, x4, x5, x6, x7]) (some 100) rfl rfl (by kernel_rfl) (by kernel_rfl) (by kernel_rfl) (fun _ _ _ h => h) (Or.inl ⟨by rfl, fun w' hw' => ?_⟩) hHeld ?_
        · first | (go_simp; done) | (obtain ⟨⟨q0, q1, q2, q3, q4, q5, q6, q7⟩, u0, u1, u2, u3, u4, u5, u6, u7⟩ := hw'; go_simp)
        try simp only [Act.put, List.setIfInBounds_toArray, List.set_cons_zero, List.set_cons_succ]
        refine takeD (i := 7) (v := .bool (bothB p q)) (some 101) rfl rfl (by kernel_rfl) (by kernel_rfl) (by kernel_rfl) (fun _ _ _ h => h) (Or.inl ⟨by rfl, fun w' hw' => ?_⟩) hHeld ?_
        · first | (go_simp; done) | (obtain ⟨⟨q0, q1, q2, q3, q4, q5, q6, q7⟩, u0, u1, u2, u3, u4, u5, u6, u7⟩ := hw'; go_simp)
        try simp only [Act.put, List.setIfInBounds_toArray, List.set_cons_zero, List.set_cons_succ]
        have hnq : ∀ a ∈ fp, w16.heap.size ≤ a ∧ a ≠ w16.heap.size := fun a ha => by have := hfp a ha; have hq := ba.size; have hq2 := bb.size; rw [World.size_alloc] at hq; omega
        replace HG : wc.heap[w16.heap.size]? = _ := HG
        have hfq := fun j => frozen_of_row (wc) (w16.heap.size) j _ _ HG
        have CZ : Cells (wc) (w16.heap.size) 0 [.int .i64 0, .slice none 0 0, .slice none 0 0, .bool false, .slice none 0 0, .slice none 0 0, .slice none 0 0, .slice none 0 0] := fun j v hv => by
          rw [Nat.zero_add, cell_of_row (wc) (w16.heap.size) j _ _ _ HG]; simpa using hv
        obtain ⟨z0, z1, z2, z3, z4, z5, z6, z7⟩ := cells8 CZ
        have lx := Rd.one (Ow.rd oc)
        have st0 := sto Try.prog (lx x0 (by simp))
        have st1 := sto Try.prog (lx x1 (by simp))
        have st2 := sto Try.prog (lx x2 (by simp))
        have st3 := sto Try.prog (lx x3 (by simp))
        have st4 := sto Try.prog (lx x4 (by simp))
        have st5 := sto Try.prog (lx x5 (by simp))
        have st6 := sto Try.prog (lx x6 (by simp))
        have st7 := sto Try.prog (lx x7 (by simp))
        have HR := Lib.hid ((regP_put (b := bothB p q) oc hnq HG rfl (Nat.le_refl _) B4))
        have BP := HR.out.bel
        refine wpAnyH_ready (rs := [9]) (by kernel_rfl) (by simp) ?_
        refine AllReadyH.cons rfl (fun K hK => ?_) AllReadyH.nil
        go_simp
        refine hK.out _ (put (wc) (w16.heap.size) 0 [x0, x1, x2, x3, x4, x5, x6, x7]) (keepT _ BP) (fun hHeld => ?_)
        clear hK K
        try simp only [Act.put, List.setIfInBounds_toArray, List.set_cons_zero, List.set_cons_succ]
        clear z0 z1 z2 z3 z4 z5 z6 z7 CZ hfq lx st0 st1 st2 st3 st4 st5 st6 st7
        refine wpAnyH_ready (rs := [10]) (by kernel_rfl) (by simp) ?_
        refine AllReadyH.cons rfl (fun K hK => ?_) AllReadyH.nil
        go_simp
        refine hK.out _ _ (keepT _ BP) (fun hHeld => ?_)
        clear hK K
        try simp only [Act.put, List.setIfInBounds_toArray, List.set_cons_zero, List.set_cons_succ]
        refine wpAnyH_done (by kernel_rfl) ?_ _
        go_wp2_with fail
        go_meet
        exact HR.out
    case rest =>
      obtain ⟨gZ, y0, y1, y2, y3, y4, y5, y6, y7, fpZ, rfl, rfl, oZ, hfpZ, hgZ, CXZ, BZ⟩ := hcut
      have t17 := t16.step BZ
      have CXW := CXW.later BZ
      have CX6 := CX6.later BZ
      have oW := oW.later BZ
      have m6 := Ow.kept m6 fun a ha => BZ.block a (Ow.lt m6 a ha)
      obtain ⟨s0Z, s1Z, s2Z, s3Z, s4Z, s5Z, s6Z, s7Z⟩ := cells8 CXZ
      obtain ⟨s0W, s1W, s2W, s3W, s4W, s5W, s6W, s7W⟩ := cells8 CXW
      go_wp2_with fail
      clear s0Z s1Z s2Z s3Z s4Z s5Z s6Z s7Z
      clear s0W s1W s2W s3W s4W s5W s6W s7W
      refine (eqProg_calls (Ow.rd oZ) oW.rd).mono ?_
      rintro e w18 ⟨rfl, b18⟩
      have t18 := t17.step b18
      replace CX6 := CX6.later b18
      obtain ⟨s06, s16, s26, s36, s46, s56, s66, s76⟩ := cells8 CX6
      go_wp2_with fail
      clear s06 s16 s26 s36 s46 s56 s66 s76
      refine (heldProg_calls 1 (Rd.mono b18 (Ow.rd m6)) (by omega) (by omega)).mono ?_
      rintro e w19 ⟨rfl, b19⟩
      have t19 := t18.step b19
      go_wp2
      go_ret
      exact ⟨rfl, t19⟩

set_option maxRecDepth 100000 in
theorem lifted (os : Os) (started : os.Started) (H : Type) (enc : TypeId × Value → H) :
    ReturnsInHanded {} Try.checked os 3 .any (Rows.fnExactBothSpec.pre6 enc Try.prog Try.f3 Rows.fnExactBothRow.domain false) (Rows.fnExactBothSpec.post enc Try.prog Try.f3 false true false false) := by
  refine returnsInHanded_of_change (C := Try.checked) own started (by kernel_rfl) Try.func3
    (ChangeSpec.witness6 (enc := enc) (C := Try.checked) false ⟨#[], #[.agg #[.int .i64 0, .slice none 0 0, .slice none 0 0, .bool false, .slice none 0 0, .slice none 0 0, .slice none 0 0, .slice none 0 0], .agg #[.int .i64 0, .slice none 0 0, .slice none 0 0, .bool false, .slice none 0 0, .slice none 0 0, .slice none 0 0, .slice none 0 0]], []⟩ 8 (by kernel_rfl) (by kernel_rfl) (by kernel_rfl) (by kernel_rfl)) ?_
  intro W base args ds gs before hval0 hW hcnd _
  have hval : ∀ (j : Nat) t v, Try.f3.params[j]? = some t → args[j]? = some v → Value.okWide Try.prog W .any base t v := hval0
  have hW' := hW
  obtain ⟨p, q, hA0, hV, rfl, hfz, hnd⟩ := hW
  have hA : DataW.TrodAll enc Try.prog W 0 (fun _ => true) true Try.f3.params.toList args.toList ds p := hA0
  rw [Try.params3] at hA hval
  obtain ⟨v0, vs0, d0, ds0, p0, q0, hargs, rfl, rfl, h0, r0⟩ := trodAll_cons hA
  obtain ⟨v1, vs1, d1, ds1, p1, q1, rfl, rfl, rfl, h1, r1⟩ := trodAll_cons r0
  obtain ⟨rfl, rfl, rfl⟩ := trodAll_nil r1
  obtain rfl : args = #[v0, v1] := by cases args; simp_all
  obtain ⟨rfl, rfl⟩ := trodVars_none hV
  have k0 := h0
  have lt0 : ∀ x ∈ p0, x.block < W.heap.size := by obtain ⟨m, hm⟩ := k0; exact DataW.trod_lt m _ _ _ hm
  obtain ⟨cs0, x0, rfl, w0⟩ := arg_struct Try.underlying28 opens_prog (hval 0 28 v0 rfl rfl) h0
  have k1 := h1
  have lt1 : ∀ x ∈ p1, x.block < W.heap.size := by obtain ⟨m, hm⟩ := k1; exact DataW.trod_lt m _ _ _ hm
  obtain ⟨cs1, x1, rfl, w1⟩ := arg_struct Try.underlying28 opens_prog (hval 1 28 v1 rfl rfl) h1
  clear hA0 hval0
  refine (law w0 w1).mono fun e W' ⟨he, bel⟩ => ?_
  subst he
  exact ⟨_, rfl, _, _, _, [], _, [], hW', trodAll_mk1 (shut_bool Try.underlying4 _), (trodAll_cons_mk (Below.trod laidOut (by kernel_rfl) (of_decide_eq_true (by kernel_rfl)) k0 bel lt0) (trodAll_cons_mk (Below.trod laidOut (by kernel_rfl) (of_decide_eq_true (by kernel_rfl)) k1 bel lt1) trodAll_mk0)), rfl, bel.frame _, fun h => by cases h⟩

theorem over : Rows.fnExactBothRow.holds Try.pinned (OpenSpec.ofChange Rows.fnExactBothSpec) :=
  OpenClaim.holds_of_wide 3 Try.f3 rfl rfl rfl rfl rfl rfl rfl ⟨rfl, rfl, rfl, rfl, rfl⟩ rfl rfl rfl rfl rfl (by kernel_rfl) Try.func3 (by kernel_rfl)
    (of_decide_eq_true (by kernel_rfl)) (by unfold Func.isWrapper; first | (rw [if_pos (by decide +kernel)]; kernel_rfl) | (rw [if_neg (by decide +kernel)]; exact ⟨rfl, rfl⟩))
    (fun os started H enc _ => lifted os started H enc)

theorem proved : Rows.FnExactBothSaid := over
end Go.Proofs.Ytgckeaijbmcdcaa.fnExactBoth
