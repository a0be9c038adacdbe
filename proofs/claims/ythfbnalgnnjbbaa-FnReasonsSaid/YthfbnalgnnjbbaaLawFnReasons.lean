/-
  laws.FnReasons returns true for all byte strings: a model has reasons just where it is an answer, those that Why gives.
  Conditions: none (what every row of this form says by itself: the arguments can be read as data).
-/
import Derived.Test.YthfbnalgnnjbbaaWhyP
import Derived.Test.YthfbnalgnnjbbaaWhyI
import Derived.Test.YthfbnalgnnjbbaaAnsU
import Derived.Test.YthfbnalgnnjbbaaUnfA
import Derived.Test.YthfbnalgnnjbbaaUnf
import Derived.Test.YthfbnalgnnjbbaaDrawM
import Derived.Test.YthfbnalgnnjbbaaLawsInts
import Derived.Test.YthfbnalgnnjbbaaAnyW
import Derived.Deep.RegionHeld3
import Derived.Test.YthfbnalgnnjbbaaOpen
import Derived.Test.YthfbnalgnnjbbaaRows
import Derived.WalkKit
import Derived.ProofKit
import Derived.OpenShut
import Derived.ShutString
import Derived.ChangeOld
import Derived.Below
namespace Go.Proofs.Ythfbnalgnnjbbaa.fnReasons
open Go.ChangeShapes Go.WideShapes Go.ChangeAt Go.RowKit
open Go.ChangeMaps (open_string shut_string)
set_option linter.unusedVariables false
set_option linter.unusedSimpArgs false

theorem own : ownKnob Try.prog.godebug = none := by kernel_rfl
theorem laidOut : laidOutB Try.prog = true := by kernel_rfl

theorem any_ok : AnyOk := fun c N w h hN => any_calls c N w h hN

set_option maxRecDepth 100000 in
set_option maxHeartbeats 8000000 in
theorem law0 {a : Option Addr} {bs : List Int} {cap : Nat} {w : World} (h : Bytes w a bs) :
    Calls Try.prog 3 #[.slice a bs.length cap] w fun e w' => e = .returned (.bool true) ∧ Below w.heap.size w w' := by
  have hb1 : decide (1048576 < (bs.length : Int)) = false := decide_eq_false (by have := h.1; omega)
  go_enter Try.func3, Try.ntmps3
  go_wp2_with fail
  refine (big_calls _ _ _ _ _ hb1).mono ?_
  rintro e w' ⟨rfl, rfl⟩
  go_wp2_with fail
  refine (DrawWhy_calls any_ok _ _ _ _ h).mono ?_
  rintro e w1 ⟨cs, p, v, xs, rfl, hp, gx, hwee, hlx, t1⟩
  have l1 := Rd.one hp
  obtain ⟨x0, x1, x2, x3, x4, x5, x6, x7, rfl⟩ := list8 (Rd.len hp)
  obtain ⟨rfl, -⟩ : x0 = .int .i64 p.atoms ∧ True := by
    obtain ⟨_, _, _, _, _, _, hl, _⟩ := hp
    simp only [List.cons.injEq, and_true] at hl
    exact ⟨hl.1, trivial⟩
  have st1 := sto Try.prog (l1 x1 (by simp))
  have st2 := sto Try.prog (l1 x2 (by simp))
  have st3 := sto Try.prog (l1 x3 (by simp))
  have st4 := sto Try.prog (l1 x4 (by simp))
  have st5 := sto Try.prog (l1 x5 (by simp))
  have st6 := sto Try.prog (l1 x6 (by simp))
  have st7 := sto Try.prog (l1 x7 (by simp))
  have CX := Cells.new w1 [.int .i64 p.atoms, x1, x2, x3, x4, x5, x6, x7] 30
  have tn := (Below.refl w1.heap.size w1).alloc (Nat.le_refl _) (.cells #[.int .i64 p.atoms, x1, x2, x3, x4, x5, x6, x7] 30)
  have tb := t1.alloc t1.size (.cells #[.int .i64 p.atoms, x1, x2, x3, x4, x5, x6, x7] 30)
  have hp := Rd.mono tn hp
  first | (have gx := Rd.mono (α := List Int) tn gx) | skip
  clear l1
  obtain ⟨y0, y1, y2, y3, y4, y5, y6, y7⟩ := cells8 CX
  clear h hb1 hwee
  cases hF : foldB p
  · have hW : whyB p xs = false := whyB_A hF
    have hrN := reaB_A (l := whyR p xs) hW
    have hz : ((whyR p xs).length : Int) = 0 := by rw [whyR_no hW]; rfl
    go_wp2_with fail
    refine (specFold_calls hp).mono ?_
    rintro e w2 ⟨cs2, he, o3, b2⟩
    rw [hF] at he
    subst he
    obtain ⟨z0, z1, z2, z3, z4, z5, z6, z7, rfl⟩ := list8 (Rd.len o3.rd)
    have m1 := Rd.one o3.rd
    have sz0 := sto Try.prog (m1 z0 (by simp))
    have sz1 := sto Try.prog (m1 z1 (by simp))
    have sz2 := sto Try.prog (m1 z2 (by simp))
    have sz3 := sto Try.prog (m1 z3 (by simp))
    have sz4 := sto Try.prog (m1 z4 (by simp))
    have sz5 := sto Try.prog (m1 z5 (by simp))
    have sz6 := sto Try.prog (m1 z6 (by simp))
    have sz7 := sto Try.prog (m1 z7 (by simp))
    clear m1
    have bq := b2.alloc b2.size (.cells #[z0, z1, z2, z3, z4, z5, z6, z7] 30)
    have t2 := (tb.step b2).alloc (tb.step b2).size (.cells #[z0, z1, z2, z3, z4, z5, z6, z7] 30)
    have CX := CX.later bq
    have hp := Rd.mono bq hp
    have gx := Rd.mono (α := List Int) bq gx
    clear y0 y1 y2 y3 y4 y5 y6 y7
    obtain ⟨y0, y1, y2, y3, y4, y5, y6, y7⟩ := cells8 (CX)
    go_wp2_with fail
    refine (implWhy_calls hp gx).mono ?_
    rintro e w3 ⟨uL, rfl, oL, b3⟩
    obtain ⟨aL, cL, rfl, _, _⟩ := oL.own.rd.sl
    have gL := oL.own.rd
    have t3 := t2.step b3
    have CX := CX.later b3
    have hp := Rd.mono b3 hp
    first | (have gx := Rd.mono (α := List Int) b3 gx) | skip
    clear y0 y1 y2 y3 y4 y5 y6 y7
    obtain ⟨y0, y1, y2, y3, y4, y5, y6, y7⟩ := cells8 (CX)
    clear hF
    go_wp2_with fail
    refine (implReasons_calls hp gx gL).mono ?_
    rintro e w5 ⟨he, b5⟩
    rw [hrN] at he
    subst he
    go_wp2
    go_ret
    exact ⟨rfl, t3.step b5⟩
  · go_wp2_with fail
    refine (specFold_calls hp).mono ?_
    rintro e w2 ⟨cs2, he, o2, b2⟩
    rw [hF] at he
    subst he
    rw [foldR_yes hF] at o2
    obtain ⟨z0, z1, z2, z3, z4, z5, z6, z7, rfl⟩ := list8 (Rd.len o2.rd)
    obtain ⟨rfl, -⟩ : z0 = .int .i64 p.atoms ∧ True := by
      obtain ⟨_, _, _, _, _, _, hl, _⟩ := o2.rd
      simp only [List.cons.injEq, and_true] at hl
      exact ⟨hl.1, trivial⟩
    have m1 := Rd.one o2.rd
    have sz1 := sto Try.prog (m1 _ (List.mem_of_getElem? (i := 1) rfl))
    have sz2 := sto Try.prog (m1 _ (List.mem_of_getElem? (i := 2) rfl))
    have sz3 := sto Try.prog (m1 _ (List.mem_of_getElem? (i := 3) rfl))
    have sz4 := sto Try.prog (m1 _ (List.mem_of_getElem? (i := 4) rfl))
    have sz5 := sto Try.prog (m1 _ (List.mem_of_getElem? (i := 5) rfl))
    have sz6 := sto Try.prog (m1 _ (List.mem_of_getElem? (i := 6) rfl))
    have sz7 := sto Try.prog (m1 _ (List.mem_of_getElem? (i := 7) rfl))
    clear m1
    have CQ := Cells.new w2 [.int .i64 p.atoms, z1, z2, z3, z4, z5, z6, z7] 30
    have tq := (Below.refl w2.heap.size w2).alloc (Nat.le_refl _) (.cells #[.int .i64 p.atoms, z1, z2, z3, z4, z5, z6, z7] 30)
    have hq := Rd.mono tq o2.rd
    have bq := b2.alloc b2.size (.cells #[.int .i64 p.atoms, z1, z2, z3, z4, z5, z6, z7] 30)
    have t2 := (tb.step b2).alloc (tb.step b2).size (.cells #[.int .i64 p.atoms, z1, z2, z3, z4, z5, z6, z7] 30)
    have CX := CX.later bq
    have hp := Rd.mono bq hp
    first | (have gx := Rd.mono (α := List Int) bq gx) | skip
    clear y0 y1 y2 y3 y4 y5 y6 y7
    obtain ⟨y0, y1, y2, y3, y4, y5, y6, y7⟩ := cells8 (CX)
    obtain ⟨zz0, zz1, zz2, zz3, zz4, zz5, zz6, zz7⟩ := cells8 (CQ)
    clear tq o2
    clear bq
    go_wp2_with fail
    refine (implWhy_calls hp gx).mono ?_
    rintro e w3 ⟨uL, rfl, oL, b3⟩
    obtain ⟨aL, cL, rfl, _, _⟩ := oL.own.rd.sl
    have gL := oL.own.rd
    have t3 := t2.step b3
    have CX := CX.later b3
    have hp := Rd.mono b3 hp
    first | (have gx := Rd.mono (α := List Int) b3 gx) | skip
    clear y0 y1 y2 y3 y4 y5 y6 y7
    obtain ⟨y0, y1, y2, y3, y4, y5, y6, y7⟩ := cells8 (CX)
    have CQ := CQ.later b3
    have hq := Rd.mono b3 hq
    clear zz0 zz1 zz2 zz3 zz4 zz5 zz6 zz7
    obtain ⟨zz0, zz1, zz2, zz3, zz4, zz5, zz6, zz7⟩ := cells8 (CQ)
    obtain ⟨ax, cx, rfl, _, hx⟩ := gx.sl
    cases hS : setOkB xs p.atoms
    · have hW : whyB p xs = false := (whyB_B hF).trans hS
      have hrN := reaB_A (l := whyR p xs) hW
      have hz : ((whyR p xs).length : Int) = 0 := by rw [whyR_no hW]; rfl
      go_wp2_with fail
      refine (specSetOk_calls _ _ _ _ _ hx.ints).mono ?_
      rintro e w4 ⟨he, b4⟩
      rw [hS] at he
      subst he
      have t4 := t3.step b4
      have CX := CX.later b4
      have hp := Rd.mono b4 hp
      first | (have gx := Rd.mono (α := List Int) b4 gx) | skip
      clear y0 y1 y2 y3 y4 y5 y6 y7
      obtain ⟨y0, y1, y2, y3, y4, y5, y6, y7⟩ := cells8 (CX)
      have gL := Rd.mono (α := List (Int × Int)) b4 gL
      clear hF hS
      go_wp2_with fail
      refine (implReasons_calls hp gx gL).mono ?_
      rintro e w5 ⟨he, b5⟩
      rw [hrN] at he
      subst he
      go_wp2
      go_ret
      exact ⟨rfl, t4.step b5⟩
    · have hW : whyB p xs = true := (whyB_B hF).trans hS
      have HA := Lib.hid (why_answer hW)
      have hle : ((whyR p xs).length : Int) ≤ (xs.length : Int) := by
        rw [whyR_yes hW]
        have := whyF_le (rs := (foldD p).rules) (xs := xs)
        omega
      clear hW
      go_wp2_with fail
      refine (specSetOk_calls _ _ _ _ _ hx.ints).mono ?_
      rintro e w4 ⟨he, b4⟩
      rw [hS] at he
      subst he
      have t4 := t3.step b4
      have CX := CX.later b4
      have hp := Rd.mono b4 hp
      first | (have gx := Rd.mono (α := List Int) b4 gx) | skip
      clear y0 y1 y2 y3 y4 y5 y6 y7
      obtain ⟨y0, y1, y2, y3, y4, y5, y6, y7⟩ := cells8 (CX)
      have CQ := CQ.later b4
      have hq := Rd.mono b4 hq
      clear zz0 zz1 zz2 zz3 zz4 zz5 zz6 zz7
      obtain ⟨zz0, zz1, zz2, zz3, zz4, zz5, zz6, zz7⟩ := cells8 (CQ)
      have gL := Rd.mono (α := List (Int × Int)) b4 gL
      go_upto_region 8 with fail
      have hp := Rd.mono ((Below.refl w4.heap.size w4).drew) hp
      have hq := Rd.mono ((Below.refl w4.heap.size w4).drew) hq
      have gx := Rd.mono (α := List Int) ((Below.refl w4.heap.size w4).drew) gx
      have gL := Rd.mono (α := List (Int × Int)) ((Below.refl w4.heap.size w4).drew) gL
      have CX := CX.drew
      have CQ := CQ.drew
      have td := t4.drew
      clear y0 y1 y2 y3 y4 y5 y6 y7 zz0 zz1 zz2 zz3 zz4 zz5 zz6 zz7
      refine wp_region_held_drew (S := fun W' => (W'.cell? ⟨w1.heap.size, 0, none⟩ = some (.int .i64 p.atoms) ∧ W'.cell? ⟨w1.heap.size, 1, none⟩ = some x1 ∧ W'.cell? ⟨w1.heap.size, 2, none⟩ = some x2 ∧ W'.cell? ⟨w1.heap.size, 3, none⟩ = some x3 ∧ W'.cell? ⟨w1.heap.size, 4, none⟩ = some x4 ∧ W'.cell? ⟨w1.heap.size, 5, none⟩ = some x5 ∧ W'.cell? ⟨w1.heap.size, 6, none⟩ = some x6 ∧ W'.cell? ⟨w1.heap.size, 7, none⟩ = some x7) ∧ (W'.cell? ⟨w2.heap.size, 0, none⟩ = some (.int .i64 p.atoms) ∧ W'.cell? ⟨w2.heap.size, 1, none⟩ = some z1 ∧ W'.cell? ⟨w2.heap.size, 2, none⟩ = some z2 ∧ W'.cell? ⟨w2.heap.size, 3, none⟩ = some z3 ∧ W'.cell? ⟨w2.heap.size, 4, none⟩ = some z4 ∧ W'.cell? ⟨w2.heap.size, 5, none⟩ = some z5 ∧ W'.cell? ⟨w2.heap.size, 6, none⟩ = some z6 ∧ W'.cell? ⟨w2.heap.size, 7, none⟩ = some z7)) (by kernel_rfl) ⟨cells8 CX, cells8 CQ⟩ (fun hHeld => ?_)
      generalize w4.drew = wq at *
      refine takeD (i := 0) (v := .agg #[.int .i64 p.atoms, z1, z2, z3, z4, z5, z6, z7]) (some 42) rfl rfl (by kernel_rfl) (by kernel_rfl) (by kernel_rfl) (fun _ _ _ h => h) (Or.inl ⟨by rfl, fun w' hw' => ?_⟩) hHeld ?_
      · first | (go_simp; done) | (obtain ⟨⟨s0, s1, s2, s3, s4, s5, s6, s7⟩, ⟨r0, r1, r2, r3, r4, r5, r6, r7⟩⟩ := hw'; go_simp; done)
      try simp only [Act.put, List.setIfInBounds_toArray, List.set_cons_zero, List.set_cons_succ]
      refine takeD (i := 1) (v := .slice ax xs.length cx) (some 43) rfl rfl (by kernel_rfl) (by kernel_rfl) (by kernel_rfl) (fun _ _ _ h => h) (Or.inl ⟨by rfl, fun w' hw' => ?_⟩) hHeld ?_
      · first | (go_simp; done) | (obtain ⟨⟨s0, s1, s2, s3, s4, s5, s6, s7⟩, ⟨r0, r1, r2, r3, r4, r5, r6, r7⟩⟩ := hw'; go_simp; done)
      try simp only [Act.put, List.setIfInBounds_toArray, List.set_cons_zero, List.set_cons_succ]
      refine takeD (i := 9) (v := .agg #[.int .i64 p.atoms, x1, x2, x3, x4, x5, x6, x7]) (some 51) rfl rfl (by kernel_rfl) (by kernel_rfl) (by kernel_rfl) (fun _ _ _ h => h) (Or.inl ⟨by rfl, fun w' hw' => ?_⟩) hHeld ?_
      · first | (go_simp; done) | (obtain ⟨⟨s0, s1, s2, s3, s4, s5, s6, s7⟩, ⟨r0, r1, r2, r3, r4, r5, r6, r7⟩⟩ := hw'; go_simp; done)
      try simp only [Act.put, List.setIfInBounds_toArray, List.set_cons_zero, List.set_cons_succ]
      refine takeD (i := 10) (v := .slice ax xs.length cx) (some 52) rfl rfl (by kernel_rfl) (by kernel_rfl) (by kernel_rfl) (fun _ _ _ h => h) (Or.inl ⟨by rfl, fun w' hw' => ?_⟩) hHeld ?_
      · first | (go_simp; done) | (obtain ⟨⟨s0, s1, s2, s3, s4, s5, s6, s7⟩, ⟨r0, r1, r2, r3, r4, r5, r6, r7⟩⟩ := hw'; go_simp; done)
      try simp only [Act.put, List.setIfInBounds_toArray, List.set_cons_zero, List.set_cons_succ]
      refine wpAnyH_ready (rs := [2]) (by kernel_rfl) (by simp) ?_
      refine AllReadyH.cons rfl (fun K hK => ?_) AllReadyH.nil
      go_simp
      refine (implModel_calls hq gx).mono ?_
      rintro e w5 ⟨rfl, b5⟩
      refine hK.out _ _ ⟨cells8 (CX.later b5), cells8 (CQ.later b5)⟩ (fun hHeld => ?_)
      clear hK K
      try simp only [Act.put, List.setIfInBounds_toArray, List.set_cons_zero, List.set_cons_succ]
      generalize modelB (foldD p) xs = mb at *
      refine takeD (i := 3) (v := .bool mb) (some 45) rfl rfl (by kernel_rfl) (by kernel_rfl) (by kernel_rfl) (fun _ _ _ h => h) (Or.inl ⟨by rfl, fun w' hw' => ?_⟩) hHeld ?_
      · first | (go_simp; done) | (obtain ⟨⟨s0, s1, s2, s3, s4, s5, s6, s7⟩, ⟨r0, r1, r2, r3, r4, r5, r6, r7⟩⟩ := hw'; go_simp; done)
      try simp only [Act.put, List.setIfInBounds_toArray, List.set_cons_zero, List.set_cons_succ]
      cases mb
      · have hAN : answerR p xs = false := HA.out.symm
        refine takeD (i := 4) (v := undef) (some 46) rfl rfl (by kernel_rfl) (by kernel_rfl) (by kernel_rfl) (fun _ _ _ h => h) (Or.inr ⟨by rfl, rfl⟩) hHeld ?_
        try simp only [Act.put, List.setIfInBounds_toArray, List.set_cons_zero, List.set_cons_succ]
        refine takeD (i := 5) (v := undef) (some 47) rfl rfl (by kernel_rfl) (by kernel_rfl) (by kernel_rfl) (fun _ _ _ h => h) (Or.inr ⟨by rfl, rfl⟩) hHeld ?_
        try simp only [Act.put, List.setIfInBounds_toArray, List.set_cons_zero, List.set_cons_succ]
        refine takeD (i := 6) (v := undef) (some 48) rfl rfl (by kernel_rfl) (by kernel_rfl) (by kernel_rfl) (fun _ _ _ h => h) (Or.inr ⟨by rfl, rfl⟩) hHeld ?_
        try simp only [Act.put, List.setIfInBounds_toArray, List.set_cons_zero, List.set_cons_succ]
        refine takeD (i := 7) (v := undef) (some 49) rfl rfl (by kernel_rfl) (by kernel_rfl) (by kernel_rfl) (fun _ _ _ h => h) (Or.inr ⟨by rfl, rfl⟩) hHeld ?_
        try simp only [Act.put, List.setIfInBounds_toArray, List.set_cons_zero, List.set_cons_succ]
        refine takeD (i := 8) (v := .bool false) (some 50) rfl rfl (by kernel_rfl) (by kernel_rfl) (by kernel_rfl) (fun _ _ _ h => h) (Or.inl ⟨by rfl, fun w' hw' => ?_⟩) hHeld ?_
        · first | (go_simp; done) | (obtain ⟨⟨s0, s1, s2, s3, s4, s5, s6, s7⟩, ⟨r0, r1, r2, r3, r4, r5, r6, r7⟩⟩ := hw'; go_simp; done)
        try simp only [Act.put, List.setIfInBounds_toArray, List.set_cons_zero, List.set_cons_succ]
        refine wpAnyH_ready (rs := [11]) (by kernel_rfl) (by simp) ?_
        refine AllReadyH.cons rfl (fun K hK => ?_) AllReadyH.nil
        go_simp
        refine (specAnswer_calls (Rd.mono b5 hp) (Rd.mono (α := List Int) b5 gx)).mono ?_
        rintro e w6 ⟨he, b6⟩
        rw [hAN] at he
        subst he
        refine hK.out _ _ ⟨cells8 ((CX.later b5).later b6), cells8 ((CQ.later b5).later b6)⟩ (fun hHeld => ?_)
        clear hK K
        try simp only [Act.put, List.setIfInBounds_toArray, List.set_cons_zero, List.set_cons_succ]
        refine takeD (i := 12) (v := .bool true) (some 54) rfl rfl (by kernel_rfl) (by kernel_rfl) (by kernel_rfl) (fun _ _ _ h => h) (Or.inl ⟨by rfl, fun w' hw' => ?_⟩) hHeld ?_
        · first | (go_simp; done) | (obtain ⟨⟨s0, s1, s2, s3, s4, s5, s6, s7⟩, ⟨r0, r1, r2, r3, r4, r5, r6, r7⟩⟩ := hw'; go_simp; done)
        try simp only [Act.put, List.setIfInBounds_toArray, List.set_cons_zero, List.set_cons_succ]
        refine takeD (i := 13) (v := .bool true) (some 55) rfl rfl (by kernel_rfl) (by kernel_rfl) (by kernel_rfl) (fun _ _ _ h => h) (Or.inl ⟨by rfl, fun w' hw' => ?_⟩) hHeld ?_
        · first | (go_simp; done) | (obtain ⟨⟨s0, s1, s2, s3, s4, s5, s6, s7⟩, ⟨r0, r1, r2, r3, r4, r5, r6, r7⟩⟩ := hw'; go_simp; done)
        try simp only [Act.put, List.setIfInBounds_toArray, List.set_cons_zero, List.set_cons_succ]
        refine takeD (i := 14) (v := .slice aL (whyR p xs).length cL) (some 56) rfl rfl (by kernel_rfl) (by kernel_rfl) (by kernel_rfl) (fun _ _ _ h => h) (Or.inl ⟨by rfl, fun w' hw' => ?_⟩) hHeld ?_
        · first | (go_simp; done) | (obtain ⟨⟨s0, s1, s2, s3, s4, s5, s6, s7⟩, ⟨r0, r1, r2, r3, r4, r5, r6, r7⟩⟩ := hw'; go_simp; done)
        try simp only [Act.put, List.setIfInBounds_toArray, List.set_cons_zero, List.set_cons_succ]
        refine takeD (i := 15) (v := .int .i64 ((whyR p xs).length : Int)) (some 57) rfl rfl (by kernel_rfl) (by kernel_rfl) (by kernel_rfl) (fun _ _ _ h => h) (Or.inl ⟨by rfl, fun w' hw' => ?_⟩) hHeld ?_
        · first | (go_simp; done) | (obtain ⟨⟨s0, s1, s2, s3, s4, s5, s6, s7⟩, ⟨r0, r1, r2, r3, r4, r5, r6, r7⟩⟩ := hw'; go_simp; done)
        try simp only [Act.put, List.setIfInBounds_toArray, List.set_cons_zero, List.set_cons_succ]
        refine takeD (i := 16) (v := .slice ax xs.length cx) (some 58) rfl rfl (by kernel_rfl) (by kernel_rfl) (by kernel_rfl) (fun _ _ _ h => h) (Or.inl ⟨by rfl, fun w' hw' => ?_⟩) hHeld ?_
        · first | (go_simp; done) | (obtain ⟨⟨s0, s1, s2, s3, s4, s5, s6, s7⟩, ⟨r0, r1, r2, r3, r4, r5, r6, r7⟩⟩ := hw'; go_simp; done)
        try simp only [Act.put, List.setIfInBounds_toArray, List.set_cons_zero, List.set_cons_succ]
        refine takeD (i := 17) (v := .int .i64 (xs.length : Int)) (some 59) rfl rfl (by kernel_rfl) (by kernel_rfl) (by kernel_rfl) (fun _ _ _ h => h) (Or.inl ⟨by rfl, fun w' hw' => ?_⟩) hHeld ?_
        · first | (go_simp; done) | (obtain ⟨⟨s0, s1, s2, s3, s4, s5, s6, s7⟩, ⟨r0, r1, r2, r3, r4, r5, r6, r7⟩⟩ := hw'; go_simp; done)
        try simp only [Act.put, List.setIfInBounds_toArray, List.set_cons_zero, List.set_cons_succ]
        refine takeD (i := 18) (v := .bool true) (some 60) rfl rfl (by kernel_rfl) (by kernel_rfl) (by kernel_rfl) (fun _ _ _ h => h) (Or.inl ⟨by rfl, fun w' hw' => ?_⟩) hHeld ?_
        · first | (go_simp; done) | (obtain ⟨⟨s0, s1, s2, s3, s4, s5, s6, s7⟩, ⟨r0, r1, r2, r3, r4, r5, r6, r7⟩⟩ := hw'; go_simp; done)
        try simp only [Act.put, List.setIfInBounds_toArray, List.set_cons_zero, List.set_cons_succ]
        refine takeD (i := 19) (v := .bool true) (some 61) rfl rfl (by kernel_rfl) (by kernel_rfl) (by kernel_rfl) (fun _ _ _ h => h) (Or.inl ⟨by rfl, fun w' hw' => ?_⟩) hHeld ?_
        · first | (go_simp; done) | (obtain ⟨⟨s0, s1, s2, s3, s4, s5, s6, s7⟩, ⟨r0, r1, r2, r3, r4, r5, r6, r7⟩⟩ := hw'; go_simp; done)
        try simp only [Act.put, List.setIfInBounds_toArray, List.set_cons_zero, List.set_cons_succ]
        refine takeD (i := 20) (v := .bool true) (some 2) rfl rfl (by kernel_rfl) (by kernel_rfl) (by kernel_rfl) (fun _ _ _ h => h) (Or.inl ⟨by rfl, fun w' hw' => ?_⟩) hHeld ?_
        · first | (go_simp; done) | (obtain ⟨⟨s0, s1, s2, s3, s4, s5, s6, s7⟩, ⟨r0, r1, r2, r3, r4, r5, r6, r7⟩⟩ := hw'; go_simp; done)
        try simp only [Act.put, List.setIfInBounds_toArray, List.set_cons_zero, List.set_cons_succ]
        refine wpAnyH_done (by kernel_rfl) ?_ _
        go_wp2
        go_ret
        exact ⟨rfl, (td.step b5).step b6⟩
      · have hAN : reaB p xs (whyR p xs) = answerR p xs := HA.out
        refine takeD (i := 4) (v := .agg #[.int .i64 p.atoms, x1, x2, x3, x4, x5, x6, x7]) (some 46) rfl rfl (by kernel_rfl) (by kernel_rfl) (by kernel_rfl) (fun _ _ _ h => h) (Or.inl ⟨by rfl, fun w' hw' => ?_⟩) hHeld ?_
        · first | (go_simp; done) | (obtain ⟨⟨s0, s1, s2, s3, s4, s5, s6, s7⟩, ⟨r0, r1, r2, r3, r4, r5, r6, r7⟩⟩ := hw'; go_simp; done)
        try simp only [Act.put, List.setIfInBounds_toArray, List.set_cons_zero, List.set_cons_succ]
        refine takeD (i := 5) (v := .slice ax xs.length cx) (some 47) rfl rfl (by kernel_rfl) (by kernel_rfl) (by kernel_rfl) (fun _ _ _ h => h) (Or.inl ⟨by rfl, fun w' hw' => ?_⟩) hHeld ?_
        · first | (go_simp; done) | (obtain ⟨⟨s0, s1, s2, s3, s4, s5, s6, s7⟩, ⟨r0, r1, r2, r3, r4, r5, r6, r7⟩⟩ := hw'; go_simp; done)
        try simp only [Act.put, List.setIfInBounds_toArray, List.set_cons_zero, List.set_cons_succ]
        refine takeD (i := 6) (v := .slice aL (whyR p xs).length cL) (some 48) rfl rfl (by kernel_rfl) (by kernel_rfl) (by kernel_rfl) (fun _ _ _ h => h) (Or.inl ⟨by rfl, fun w' hw' => ?_⟩) hHeld ?_
        · first | (go_simp; done) | (obtain ⟨⟨s0, s1, s2, s3, s4, s5, s6, s7⟩, ⟨r0, r1, r2, r3, r4, r5, r6, r7⟩⟩ := hw'; go_simp; done)
        try simp only [Act.put, List.setIfInBounds_toArray, List.set_cons_zero, List.set_cons_succ]
        refine wpAnyH_ready (rs := [7]) (by kernel_rfl) (by simp) ?_
        refine AllReadyH.cons rfl (fun K hK => ?_) AllReadyH.nil
        go_simp
        refine (implReasons_calls (Rd.mono b5 hp) (Rd.mono (α := List Int) b5 gx) (Rd.mono (α := List (Int × Int)) b5 gL)).mono ?_
        rintro e w6 ⟨he, b6⟩
        rw [hAN] at he
        subst he
        refine hK.out _ _ ⟨cells8 ((CX.later b5).later b6), cells8 ((CQ.later b5).later b6)⟩ (fun hHeld => ?_)
        clear hK K
        try simp only [Act.put, List.setIfInBounds_toArray, List.set_cons_zero, List.set_cons_succ]
        generalize hab : answerR p xs = ab at *
        refine takeD (i := 8) (v := .bool ab) (some 50) rfl rfl (by kernel_rfl) (by kernel_rfl) (by kernel_rfl) (fun _ _ _ h => h) (Or.inl ⟨by rfl, fun w' hw' => ?_⟩) hHeld ?_
        · first | (go_simp; done) | (obtain ⟨⟨s0, s1, s2, s3, s4, s5, s6, s7⟩, ⟨r0, r1, r2, r3, r4, r5, r6, r7⟩⟩ := hw'; go_simp; done)
        try simp only [Act.put, List.setIfInBounds_toArray, List.set_cons_zero, List.set_cons_succ]
        refine wpAnyH_ready (rs := [11]) (by kernel_rfl) (by simp) ?_
        refine AllReadyH.cons rfl (fun K hK => ?_) AllReadyH.nil
        go_simp
        refine (specAnswer_calls (Rd.mono b6 (Rd.mono b5 hp)) (Rd.mono (α := List Int) b6 (Rd.mono (α := List Int) b5 gx))).mono ?_
        rintro e w7 ⟨he, b7⟩
        rw [hab] at he
        subst he
        clear hab hAN
        refine hK.out _ _ ⟨cells8 (((CX.later b5).later b6).later b7), cells8 (((CQ.later b5).later b6).later b7)⟩ (fun hHeld => ?_)
        clear hK K
        try simp only [Act.put, List.setIfInBounds_toArray, List.set_cons_zero, List.set_cons_succ]
        refine takeD (i := 12) (v := .bool true) (some 54) rfl rfl (by kernel_rfl) (by kernel_rfl) (by kernel_rfl) (fun _ _ _ h => h) (Or.inl ⟨by rfl, fun w' hw' => ?_⟩) hHeld ?_
        · first | (go_simp; done) | (obtain ⟨⟨s0, s1, s2, s3, s4, s5, s6, s7⟩, ⟨r0, r1, r2, r3, r4, r5, r6, r7⟩⟩ := hw'; go_simp; done)
        try simp only [Act.put, List.setIfInBounds_toArray, List.set_cons_zero, List.set_cons_succ]
        refine takeD (i := 13) (v := .bool true) (some 55) rfl rfl (by kernel_rfl) (by kernel_rfl) (by kernel_rfl) (fun _ _ _ h => h) (Or.inl ⟨by rfl, fun w' hw' => ?_⟩) hHeld ?_
        · first | (go_simp; done) | (obtain ⟨⟨s0, s1, s2, s3, s4, s5, s6, s7⟩, ⟨r0, r1, r2, r3, r4, r5, r6, r7⟩⟩ := hw'; go_simp; done)
        try simp only [Act.put, List.setIfInBounds_toArray, List.set_cons_zero, List.set_cons_succ]
        refine takeD (i := 14) (v := .slice aL (whyR p xs).length cL) (some 56) rfl rfl (by kernel_rfl) (by kernel_rfl) (by kernel_rfl) (fun _ _ _ h => h) (Or.inl ⟨by rfl, fun w' hw' => ?_⟩) hHeld ?_
        · first | (go_simp; done) | (obtain ⟨⟨s0, s1, s2, s3, s4, s5, s6, s7⟩, ⟨r0, r1, r2, r3, r4, r5, r6, r7⟩⟩ := hw'; go_simp; done)
        try simp only [Act.put, List.setIfInBounds_toArray, List.set_cons_zero, List.set_cons_succ]
        refine takeD (i := 15) (v := .int .i64 ((whyR p xs).length : Int)) (some 57) rfl rfl (by kernel_rfl) (by kernel_rfl) (by kernel_rfl) (fun _ _ _ h => h) (Or.inl ⟨by rfl, fun w' hw' => ?_⟩) hHeld ?_
        · first | (go_simp; done) | (obtain ⟨⟨s0, s1, s2, s3, s4, s5, s6, s7⟩, ⟨r0, r1, r2, r3, r4, r5, r6, r7⟩⟩ := hw'; go_simp; done)
        try simp only [Act.put, List.setIfInBounds_toArray, List.set_cons_zero, List.set_cons_succ]
        refine takeD (i := 16) (v := .slice ax xs.length cx) (some 58) rfl rfl (by kernel_rfl) (by kernel_rfl) (by kernel_rfl) (fun _ _ _ h => h) (Or.inl ⟨by rfl, fun w' hw' => ?_⟩) hHeld ?_
        · first | (go_simp; done) | (obtain ⟨⟨s0, s1, s2, s3, s4, s5, s6, s7⟩, ⟨r0, r1, r2, r3, r4, r5, r6, r7⟩⟩ := hw'; go_simp; done)
        try simp only [Act.put, List.setIfInBounds_toArray, List.set_cons_zero, List.set_cons_succ]
        refine takeD (i := 17) (v := .int .i64 (xs.length : Int)) (some 59) rfl rfl (by kernel_rfl) (by kernel_rfl) (by kernel_rfl) (fun _ _ _ h => h) (Or.inl ⟨by rfl, fun w' hw' => ?_⟩) hHeld ?_
        · first | (go_simp; done) | (obtain ⟨⟨s0, s1, s2, s3, s4, s5, s6, s7⟩, ⟨r0, r1, r2, r3, r4, r5, r6, r7⟩⟩ := hw'; go_simp; done)
        try simp only [Act.put, List.setIfInBounds_toArray, List.set_cons_zero, List.set_cons_succ]
        refine takeD (i := 18) (v := .bool true) (some 60) rfl rfl (by kernel_rfl) (by kernel_rfl) (by kernel_rfl) (fun _ _ _ h => h) (Or.inl ⟨by rfl, fun w' hw' => ?_⟩) hHeld ?_
        · first | (go_simp; done) | (obtain ⟨⟨s0, s1, s2, s3, s4, s5, s6, s7⟩, ⟨r0, r1, r2, r3, r4, r5, r6, r7⟩⟩ := hw'; go_simp; done)
        try simp only [Act.put, List.setIfInBounds_toArray, List.set_cons_zero, List.set_cons_succ]
        refine takeD (i := 19) (v := .bool true) (some 61) rfl rfl (by kernel_rfl) (by kernel_rfl) (by kernel_rfl) (fun _ _ _ h => h) (Or.inl ⟨by rfl, fun w' hw' => ?_⟩) hHeld ?_
        · first | (go_simp; done) | (obtain ⟨⟨s0, s1, s2, s3, s4, s5, s6, s7⟩, ⟨r0, r1, r2, r3, r4, r5, r6, r7⟩⟩ := hw'; go_simp; done)
        try simp only [Act.put, List.setIfInBounds_toArray, List.set_cons_zero, List.set_cons_succ]
        refine takeD (i := 20) (v := .bool true) (some 2) rfl rfl (by kernel_rfl) (by kernel_rfl) (by kernel_rfl) (fun _ _ _ h => h) (Or.inl ⟨by rfl, fun w' hw' => ?_⟩) hHeld ?_
        · first | (go_simp; done) | (obtain ⟨⟨s0, s1, s2, s3, s4, s5, s6, s7⟩, ⟨r0, r1, r2, r3, r4, r5, r6, r7⟩⟩ := hw'; go_simp; done)
        try simp only [Act.put, List.setIfInBounds_toArray, List.set_cons_zero, List.set_cons_succ]
        refine wpAnyH_done (by kernel_rfl) ?_ _
        go_wp2
        go_ret
        exact ⟨rfl, ((td.step b5).step b6).step b7⟩
set_option maxRecDepth 100000 in
theorem law {a : Option Addr} {len cap : Nat} {zs : List Int} {w : World} (h : IsRow .u8 w a len cap zs) :
    Calls Try.prog 3 #[.slice a len cap] w fun e w' => e = .returned (.bool true) ∧ Below w.heap.size w w' := by
  by_cases hbig : len ≤ 1048576
  · obtain ⟨bs, rfl, hB⟩ := isRow_bytes h hbig
    exact law0 hB
  · have hb1 : decide (1048576 < (len : Int)) = true := decide_eq_true (by omega)
    go_enter Try.func3, Try.ntmps3
    go_wp2_with fail
    refine (big_calls _ _ _ _ _ hb1).mono ?_
    rintro e w' ⟨rfl, rfl⟩
    go_wp2
    go_ret
    exact ⟨rfl, Below.refl _ _⟩

set_option maxRecDepth 100000 in
theorem lifted (os : Os) (started : os.Started) (H : Type) (enc : TypeId × Value → H) :
    ReturnsInHanded {} Try.checked os 3 .any (Rows.fnReasonsSpec.pre6 enc Try.prog Try.f3 Rows.fnReasonsRow.domain false) (Rows.fnReasonsSpec.post enc Try.prog Try.f3 false true false false) := by
  refine returnsInHanded_of_change (C := Try.checked) own started (by kernel_rfl) Try.func3
    (ChangeSpec.witness6 (enc := enc) (C := Try.checked) false ⟨#[], #[.slice none 0 0], []⟩ 8 (by kernel_rfl) (by kernel_rfl) (by kernel_rfl) (by kernel_rfl)) ?_
  intro W base args ds gs before hval0 hW hcnd _
  have hval : ∀ (j : Nat) t v, Try.f3.params[j]? = some t → args[j]? = some v → Value.okWide Try.prog W .any base t v := hval0
  have hW' := hW
  obtain ⟨p, q, hA0, hV, rfl, hfz, hnd⟩ := hW
  have hA : DataW.TrodAll enc Try.prog W 0 (fun _ => true) true Try.f3.params.toList args.toList ds p := hA0
  rw [Try.params3] at hA hval
  obtain ⟨v0, vs0, d0, ds0, p0, q0, hargs, rfl, rfl, h0, r0⟩ := trodAll_cons hA
  obtain ⟨rfl, rfl, rfl⟩ := trodAll_nil r0
  obtain rfl : args = #[v0] := by cases args; simp_all
  obtain ⟨rfl, rfl⟩ := trodVars_none hV
  obtain ⟨a0, len0, cap0, rfl⟩ := okWide_slice Try.underlying22 (hval 0 22 v0 rfl rfl)
  have k0 := h0
  have lt0 : ∀ x ∈ p0, x.block < W.heap.size := by obtain ⟨m, hm⟩ := k0; exact DataW.trod_lt m _ _ _ hm
  obtain ⟨z0, w0⟩ : ∃ zs, IsRow .u8 W a0 len0 cap0 zs := by
    obtain ⟨fuel, hf⟩ := h0
    rcases open_ints Try.underlying22 Try.underlying5 (by kernel_rfl) hf with ⟨hcs, _⟩ | ⟨x, l, c, zs, hcs, _, hl, hm, hz, _, hcell, hwz⟩
    · simp [Value.cells] at hcs
      obtain ⟨rfl, rfl, rfl⟩ := hcs
      exact ⟨[], .inl ⟨rfl, rfl, rfl, rfl⟩⟩
    · simp [Value.cells] at hcs
      obtain ⟨rfl, rfl, rfl⟩ := hcs
      exact ⟨zs, .inr ⟨_, rfl, hl, hm, by simpa using hz, hcell, hwz⟩⟩
  clear hA0 hval0
  refine (law w0).mono fun e W' ⟨he, bel⟩ => ?_
  subst he
  exact ⟨_, rfl, _, _, _, [], _, [], hW', trodAll_mk1 (shut_bool Try.underlying4 _), (trodAll_cons_mk (Below.trod laidOut (by kernel_rfl) (of_decide_eq_true (by kernel_rfl)) k0 bel lt0) trodAll_mk0), rfl, bel.frame _, fun h => by cases h⟩

theorem over : Rows.fnReasonsRow.holds Try.pinned (OpenSpec.ofChange Rows.fnReasonsSpec) :=
  OpenClaim.holds_of_wide 3 Try.f3 rfl rfl rfl rfl rfl rfl rfl ⟨rfl, rfl, rfl, rfl, rfl⟩ rfl rfl rfl rfl rfl (by kernel_rfl) Try.func3 (by kernel_rfl)
    (of_decide_eq_true (by kernel_rfl)) (by unfold Func.isWrapper; first | (rw [if_pos (by decide +kernel)]; kernel_rfl) | (rw [if_neg (by decide +kernel)]; exact ⟨rfl, rfl⟩))
    (fun os started H enc _ => lifted os started H enc)

theorem proved : Rows.FnReasonsSaid := over
end Go.Proofs.Ythfbnalgnnjbbaa.fnReasons
