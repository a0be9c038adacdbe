/-
  laws.FnNothingUnfounded returns true for all byte strings: a set is an answer just where it is a model in which nothing is unfounded.
  Conditions: none (what every row of this form says by itself: the arguments can be read as data).
-/
import Derived.Test.YthfbnalgnnjbbaaGreatAnsI
import Derived.Test.YthfbnalgnnjbbaaGreatUnfA
import Derived.Test.YthfbnalgnnjbbaaGreatSupS
import Derived.Test.YthfbnalgnnjbbaaGreatUnf
import Derived.Test.YthfbnalgnnjbbaaGreatDrawM
import Derived.Test.YthfbnalgnnjbbaaGreatLawsInts
import Derived.Test.YthfbnalgnnjbbaaGreatAnyW
import Derived.Deep.RegionHeld3
import Derived.Test.YthfbnalgnnjbbaaGreatOpen
import Derived.Test.YthfbnalgnnjbbaaGreatRows
import Derived.WalkKit
import Derived.ProofKit
import Derived.OpenShut
import Derived.ShutString
import Derived.ChangeOld
import Derived.Below
namespace Go.Proofs.YthfbnalgnnjbbaaGreat.fnNothingUnfounded
open Go.ChangeShapes Go.WideShapes Go.ChangeAt Go.RowKit
open Go.ChangeMaps (open_string shut_string)
set_option linter.unusedVariables false
set_option linter.unusedSimpArgs false

theorem own : ownKnob Tryz.prog.godebug = none := by kernel_rfl
theorem laidOut : laidOutB Tryz.prog = true := by kernel_rfl

theorem any_ok : AnyOk := fun c N w h hN => any_calls c N w h hN

set_option maxRecDepth 100000 in
set_option maxHeartbeats 8000000 in
theorem law0 {a a' : Option Addr} {bs ms : List Int} {cap cap' : Nat} {w : World} (h : Bytes w a bs) (h' : Bytes w a' ms) :
    Calls Tryz.prog 3 #[.slice a bs.length cap, .slice a' ms.length cap'] w fun e w' => e = .returned (.bool true) ∧ Below w.heap.size w w' := by
  have hb1 : decide (1048576 < (bs.length : Int)) = false := decide_eq_false (by have := h.1; omega)
  have hb2 : decide (1048576 < (ms.length : Int)) = false := decide_eq_false (by have := h'.1; omega)
  go_enter Tryz.func3, Tryz.ntmps3
  go_wp2_with fail
  refine (big_calls _ _ _ _ _ hb1).mono ?_
  rintro e w' ⟨rfl, rfl⟩
  go_wp2_with fail
  refine (big_calls _ _ _ _ _ hb2).mono ?_
  rintro e w' ⟨rfl, rfl⟩
  go_wp2_with fail
  refine (DrawAnswer_calls any_ok _ _ _ _ h).mono ?_
  rintro e w1 ⟨cs, p, v, xs, rfl, hp, gx, hwee, hlx, t1⟩
  have h' := h'.later t1
  have l1 := Rd.one hp
  obtain ⟨x0, x1, x2, x3, x4, x5, x6, x7, rfl⟩ := list8 (Rd.len hp)
  obtain ⟨rfl, -⟩ : x0 = .int .i64 p.atoms ∧ True := by
    obtain ⟨_, _, _, _, _, _, hl, _⟩ := hp
    simp only [List.cons.injEq, and_true] at hl
    exact ⟨hl.1, trivial⟩
  have st1 := sto Tryz.prog (l1 x1 (by simp))
  have st2 := sto Tryz.prog (l1 x2 (by simp))
  have st3 := sto Tryz.prog (l1 x3 (by simp))
  have st4 := sto Tryz.prog (l1 x4 (by simp))
  have st5 := sto Tryz.prog (l1 x5 (by simp))
  have st6 := sto Tryz.prog (l1 x6 (by simp))
  have st7 := sto Tryz.prog (l1 x7 (by simp))
  have CX := Cells.new w1 [.int .i64 p.atoms, x1, x2, x3, x4, x5, x6, x7] 30
  have tn := (Below.refl w1.heap.size w1).alloc (Nat.le_refl _) (.cells #[.int .i64 p.atoms, x1, x2, x3, x4, x5, x6, x7] 30)
  have tb := t1.alloc t1.size (.cells #[.int .i64 p.atoms, x1, x2, x3, x4, x5, x6, x7] 30)
  have hp := Rd.mono tn hp
  first | (have gx := Rd.mono (α := List Int) tn gx) | skip
  clear l1
  obtain ⟨y0, y1, y2, y3, y4, y5, y6, y7⟩ := cells8 CX
  have h' := h'.later tn
  clear h hb1 hb2 hwee
  cases hF : foldB p
  · go_wp2_with fail
    refine (specFold_calls hp).mono ?_
    rintro e w2 ⟨cs2, he, o3, b2⟩
    rw [hF] at he
    subst he
    obtain ⟨z0, z1, z2, z3, z4, z5, z6, z7, rfl⟩ := list8 (Rd.len o3.rd)
    have m1 := Rd.one o3.rd
    have sz0 := sto Tryz.prog (m1 z0 (by simp))
    have sz1 := sto Tryz.prog (m1 z1 (by simp))
    have sz2 := sto Tryz.prog (m1 z2 (by simp))
    have sz3 := sto Tryz.prog (m1 z3 (by simp))
    have sz4 := sto Tryz.prog (m1 z4 (by simp))
    have sz5 := sto Tryz.prog (m1 z5 (by simp))
    have sz6 := sto Tryz.prog (m1 z6 (by simp))
    have sz7 := sto Tryz.prog (m1 z7 (by simp))
    clear m1
    go_wp2
    go_ret
    exact ⟨rfl, (tb.step b2).alloc (tb.step b2).size _⟩
  · go_wp2_with fail
    refine (specFold_calls hp).mono ?_
    rintro e w2 ⟨cs2, he, o2, b2⟩
    rw [hF] at he
    subst he
    rw [foldR_yes hF] at o2
    obtain ⟨z0, z1, z2, z3, z4, z5, z6, z7, rfl⟩ := list8 (Rd.len o2.rd)
    obtain ⟨rfl, -⟩ : z0 = .int .i64 p.atoms ∧ True := by
      obtain ⟨_, _, _, _, _, _, hl, _⟩ := o2.rd
      simp only [List.cons.injEq, and_true] at hl
      exact ⟨hl.1, trivial⟩
    have m1 := Rd.one o2.rd
    have sz1 := sto Tryz.prog (m1 _ (List.mem_of_getElem? (i := 1) rfl))
    have sz2 := sto Tryz.prog (m1 _ (List.mem_of_getElem? (i := 2) rfl))
    have sz3 := sto Tryz.prog (m1 _ (List.mem_of_getElem? (i := 3) rfl))
    have sz4 := sto Tryz.prog (m1 _ (List.mem_of_getElem? (i := 4) rfl))
    have sz5 := sto Tryz.prog (m1 _ (List.mem_of_getElem? (i := 5) rfl))
    have sz6 := sto Tryz.prog (m1 _ (List.mem_of_getElem? (i := 6) rfl))
    have sz7 := sto Tryz.prog (m1 _ (List.mem_of_getElem? (i := 7) rfl))
    clear m1
    have CQ := Cells.new w2 [.int .i64 p.atoms, z1, z2, z3, z4, z5, z6, z7] 30
    have tq := (Below.refl w2.heap.size w2).alloc (Nat.le_refl _) (.cells #[.int .i64 p.atoms, z1, z2, z3, z4, z5, z6, z7] 30)
    have hq := Rd.mono tq o2.rd
    have bq := b2.alloc b2.size (.cells #[.int .i64 p.atoms, z1, z2, z3, z4, z5, z6, z7] 30)
    have t2 := (tb.step b2).alloc (tb.step b2).size (.cells #[.int .i64 p.atoms, z1, z2, z3, z4, z5, z6, z7] 30)
    have CX := CX.later bq
    have hp := Rd.mono bq hp
    first | (have gx := Rd.mono (α := List Int) bq gx) | skip
    clear y0 y1 y2 y3 y4 y5 y6 y7
    obtain ⟨y0, y1, y2, y3, y4, y5, y6, y7⟩ := cells8 (CX)
    obtain ⟨zz0, zz1, zz2, zz3, zz4, zz5, zz6, zz7⟩ := cells8 (CQ)
    clear tq o2
    have h' := h'.later bq
    clear bq
    cases hS : setOkB xs p.atoms
    · have hx := (RdL.sl gx)
      obtain ⟨ax, cx, rfl, _, hx⟩ := hx
      go_wp2_with (go_at_call 16; refine (specSetOk_calls _ _ _ _ _ hx.ints).mono ?_; rintro e w3 ⟨he, b3⟩; rw [hS] at he; subst he)
      go_ret
      exact ⟨rfl, t2.step b3⟩
    · have hW : whyB p xs = true := (whyB_B hF).trans hS
      have HA := Lib.hid (answer_unf hW)
      have HU := Lib.hid (unfR_is hW)
      have HI := Lib.hid (fun us => isUnf_in (us := us) hW)
      have hul := unfR_len p xs
      obtain ⟨ax, cx, rfl, _, hx⟩ := gx.sl
      clear hW
      go_wp2_with fail
      refine (specSetOk_calls _ _ _ _ _ hx.ints).mono ?_
      rintro e w3 ⟨he, b3⟩
      rw [hS] at he
      subst he
      have t3 := t2.step b3
      have CX := CX.later b3
      have hp := Rd.mono b3 hp
      first | (have gx := Rd.mono (α := List Int) b3 gx) | skip
      clear y0 y1 y2 y3 y4 y5 y6 y7
      obtain ⟨y0, y1, y2, y3, y4, y5, y6, y7⟩ := cells8 (CX)
      have CQ := CQ.later b3
      have hq := Rd.mono b3 hq
      clear zz0 zz1 zz2 zz3 zz4 zz5 zz6 zz7
      obtain ⟨zz0, zz1, zz2, zz3, zz4, zz5, zz6, zz7⟩ := cells8 (CQ)
      have h' := h'.later b3
      have hx := hx.later b3
      go_wp2_with fail
      refine (implUnfounded_calls hp gx).mono ?_
      rintro e w4 ⟨u4, rfl, o4, b4⟩
      obtain ⟨p4, c4, rfl, _, _⟩ := o4.open
      have t4 := t3.step b4
      have CX := CX.later b4
      have hp := Rd.mono b4 hp
      first | (have gx := Rd.mono (α := List Int) b4 gx) | skip
      clear y0 y1 y2 y3 y4 y5 y6 y7
      obtain ⟨y0, y1, y2, y3, y4, y5, y6, y7⟩ := cells8 (CX)
      have CQ := CQ.later b4
      have hq := Rd.mono b4 hq
      clear zz0 zz1 zz2 zz3 zz4 zz5 zz6 zz7
      obtain ⟨zz0, zz1, zz2, zz3, zz4, zz5, zz6, zz7⟩ := cells8 (CQ)
      have h' := h'.later b4
      have hx := hx.later b4
      go_wp2_with fail
      refine (specUnfounded_calls hp gx).mono ?_
      rintro e w5 ⟨u5, rfl, o5, b5⟩
      obtain ⟨p5, c5, rfl, _, _⟩ := o5.open
      have t5 := t4.step b5
      have CX := CX.later b5
      have hp := Rd.mono b5 hp
      first | (have gx := Rd.mono (α := List Int) b5 gx) | skip
      clear y0 y1 y2 y3 y4 y5 y6 y7
      obtain ⟨y0, y1, y2, y3, y4, y5, y6, y7⟩ := cells8 (CX)
      have CQ := CQ.later b5
      have hq := Rd.mono b5 hq
      clear zz0 zz1 zz2 zz3 zz4 zz5 zz6 zz7
      obtain ⟨zz0, zz1, zz2, zz3, zz4, zz5, zz6, zz7⟩ := cells8 (CQ)
      have h' := h'.later b5
      have hx := hx.later b5
      have o4 := o4.kept b5
      go_wp2_with fail
      refine (same_calls _ _ _ _ _ _ _ o4.ints o5.ints).mono ?_
      rintro e w6 ⟨he, b6⟩
      rw [eqB_self] at he
      subst he
      have t6 := t5.step b6
      have CX := CX.later b6
      have hp := Rd.mono b6 hp
      first | (have gx := Rd.mono (α := List Int) b6 gx) | skip
      clear y0 y1 y2 y3 y4 y5 y6 y7
      obtain ⟨y0, y1, y2, y3, y4, y5, y6, y7⟩ := cells8 (CX)
      have CQ := CQ.later b6
      have hq := Rd.mono b6 hq
      clear zz0 zz1 zz2 zz3 zz4 zz5 zz6 zz7
      obtain ⟨zz0, zz1, zz2, zz3, zz4, zz5, zz6, zz7⟩ := cells8 (CQ)
      have h' := h'.later b6
      have hx := hx.later b6
      have o4 := o4.kept b6
      clear o5
      -- what is unfounded, by a letter
      have HU2 : Hid ((unfR p xs).length ≠ 0 → isUnfB p xs (unfR p xs) = true) := HU
      clear HU
      have key : ∀ (wk : World) (tk : Below w.heap.size w wk) (bk : Below w6.heap.size w6 wk), True := fun _ _ _ => trivial
      clear key
      by_cases hz : (unfR p xs).length = 0
      · have hzi : ¬ (0 < ((unfR p xs).length : Int)) := by omega
        clear hz HU2
        go_wp2_with fail
        refine (DrawSetMeet_calls _ _ _ _ h').mono ?_
        rintro e w8 ⟨p8, c8, p8', c8', ys, ys', rfl, hly, hly', k8, k8', b8⟩
        have t8 := t6.step b8
        have CX := CX.later b8
        have hp := Rd.mono b8 hp
        first | (have gx := Rd.mono (α := List Int) b8 gx) | skip
        clear y0 y1 y2 y3 y4 y5 y6 y7
        obtain ⟨y0, y1, y2, y3, y4, y5, y6, y7⟩ := cells8 (CX)
        have CQ := CQ.later b8
        have hq := Rd.mono b8 hq
        clear zz0 zz1 zz2 zz3 zz4 zz5 zz6 zz7
        obtain ⟨zz0, zz1, zz2, zz3, zz4, zz5, zz6, zz7⟩ := cells8 (CQ)
        have hx := hx.later b8
        have o4 := o4.kept b8
        clear h' k8'
        go_wp2_with fail
        refine (specSetMeet_calls _ _ _ _ _ _ _ hx.ints k8.ints).mono ?_
        rintro e w9 ⟨v9, rfl, o9, b9⟩
        obtain ⟨p9, c9, rfl, _, _⟩ := o9.open
        have t9 := t8.step b9
        have CX := CX.later b9
        have hp := Rd.mono b9 hp
        first | (have gx := Rd.mono (α := List Int) b9 gx) | skip
        clear y0 y1 y2 y3 y4 y5 y6 y7
        obtain ⟨y0, y1, y2, y3, y4, y5, y6, y7⟩ := cells8 (CX)
        have CQ := CQ.later b9
        have hq := Rd.mono b9 hq
        clear zz0 zz1 zz2 zz3 zz4 zz5 zz6 zz7
        obtain ⟨zz0, zz1, zz2, zz3, zz4, zz5, zz6, zz7⟩ := cells8 (CQ)
        have o4 := o4.kept b9
        have hI := HI.out (pickTo (pickM xs ys) 12)
        have hSub : Sub (pickTo (pickM xs ys) 12) xs := fun a h1 h2 ha => by
          rw [hasB_meet ⟨h1, h2⟩, Bool.and_eq_true] at ha
          exact ha.1
        have HP := Lib.hid (fun hu => hI hu hSub)
        clear hI hSub HI k8 hx
        generalize pickTo (pickM xs ys) 12 = part at *
        cases hup : isUnfB p xs part
        · clear HP
          go_wp2_with fail
          refine (implIsUnfounded_calls hp gx o9.own.rd).mono ?_
          rintro e w10 ⟨he, b10⟩
          rw [hup] at he
          subst he
          have t10 := t9.step b10
          have CX := CX.later b10
          have hp := Rd.mono b10 hp
          first | (have gx := Rd.mono (α := List Int) b10 gx) | skip
          clear y0 y1 y2 y3 y4 y5 y6 y7
          obtain ⟨y0, y1, y2, y3, y4, y5, y6, y7⟩ := cells8 (CX)
          have CQ := CQ.later b10
          have hq := Rd.mono b10 hq
          clear zz0 zz1 zz2 zz3 zz4 zz5 zz6 zz7
          obtain ⟨zz0, zz1, zz2, zz3, zz4, zz5, zz6, zz7⟩ := cells8 (CQ)
          have o4 := o4.kept b10
          go_upto_region 16 with fail
          have hp := Rd.mono ((Below.refl w10.heap.size w10).drew) hp
          have hq := Rd.mono ((Below.refl w10.heap.size w10).drew) hq
          have gx := Rd.mono (α := List Int) ((Below.refl w10.heap.size w10).drew) gx
          have CX := CX.drew
          have CQ := CQ.drew
          have td := t10.drew
          clear y0 y1 y2 y3 y4 y5 y6 y7 zz0 zz1 zz2 zz3 zz4 zz5 zz6 zz7
          refine wp_region_held_drew (S := fun W' => (W'.cell? ⟨w1.heap.size, 0, none⟩ = some (.int .i64 p.atoms) ∧ W'.cell? ⟨w1.heap.size, 1, none⟩ = some x1 ∧ W'.cell? ⟨w1.heap.size, 2, none⟩ = some x2 ∧ W'.cell? ⟨w1.heap.size, 3, none⟩ = some x3 ∧ W'.cell? ⟨w1.heap.size, 4, none⟩ = some x4 ∧ W'.cell? ⟨w1.heap.size, 5, none⟩ = some x5 ∧ W'.cell? ⟨w1.heap.size, 6, none⟩ = some x6 ∧ W'.cell? ⟨w1.heap.size, 7, none⟩ = some x7) ∧ (W'.cell? ⟨w2.heap.size, 0, none⟩ = some (.int .i64 p.atoms) ∧ W'.cell? ⟨w2.heap.size, 1, none⟩ = some z1 ∧ W'.cell? ⟨w2.heap.size, 2, none⟩ = some z2 ∧ W'.cell? ⟨w2.heap.size, 3, none⟩ = some z3 ∧ W'.cell? ⟨w2.heap.size, 4, none⟩ = some z4 ∧ W'.cell? ⟨w2.heap.size, 5, none⟩ = some z5 ∧ W'.cell? ⟨w2.heap.size, 6, none⟩ = some z6 ∧ W'.cell? ⟨w2.heap.size, 7, none⟩ = some z7)) (by kernel_rfl) ⟨cells8 CX, cells8 CQ⟩ (fun hHeld => ?_)
          generalize w10.drew = wq at *
          refine takeD (i := 0) (v := .agg #[.int .i64 p.atoms, x1, x2, x3, x4, x5, x6, x7]) (some 75) rfl rfl (by kernel_rfl) (by kernel_rfl) (by kernel_rfl) (fun _ _ _ h => h) (Or.inl ⟨by rfl, fun w' hw' => ?_⟩) hHeld ?_
          · first | (go_simp; done) | (obtain ⟨⟨s0, s1, s2, s3, s4, s5, s6, s7⟩, ⟨r0, r1, r2, r3, r4, r5, r6, r7⟩⟩ := hw'; go_simp; done)
          try simp only [Act.put, List.setIfInBounds_toArray, List.set_cons_zero, List.set_cons_succ]
          refine takeD (i := 1) (v := .slice ax xs.length cx) (some 76) rfl rfl (by kernel_rfl) (by kernel_rfl) (by kernel_rfl) (fun _ _ _ h => h) (Or.inl ⟨by rfl, fun w' hw' => ?_⟩) hHeld ?_
          · first | (go_simp; done) | (obtain ⟨⟨s0, s1, s2, s3, s4, s5, s6, s7⟩, ⟨r0, r1, r2, r3, r4, r5, r6, r7⟩⟩ := hw'; go_simp; done)
          try simp only [Act.put, List.setIfInBounds_toArray, List.set_cons_zero, List.set_cons_succ]
          refine takeD (i := 3) (v := .agg #[.int .i64 p.atoms, z1, z2, z3, z4, z5, z6, z7]) (some 78) rfl rfl (by kernel_rfl) (by kernel_rfl) (by kernel_rfl) (fun _ _ _ h => h) (Or.inl ⟨by rfl, fun w' hw' => ?_⟩) hHeld ?_
          · first | (go_simp; done) | (obtain ⟨⟨s0, s1, s2, s3, s4, s5, s6, s7⟩, ⟨r0, r1, r2, r3, r4, r5, r6, r7⟩⟩ := hw'; go_simp; done)
          try simp only [Act.put, List.setIfInBounds_toArray, List.set_cons_zero, List.set_cons_succ]
          refine takeD (i := 4) (v := .slice ax xs.length cx) (some 79) rfl rfl (by kernel_rfl) (by kernel_rfl) (by kernel_rfl) (fun _ _ _ h => h) (Or.inl ⟨by rfl, fun w' hw' => ?_⟩) hHeld ?_
          · first | (go_simp; done) | (obtain ⟨⟨s0, s1, s2, s3, s4, s5, s6, s7⟩, ⟨r0, r1, r2, r3, r4, r5, r6, r7⟩⟩ := hw'; go_simp; done)
          try simp only [Act.put, List.setIfInBounds_toArray, List.set_cons_zero, List.set_cons_succ]
          refine wpAnyH_ready (rs := [2]) (by kernel_rfl) (by simp) ?_
          refine AllReadyH.cons rfl (fun K hK => ?_) AllReadyH.nil
          go_simp
          refine (implAnswer_calls hp gx).mono ?_
          rintro e w12 ⟨he, b12⟩
          rw [HA.out] at he
          subst he
          refine hK.out _ _ ⟨cells8 (CX.later b12), cells8 (CQ.later b12)⟩ (fun hHeld => ?_)
          clear hK K
          try simp only [Act.put, List.setIfInBounds_toArray, List.set_cons_zero, List.set_cons_succ]
          refine wpAnyH_ready (rs := [5]) (by kernel_rfl) (by simp) ?_
          refine AllReadyH.cons rfl (fun K hK => ?_) AllReadyH.nil
          go_simp
          refine (implModel_calls (Rd.mono b12 hq) (Rd.mono (α := List Int) b12 gx)).mono ?_
          rintro e w13 ⟨rfl, b13⟩
          refine hK.out _ _ ⟨cells8 ((CX.later b12).later b13), cells8 ((CQ.later b12).later b13)⟩ (fun hHeld => ?_)
          clear hK K
          try simp only [Act.put, List.setIfInBounds_toArray, List.set_cons_zero, List.set_cons_succ]
          generalize modelB (foldD p) xs = mb at *
          refine takeD (i := 6) (v := .bool mb) (some 81) rfl rfl (by kernel_rfl) (by kernel_rfl) (by kernel_rfl) (fun _ _ _ h => h) (Or.inl ⟨by rfl, fun w' hw' => ?_⟩) hHeld ?_
          · first | (go_simp; done) | (obtain ⟨⟨s0, s1, s2, s3, s4, s5, s6, s7⟩, ⟨r0, r1, r2, r3, r4, r5, r6, r7⟩⟩ := hw'; go_simp; done)
          try simp only [Act.put, List.setIfInBounds_toArray, List.set_cons_zero, List.set_cons_succ]
          cases mb
          · skip
            refine takeD (i := 7) (v := undef) (some 82) rfl rfl (by kernel_rfl) (by kernel_rfl) (by kernel_rfl) (fun _ _ _ h => h) (Or.inr ⟨by rfl, rfl⟩) hHeld ?_
            try simp only [Act.put, List.setIfInBounds_toArray, List.set_cons_zero, List.set_cons_succ]
            refine takeD (i := 8) (v := undef) (some 83) rfl rfl (by kernel_rfl) (by kernel_rfl) (by kernel_rfl) (fun _ _ _ h => h) (Or.inr ⟨by rfl, rfl⟩) hHeld ?_
            try simp only [Act.put, List.setIfInBounds_toArray, List.set_cons_zero, List.set_cons_succ]
            refine takeD (i := 9) (v := undef) (some 84) rfl rfl (by kernel_rfl) (by kernel_rfl) (by kernel_rfl) (fun _ _ _ h => h) (Or.inr ⟨by rfl, rfl⟩) hHeld ?_
            try simp only [Act.put, List.setIfInBounds_toArray, List.set_cons_zero, List.set_cons_succ]
            refine takeD (i := 10) (v := .bool false) (some 85) rfl rfl (by kernel_rfl) (by kernel_rfl) (by kernel_rfl) (fun _ _ _ h => h) (Or.inl ⟨by rfl, fun w' hw' => ?_⟩) hHeld ?_
            · first | (go_simp; done) | (obtain ⟨⟨s0, s1, s2, s3, s4, s5, s6, s7⟩, ⟨r0, r1, r2, r3, r4, r5, r6, r7⟩⟩ := hw'; go_simp; done)
            try simp only [Act.put, List.setIfInBounds_toArray, List.set_cons_zero, List.set_cons_succ]
            refine takeD (i := 11) (v := .bool true) (some 86) rfl rfl (by kernel_rfl) (by kernel_rfl) (by kernel_rfl) (fun _ _ _ h => h) (Or.inl ⟨by rfl, fun w' hw' => ?_⟩) hHeld ?_
            · first | (go_simp; done) | (obtain ⟨⟨s0, s1, s2, s3, s4, s5, s6, s7⟩, ⟨r0, r1, r2, r3, r4, r5, r6, r7⟩⟩ := hw'; go_simp; done)
            try simp only [Act.put, List.setIfInBounds_toArray, List.set_cons_zero, List.set_cons_succ]
            refine takeD (i := 12) (v := .bool true) (some 4) rfl rfl (by kernel_rfl) (by kernel_rfl) (by kernel_rfl) (fun _ _ _ h => h) (Or.inl ⟨by rfl, fun w' hw' => ?_⟩) hHeld ?_
            · first | (go_simp; done) | (obtain ⟨⟨s0, s1, s2, s3, s4, s5, s6, s7⟩, ⟨r0, r1, r2, r3, r4, r5, r6, r7⟩⟩ := hw'; go_simp; done)
            try simp only [Act.put, List.setIfInBounds_toArray, List.set_cons_zero, List.set_cons_succ]
            refine wpAnyH_done (by kernel_rfl) ?_ _
            go_wp2
            go_ret
            exact ⟨rfl, (td.step b12).step b13⟩
          · skip
            refine takeD (i := 7) (v := .slice p4 (unfR p xs).length c4) (some 82) rfl rfl (by kernel_rfl) (by kernel_rfl) (by kernel_rfl) (fun _ _ _ h => h) (Or.inl ⟨by rfl, fun w' hw' => ?_⟩) hHeld ?_
            · first | (go_simp; done) | (obtain ⟨⟨s0, s1, s2, s3, s4, s5, s6, s7⟩, ⟨r0, r1, r2, r3, r4, r5, r6, r7⟩⟩ := hw'; go_simp; done)
            try simp only [Act.put, List.setIfInBounds_toArray, List.set_cons_zero, List.set_cons_succ]
            refine takeD (i := 8) (v := .int .i64 ((unfR p xs).length : Int)) (some 83) rfl rfl (by kernel_rfl) (by kernel_rfl) (by kernel_rfl) (fun _ _ _ h => h) (Or.inl ⟨by rfl, fun w' hw' => ?_⟩) hHeld ?_
            · first | (go_simp; done) | (obtain ⟨⟨s0, s1, s2, s3, s4, s5, s6, s7⟩, ⟨r0, r1, r2, r3, r4, r5, r6, r7⟩⟩ := hw'; go_simp; done)
            try simp only [Act.put, List.setIfInBounds_toArray, List.set_cons_zero, List.set_cons_succ]
            refine takeD (i := 9) (v := .bool (((unfR p xs).length : Int) == 0)) (some 84) rfl rfl (by kernel_rfl) (by kernel_rfl) (by kernel_rfl) (fun _ _ _ h => h) (Or.inl ⟨by rfl, fun w' hw' => ?_⟩) hHeld ?_
            · first | (go_simp; done) | (obtain ⟨⟨s0, s1, s2, s3, s4, s5, s6, s7⟩, ⟨r0, r1, r2, r3, r4, r5, r6, r7⟩⟩ := hw'; go_simp; done)
            try simp only [Act.put, List.setIfInBounds_toArray, List.set_cons_zero, List.set_cons_succ]
            refine takeD (i := 10) (v := .bool (((unfR p xs).length : Int) == 0)) (some 85) rfl rfl (by kernel_rfl) (by kernel_rfl) (by kernel_rfl) (fun _ _ _ h => h) (Or.inl ⟨by rfl, fun w' hw' => ?_⟩) hHeld ?_
            · first | (go_simp; done) | (obtain ⟨⟨s0, s1, s2, s3, s4, s5, s6, s7⟩, ⟨r0, r1, r2, r3, r4, r5, r6, r7⟩⟩ := hw'; go_simp; done)
            try simp only [Act.put, List.setIfInBounds_toArray, List.set_cons_zero, List.set_cons_succ]
            refine takeD (i := 11) (v := .bool true) (some 86) rfl rfl (by kernel_rfl) (by kernel_rfl) (by kernel_rfl) (fun _ _ _ h => h) (Or.inl ⟨by rfl, fun w' hw' => ?_⟩) hHeld ?_
            · first | (go_simp; done) | (obtain ⟨⟨s0, s1, s2, s3, s4, s5, s6, s7⟩, ⟨r0, r1, r2, r3, r4, r5, r6, r7⟩⟩ := hw'; go_simp; done)
            try simp only [Act.put, List.setIfInBounds_toArray, List.set_cons_zero, List.set_cons_succ]
            refine takeD (i := 12) (v := .bool true) (some 4) rfl rfl (by kernel_rfl) (by kernel_rfl) (by kernel_rfl) (fun _ _ _ h => h) (Or.inl ⟨by rfl, fun w' hw' => ?_⟩) hHeld ?_
            · first | (go_simp; done) | (obtain ⟨⟨s0, s1, s2, s3, s4, s5, s6, s7⟩, ⟨r0, r1, r2, r3, r4, r5, r6, r7⟩⟩ := hw'; go_simp; done)
            try simp only [Act.put, List.setIfInBounds_toArray, List.set_cons_zero, List.set_cons_succ]
            refine wpAnyH_done (by kernel_rfl) ?_ _
            go_wp2
            go_ret
            exact ⟨rfl, (td.step b12).step b13⟩
        · have hin := HP.out hup
          clear HP
          go_wp2_with fail
          refine (implIsUnfounded_calls hp gx o9.own.rd).mono ?_
          rintro e w10 ⟨he, b10⟩
          rw [hup] at he
          subst he
          have t10 := t9.step b10
          have CX := CX.later b10
          have hp := Rd.mono b10 hp
          first | (have gx := Rd.mono (α := List Int) b10 gx) | skip
          clear y0 y1 y2 y3 y4 y5 y6 y7
          obtain ⟨y0, y1, y2, y3, y4, y5, y6, y7⟩ := cells8 (CX)
          have CQ := CQ.later b10
          have hq := Rd.mono b10 hq
          clear zz0 zz1 zz2 zz3 zz4 zz5 zz6 zz7
          obtain ⟨zz0, zz1, zz2, zz3, zz4, zz5, zz6, zz7⟩ := cells8 (CQ)
          have o4 := o4.kept b10
          have o9 := o9.kept b10
          go_wp2_with fail
          refine (specSetIn_calls _ _ _ _ _ _ _ o9.ints o4.ints).mono ?_
          rintro e w11 ⟨he, b11⟩
          rw [hin] at he
          subst he
          have t11 := t10.step b11
          have CX := CX.later b11
          have hp := Rd.mono b11 hp
          first | (have gx := Rd.mono (α := List Int) b11 gx) | skip
          clear y0 y1 y2 y3 y4 y5 y6 y7
          obtain ⟨y0, y1, y2, y3, y4, y5, y6, y7⟩ := cells8 (CX)
          have CQ := CQ.later b11
          have hq := Rd.mono b11 hq
          clear zz0 zz1 zz2 zz3 zz4 zz5 zz6 zz7
          obtain ⟨zz0, zz1, zz2, zz3, zz4, zz5, zz6, zz7⟩ := cells8 (CQ)
          have o4 := o4.kept b11
          go_upto_region 16 with fail
          have hp := Rd.mono ((Below.refl w11.heap.size w11).drew) hp
          have hq := Rd.mono ((Below.refl w11.heap.size w11).drew) hq
          have gx := Rd.mono (α := List Int) ((Below.refl w11.heap.size w11).drew) gx
          have CX := CX.drew
          have CQ := CQ.drew
          have td := t11.drew
          clear y0 y1 y2 y3 y4 y5 y6 y7 zz0 zz1 zz2 zz3 zz4 zz5 zz6 zz7
          refine wp_region_held_drew (S := fun W' => (W'.cell? ⟨w1.heap.size, 0, none⟩ = some (.int .i64 p.atoms) ∧ W'.cell? ⟨w1.heap.size, 1, none⟩ = some x1 ∧ W'.cell? ⟨w1.heap.size, 2, none⟩ = some x2 ∧ W'.cell? ⟨w1.heap.size, 3, none⟩ = some x3 ∧ W'.cell? ⟨w1.heap.size, 4, none⟩ = some x4 ∧ W'.cell? ⟨w1.heap.size, 5, none⟩ = some x5 ∧ W'.cell? ⟨w1.heap.size, 6, none⟩ = some x6 ∧ W'.cell? ⟨w1.heap.size, 7, none⟩ = some x7) ∧ (W'.cell? ⟨w2.heap.size, 0, none⟩ = some (.int .i64 p.atoms) ∧ W'.cell? ⟨w2.heap.size, 1, none⟩ = some z1 ∧ W'.cell? ⟨w2.heap.size, 2, none⟩ = some z2 ∧ W'.cell? ⟨w2.heap.size, 3, none⟩ = some z3 ∧ W'.cell? ⟨w2.heap.size, 4, none⟩ = some z4 ∧ W'.cell? ⟨w2.heap.size, 5, none⟩ = some z5 ∧ W'.cell? ⟨w2.heap.size, 6, none⟩ = some z6 ∧ W'.cell? ⟨w2.heap.size, 7, none⟩ = some z7)) (by kernel_rfl) ⟨cells8 CX, cells8 CQ⟩ (fun hHeld => ?_)
          generalize w11.drew = wq at *
          refine takeD (i := 0) (v := .agg #[.int .i64 p.atoms, x1, x2, x3, x4, x5, x6, x7]) (some 75) rfl rfl (by kernel_rfl) (by kernel_rfl) (by kernel_rfl) (fun _ _ _ h => h) (Or.inl ⟨by rfl, fun w' hw' => ?_⟩) hHeld ?_
          · first | (go_simp; done) | (obtain ⟨⟨s0, s1, s2, s3, s4, s5, s6, s7⟩, ⟨r0, r1, r2, r3, r4, r5, r6, r7⟩⟩ := hw'; go_simp; done)
          try simp only [Act.put, List.setIfInBounds_toArray, List.set_cons_zero, List.set_cons_succ]
          refine takeD (i := 1) (v := .slice ax xs.length cx) (some 76) rfl rfl (by kernel_rfl) (by kernel_rfl) (by kernel_rfl) (fun _ _ _ h => h) (Or.inl ⟨by rfl, fun w' hw' => ?_⟩) hHeld ?_
          · first | (go_simp; done) | (obtain ⟨⟨s0, s1, s2, s3, s4, s5, s6, s7⟩, ⟨r0, r1, r2, r3, r4, r5, r6, r7⟩⟩ := hw'; go_simp; done)
          try simp only [Act.put, List.setIfInBounds_toArray, List.set_cons_zero, List.set_cons_succ]
          refine takeD (i := 3) (v := .agg #[.int .i64 p.atoms, z1, z2, z3, z4, z5, z6, z7]) (some 78) rfl rfl (by kernel_rfl) (by kernel_rfl) (by kernel_rfl) (fun _ _ _ h => h) (Or.inl ⟨by rfl, fun w' hw' => ?_⟩) hHeld ?_
          · first | (go_simp; done) | (obtain ⟨⟨s0, s1, s2, s3, s4, s5, s6, s7⟩, ⟨r0, r1, r2, r3, r4, r5, r6, r7⟩⟩ := hw'; go_simp; done)
          try simp only [Act.put, List.setIfInBounds_toArray, List.set_cons_zero, List.set_cons_succ]
          refine takeD (i := 4) (v := .slice ax xs.length cx) (some 79) rfl rfl (by kernel_rfl) (by kernel_rfl) (by kernel_rfl) (fun _ _ _ h => h) (Or.inl ⟨by rfl, fun w' hw' => ?_⟩) hHeld ?_
          · first | (go_simp; done) | (obtain ⟨⟨s0, s1, s2, s3, s4, s5, s6, s7⟩, ⟨r0, r1, r2, r3, r4, r5, r6, r7⟩⟩ := hw'; go_simp; done)
          try simp only [Act.put, List.setIfInBounds_toArray, List.set_cons_zero, List.set_cons_succ]
          refine wpAnyH_ready (rs := [2]) (by kernel_rfl) (by simp) ?_
          refine AllReadyH.cons rfl (fun K hK => ?_) AllReadyH.nil
          go_simp
          refine (implAnswer_calls hp gx).mono ?_
          rintro e w12 ⟨he, b12⟩
          rw [HA.out] at he
          subst he
          refine hK.out _ _ ⟨cells8 (CX.later b12), cells8 (CQ.later b12)⟩ (fun hHeld => ?_)
          clear hK K
          try simp only [Act.put, List.setIfInBounds_toArray, List.set_cons_zero, List.set_cons_succ]
          refine wpAnyH_ready (rs := [5]) (by kernel_rfl) (by simp) ?_
          refine AllReadyH.cons rfl (fun K hK => ?_) AllReadyH.nil
          go_simp
          refine (implModel_calls (Rd.mono b12 hq) (Rd.mono (α := List Int) b12 gx)).mono ?_
          rintro e w13 ⟨rfl, b13⟩
          refine hK.out _ _ ⟨cells8 ((CX.later b12).later b13), cells8 ((CQ.later b12).later b13)⟩ (fun hHeld => ?_)
          clear hK K
          try simp only [Act.put, List.setIfInBounds_toArray, List.set_cons_zero, List.set_cons_succ]
          generalize modelB (foldD p) xs = mb at *
          refine takeD (i := 6) (v := .bool mb) (some 81) rfl rfl (by kernel_rfl) (by kernel_rfl) (by kernel_rfl) (fun _ _ _ h => h) (Or.inl ⟨by rfl, fun w' hw' => ?_⟩) hHeld ?_
          · first | (go_simp; done) | (obtain ⟨⟨s0, s1, s2, s3, s4, s5, s6, s7⟩, ⟨r0, r1, r2, r3, r4, r5, r6, r7⟩⟩ := hw'; go_simp; done)
          try simp only [Act.put, List.setIfInBounds_toArray, List.set_cons_zero, List.set_cons_succ]
          cases mb
          · skip
            refine takeD (i := 7) (v := undef) (some 82) rfl rfl (by kernel_rfl) (by kernel_rfl) (by kernel_rfl) (fun _ _ _ h => h) (Or.inr ⟨by rfl, rfl⟩) hHeld ?_
            try simp only [Act.put, List.setIfInBounds_toArray, List.set_cons_zero, List.set_cons_succ]
            refine takeD (i := 8) (v := undef) (some 83) rfl rfl (by kernel_rfl) (by kernel_rfl) (by kernel_rfl) (fun _ _ _ h => h) (Or.inr ⟨by rfl, rfl⟩) hHeld ?_
            try simp only [Act.put, List.setIfInBounds_toArray, List.set_cons_zero, List.set_cons_succ]
            refine takeD (i := 9) (v := undef) (some 84) rfl rfl (by kernel_rfl) (by kernel_rfl) (by kernel_rfl) (fun _ _ _ h => h) (Or.inr ⟨by rfl, rfl⟩) hHeld ?_
            try simp only [Act.put, List.setIfInBounds_toArray, List.set_cons_zero, List.set_cons_succ]
            refine takeD (i := 10) (v := .bool false) (some 85) rfl rfl (by kernel_rfl) (by kernel_rfl) (by kernel_rfl) (fun _ _ _ h => h) (Or.inl ⟨by rfl, fun w' hw' => ?_⟩) hHeld ?_
            · first | (go_simp; done) | (obtain ⟨⟨s0, s1, s2, s3, s4, s5, s6, s7⟩, ⟨r0, r1, r2, r3, r4, r5, r6, r7⟩⟩ := hw'; go_simp; done)
            try simp only [Act.put, List.setIfInBounds_toArray, List.set_cons_zero, List.set_cons_succ]
            refine takeD (i := 11) (v := .bool true) (some 86) rfl rfl (by kernel_rfl) (by kernel_rfl) (by kernel_rfl) (fun _ _ _ h => h) (Or.inl ⟨by rfl, fun w' hw' => ?_⟩) hHeld ?_
            · first | (go_simp; done) | (obtain ⟨⟨s0, s1, s2, s3, s4, s5, s6, s7⟩, ⟨r0, r1, r2, r3, r4, r5, r6, r7⟩⟩ := hw'; go_simp; done)
            try simp only [Act.put, List.setIfInBounds_toArray, List.set_cons_zero, List.set_cons_succ]
            refine takeD (i := 12) (v := .bool true) (some 4) rfl rfl (by kernel_rfl) (by kernel_rfl) (by kernel_rfl) (fun _ _ _ h => h) (Or.inl ⟨by rfl, fun w' hw' => ?_⟩) hHeld ?_
            · first | (go_simp; done) | (obtain ⟨⟨s0, s1, s2, s3, s4, s5, s6, s7⟩, ⟨r0, r1, r2, r3, r4, r5, r6, r7⟩⟩ := hw'; go_simp; done)
            try simp only [Act.put, List.setIfInBounds_toArray, List.set_cons_zero, List.set_cons_succ]
            refine wpAnyH_done (by kernel_rfl) ?_ _
            go_wp2
            go_ret
            exact ⟨rfl, (td.step b12).step b13⟩
          · skip
            refine takeD (i := 7) (v := .slice p4 (unfR p xs).length c4) (some 82) rfl rfl (by kernel_rfl) (by kernel_rfl) (by kernel_rfl) (fun _ _ _ h => h) (Or.inl ⟨by rfl, fun w' hw' => ?_⟩) hHeld ?_
            · first | (go_simp; done) | (obtain ⟨⟨s0, s1, s2, s3, s4, s5, s6, s7⟩, ⟨r0, r1, r2, r3, r4, r5, r6, r7⟩⟩ := hw'; go_simp; done)
            try simp only [Act.put, List.setIfInBounds_toArray, List.set_cons_zero, List.set_cons_succ]
            refine takeD (i := 8) (v := .int .i64 ((unfR p xs).length : Int)) (some 83) rfl rfl (by kernel_rfl) (by kernel_rfl) (by kernel_rfl) (fun _ _ _ h => h) (Or.inl ⟨by rfl, fun w' hw' => ?_⟩) hHeld ?_
            · first | (go_simp; done) | (obtain ⟨⟨s0, s1, s2, s3, s4, s5, s6, s7⟩, ⟨r0, r1, r2, r3, r4, r5, r6, r7⟩⟩ := hw'; go_simp; done)
            try simp only [Act.put, List.setIfInBounds_toArray, List.set_cons_zero, List.set_cons_succ]
            refine takeD (i := 9) (v := .bool (((unfR p xs).length : Int) == 0)) (some 84) rfl rfl (by kernel_rfl) (by kernel_rfl) (by kernel_rfl) (fun _ _ _ h => h) (Or.inl ⟨by rfl, fun w' hw' => ?_⟩) hHeld ?_
            · first | (go_simp; done) | (obtain ⟨⟨s0, s1, s2, s3, s4, s5, s6, s7⟩, ⟨r0, r1, r2, r3, r4, r5, r6, r7⟩⟩ := hw'; go_simp; done)
            try simp only [Act.put, List.setIfInBounds_toArray, List.set_cons_zero, List.set_cons_succ]
            refine takeD (i := 10) (v := .bool (((unfR p xs).length : Int) == 0)) (some 85) rfl rfl (by kernel_rfl) (by kernel_rfl) (by kernel_rfl) (fun _ _ _ h => h) (Or.inl ⟨by rfl, fun w' hw' => ?_⟩) hHeld ?_
            · first | (go_simp; done) | (obtain ⟨⟨s0, s1, s2, s3, s4, s5, s6, s7⟩, ⟨r0, r1, r2, r3, r4, r5, r6, r7⟩⟩ := hw'; go_simp; done)
            try simp only [Act.put, List.setIfInBounds_toArray, List.set_cons_zero, List.set_cons_succ]
            refine takeD (i := 11) (v := .bool true) (some 86) rfl rfl (by kernel_rfl) (by kernel_rfl) (by kernel_rfl) (fun _ _ _ h => h) (Or.inl ⟨by rfl, fun w' hw' => ?_⟩) hHeld ?_
            · first | (go_simp; done) | (obtain ⟨⟨s0, s1, s2, s3, s4, s5, s6, s7⟩, ⟨r0, r1, r2, r3, r4, r5, r6, r7⟩⟩ := hw'; go_simp; done)
            try simp only [Act.put, List.setIfInBounds_toArray, List.set_cons_zero, List.set_cons_succ]
            refine takeD (i := 12) (v := .bool true) (some 4) rfl rfl (by kernel_rfl) (by kernel_rfl) (by kernel_rfl) (fun _ _ _ h => h) (Or.inl ⟨by rfl, fun w' hw' => ?_⟩) hHeld ?_
            · first | (go_simp; done) | (obtain ⟨⟨s0, s1, s2, s3, s4, s5, s6, s7⟩, ⟨r0, r1, r2, r3, r4, r5, r6, r7⟩⟩ := hw'; go_simp; done)
            try simp only [Act.put, List.setIfInBounds_toArray, List.set_cons_zero, List.set_cons_succ]
            refine wpAnyH_done (by kernel_rfl) ?_ _
            go_wp2
            go_ret
            exact ⟨rfl, (td.step b12).step b13⟩
      · have hzi : 0 < ((unfR p xs).length : Int) := by omega
        have hu := HU2.out hz
        clear hz HU2
        go_wp2_with fail
        refine (implIsUnfounded_calls hp gx o4.own.rd).mono ?_
        rintro e w7 ⟨he, b7⟩
        rw [hu] at he
        subst he
        have t7 := t6.step b7
        have CX := CX.later b7
        have hp := Rd.mono b7 hp
        first | (have gx := Rd.mono (α := List Int) b7 gx) | skip
        clear y0 y1 y2 y3 y4 y5 y6 y7
        obtain ⟨y0, y1, y2, y3, y4, y5, y6, y7⟩ := cells8 (CX)
        have CQ := CQ.later b7
        have hq := Rd.mono b7 hq
        clear zz0 zz1 zz2 zz3 zz4 zz5 zz6 zz7
        obtain ⟨zz0, zz1, zz2, zz3, zz4, zz5, zz6, zz7⟩ := cells8 (CQ)
        have h' := h'.later b7
        have hx := hx.later b7
        have o4 := o4.kept b7
        go_wp2_with fail
        refine (DrawSetMeet_calls _ _ _ _ h').mono ?_
        rintro e w8 ⟨p8, c8, p8', c8', ys, ys', rfl, hly, hly', k8, k8', b8⟩
        have t8 := t7.step b8
        have CX := CX.later b8
        have hp := Rd.mono b8 hp
        first | (have gx := Rd.mono (α := List Int) b8 gx) | skip
        clear y0 y1 y2 y3 y4 y5 y6 y7
        obtain ⟨y0, y1, y2, y3, y4, y5, y6, y7⟩ := cells8 (CX)
        have CQ := CQ.later b8
        have hq := Rd.mono b8 hq
        clear zz0 zz1 zz2 zz3 zz4 zz5 zz6 zz7
        obtain ⟨zz0, zz1, zz2, zz3, zz4, zz5, zz6, zz7⟩ := cells8 (CQ)
        have hx := hx.later b8
        have o4 := o4.kept b8
        clear h' k8'
        go_wp2_with fail
        refine (specSetMeet_calls _ _ _ _ _ _ _ hx.ints k8.ints).mono ?_
        rintro e w9 ⟨v9, rfl, o9, b9⟩
        obtain ⟨p9, c9, rfl, _, _⟩ := o9.open
        have t9 := t8.step b9
        have CX := CX.later b9
        have hp := Rd.mono b9 hp
        first | (have gx := Rd.mono (α := List Int) b9 gx) | skip
        clear y0 y1 y2 y3 y4 y5 y6 y7
        obtain ⟨y0, y1, y2, y3, y4, y5, y6, y7⟩ := cells8 (CX)
        have CQ := CQ.later b9
        have hq := Rd.mono b9 hq
        clear zz0 zz1 zz2 zz3 zz4 zz5 zz6 zz7
        obtain ⟨zz0, zz1, zz2, zz3, zz4, zz5, zz6, zz7⟩ := cells8 (CQ)
        have o4 := o4.kept b9
        have hI := HI.out (pickTo (pickM xs ys) 12)
        have hSub : Sub (pickTo (pickM xs ys) 12) xs := fun a h1 h2 ha => by
          rw [hasB_meet ⟨h1, h2⟩, Bool.and_eq_true] at ha
          exact ha.1
        have HP := Lib.hid (fun hu => hI hu hSub)
        clear hI hSub HI k8 hx
        generalize pickTo (pickM xs ys) 12 = part at *
        cases hup : isUnfB p xs part
        · clear HP
          go_wp2_with fail
          refine (implIsUnfounded_calls hp gx o9.own.rd).mono ?_
          rintro e w10 ⟨he, b10⟩
          rw [hup] at he
          subst he
          have t10 := t9.step b10
          have CX := CX.later b10
          have hp := Rd.mono b10 hp
          first | (have gx := Rd.mono (α := List Int) b10 gx) | skip
          clear y0 y1 y2 y3 y4 y5 y6 y7
          obtain ⟨y0, y1, y2, y3, y4, y5, y6, y7⟩ := cells8 (CX)
          have CQ := CQ.later b10
          have hq := Rd.mono b10 hq
          clear zz0 zz1 zz2 zz3 zz4 zz5 zz6 zz7
          obtain ⟨zz0, zz1, zz2, zz3, zz4, zz5, zz6, zz7⟩ := cells8 (CQ)
          have o4 := o4.kept b10
          go_upto_region 16 with fail
          have hp := Rd.mono ((Below.refl w10.heap.size w10).drew) hp
          have hq := Rd.mono ((Below.refl w10.heap.size w10).drew) hq
          have gx := Rd.mono (α := List Int) ((Below.refl w10.heap.size w10).drew) gx
          have CX := CX.drew
          have CQ := CQ.drew
          have td := t10.drew
          clear y0 y1 y2 y3 y4 y5 y6 y7 zz0 zz1 zz2 zz3 zz4 zz5 zz6 zz7
          refine wp_region_held_drew (S := fun W' => (W'.cell? ⟨w1.heap.size, 0, none⟩ = some (.int .i64 p.atoms) ∧ W'.cell? ⟨w1.heap.size, 1, none⟩ = some x1 ∧ W'.cell? ⟨w1.heap.size, 2, none⟩ = some x2 ∧ W'.cell? ⟨w1.heap.size, 3, none⟩ = some x3 ∧ W'.cell? ⟨w1.heap.size, 4, none⟩ = some x4 ∧ W'.cell? ⟨w1.heap.size, 5, none⟩ = some x5 ∧ W'.cell? ⟨w1.heap.size, 6, none⟩ = some x6 ∧ W'.cell? ⟨w1.heap.size, 7, none⟩ = some x7) ∧ (W'.cell? ⟨w2.heap.size, 0, none⟩ = some (.int .i64 p.atoms) ∧ W'.cell? ⟨w2.heap.size, 1, none⟩ = some z1 ∧ W'.cell? ⟨w2.heap.size, 2, none⟩ = some z2 ∧ W'.cell? ⟨w2.heap.size, 3, none⟩ = some z3 ∧ W'.cell? ⟨w2.heap.size, 4, none⟩ = some z4 ∧ W'.cell? ⟨w2.heap.size, 5, none⟩ = some z5 ∧ W'.cell? ⟨w2.heap.size, 6, none⟩ = some z6 ∧ W'.cell? ⟨w2.heap.size, 7, none⟩ = some z7)) (by kernel_rfl) ⟨cells8 CX, cells8 CQ⟩ (fun hHeld => ?_)
          generalize w10.drew = wq at *
          refine takeD (i := 0) (v := .agg #[.int .i64 p.atoms, x1, x2, x3, x4, x5, x6, x7]) (some 75) rfl rfl (by kernel_rfl) (by kernel_rfl) (by kernel_rfl) (fun _ _ _ h => h) (Or.inl ⟨by rfl, fun w' hw' => ?_⟩) hHeld ?_
          · first | (go_simp; done) | (obtain ⟨⟨s0, s1, s2, s3, s4, s5, s6, s7⟩, ⟨r0, r1, r2, r3, r4, r5, r6, r7⟩⟩ := hw'; go_simp; done)
          try simp only [Act.put, List.setIfInBounds_toArray, List.set_cons_zero, List.set_cons_succ]
          refine takeD (i := 1) (v := .slice ax xs.length cx) (some 76) rfl rfl (by kernel_rfl) (by kernel_rfl) (by kernel_rfl) (fun _ _ _ h => h) (Or.inl ⟨by rfl, fun w' hw' => ?_⟩) hHeld ?_
          · first | (go_simp; done) | (obtain ⟨⟨s0, s1, s2, s3, s4, s5, s6, s7⟩, ⟨r0, r1, r2, r3, r4, r5, r6, r7⟩⟩ := hw'; go_simp; done)
          try simp only [Act.put, List.setIfInBounds_toArray, List.set_cons_zero, List.set_cons_succ]
          refine takeD (i := 3) (v := .agg #[.int .i64 p.atoms, z1, z2, z3, z4, z5, z6, z7]) (some 78) rfl rfl (by kernel_rfl) (by kernel_rfl) (by kernel_rfl) (fun _ _ _ h => h) (Or.inl ⟨by rfl, fun w' hw' => ?_⟩) hHeld ?_
          · first | (go_simp; done) | (obtain ⟨⟨s0, s1, s2, s3, s4, s5, s6, s7⟩, ⟨r0, r1, r2, r3, r4, r5, r6, r7⟩⟩ := hw'; go_simp; done)
          try simp only [Act.put, List.setIfInBounds_toArray, List.set_cons_zero, List.set_cons_succ]
          refine takeD (i := 4) (v := .slice ax xs.length cx) (some 79) rfl rfl (by kernel_rfl) (by kernel_rfl) (by kernel_rfl) (fun _ _ _ h => h) (Or.inl ⟨by rfl, fun w' hw' => ?_⟩) hHeld ?_
          · first | (go_simp; done) | (obtain ⟨⟨s0, s1, s2, s3, s4, s5, s6, s7⟩, ⟨r0, r1, r2, r3, r4, r5, r6, r7⟩⟩ := hw'; go_simp; done)
          try simp only [Act.put, List.setIfInBounds_toArray, List.set_cons_zero, List.set_cons_succ]
          refine wpAnyH_ready (rs := [2]) (by kernel_rfl) (by simp) ?_
          refine AllReadyH.cons rfl (fun K hK => ?_) AllReadyH.nil
          go_simp
          refine (implAnswer_calls hp gx).mono ?_
          rintro e w12 ⟨he, b12⟩
          rw [HA.out] at he
          subst he
          refine hK.out _ _ ⟨cells8 (CX.later b12), cells8 (CQ.later b12)⟩ (fun hHeld => ?_)
          clear hK K
          try simp only [Act.put, List.setIfInBounds_toArray, List.set_cons_zero, List.set_cons_succ]
          refine wpAnyH_ready (rs := [5]) (by kernel_rfl) (by simp) ?_
          refine AllReadyH.cons rfl (fun K hK => ?_) AllReadyH.nil
          go_simp
          refine (implModel_calls (Rd.mono b12 hq) (Rd.mono (α := List Int) b12 gx)).mono ?_
          rintro e w13 ⟨rfl, b13⟩
          refine hK.out _ _ ⟨cells8 ((CX.later b12).later b13), cells8 ((CQ.later b12).later b13)⟩ (fun hHeld => ?_)
          clear hK K
          try simp only [Act.put, List.setIfInBounds_toArray, List.set_cons_zero, List.set_cons_succ]
          generalize modelB (foldD p) xs = mb at *
          refine takeD (i := 6) (v := .bool mb) (some 81) rfl rfl (by kernel_rfl) (by kernel_rfl) (by kernel_rfl) (fun _ _ _ h => h) (Or.inl ⟨by rfl, fun w' hw' => ?_⟩) hHeld ?_
          · first | (go_simp; done) | (obtain ⟨⟨s0, s1, s2, s3, s4, s5, s6, s7⟩, ⟨r0, r1, r2, r3, r4, r5, r6, r7⟩⟩ := hw'; go_simp; done)
          try simp only [Act.put, List.setIfInBounds_toArray, List.set_cons_zero, List.set_cons_succ]
          cases mb
          · skip
            refine takeD (i := 7) (v := undef) (some 82) rfl rfl (by kernel_rfl) (by kernel_rfl) (by kernel_rfl) (fun _ _ _ h => h) (Or.inr ⟨by rfl, rfl⟩) hHeld ?_
            try simp only [Act.put, List.setIfInBounds_toArray, List.set_cons_zero, List.set_cons_succ]
            refine takeD (i := 8) (v := undef) (some 83) rfl rfl (by kernel_rfl) (by kernel_rfl) (by kernel_rfl) (fun _ _ _ h => h) (Or.inr ⟨by rfl, rfl⟩) hHeld ?_
            try simp only [Act.put, List.setIfInBounds_toArray, List.set_cons_zero, List.set_cons_succ]
            refine takeD (i := 9) (v := undef) (some 84) rfl rfl (by kernel_rfl) (by kernel_rfl) (by kernel_rfl) (fun _ _ _ h => h) (Or.inr ⟨by rfl, rfl⟩) hHeld ?_
            try simp only [Act.put, List.setIfInBounds_toArray, List.set_cons_zero, List.set_cons_succ]
            refine takeD (i := 10) (v := .bool false) (some 85) rfl rfl (by kernel_rfl) (by kernel_rfl) (by kernel_rfl) (fun _ _ _ h => h) (Or.inl ⟨by rfl, fun w' hw' => ?_⟩) hHeld ?_
            · first | (go_simp; done) | (obtain ⟨⟨s0, s1, s2, s3, s4, s5, s6, s7⟩, ⟨r0, r1, r2, r3, r4, r5, r6, r7⟩⟩ := hw'; go_simp; done)
            try simp only [Act.put, List.setIfInBounds_toArray, List.set_cons_zero, List.set_cons_succ]
            refine takeD (i := 11) (v := .bool true) (some 86) rfl rfl (by kernel_rfl) (by kernel_rfl) (by kernel_rfl) (fun _ _ _ h => h) (Or.inl ⟨by rfl, fun w' hw' => ?_⟩) hHeld ?_
            · first | (go_simp; done) | (obtain ⟨⟨s0, s1, s2, s3, s4, s5, s6, s7⟩, ⟨r0, r1, r2, r3, r4, r5, r6, r7⟩⟩ := hw'; go_simp; done)
            try simp only [Act.put, List.setIfInBounds_toArray, List.set_cons_zero, List.set_cons_succ]
            refine takeD (i := 12) (v := .bool true) (some 4) rfl rfl (by kernel_rfl) (by kernel_rfl) (by kernel_rfl) (fun _ _ _ h => h) (Or.inl ⟨by rfl, fun w' hw' => ?_⟩) hHeld ?_
            · first | (go_simp; done) | (obtain ⟨⟨s0, s1, s2, s3, s4, s5, s6, s7⟩, ⟨r0, r1, r2, r3, r4, r5, r6, r7⟩⟩ := hw'; go_simp; done)
            try simp only [Act.put, List.setIfInBounds_toArray, List.set_cons_zero, List.set_cons_succ]
            refine wpAnyH_done (by kernel_rfl) ?_ _
            go_wp2
            go_ret
            exact ⟨rfl, (td.step b12).step b13⟩
          · skip
            refine takeD (i := 7) (v := .slice p4 (unfR p xs).length c4) (some 82) rfl rfl (by kernel_rfl) (by kernel_rfl) (by kernel_rfl) (fun _ _ _ h => h) (Or.inl ⟨by rfl, fun w' hw' => ?_⟩) hHeld ?_
            · first | (go_simp; done) | (obtain ⟨⟨s0, s1, s2, s3, s4, s5, s6, s7⟩, ⟨r0, r1, r2, r3, r4, r5, r6, r7⟩⟩ := hw'; go_simp; done)
            try simp only [Act.put, List.setIfInBounds_toArray, List.set_cons_zero, List.set_cons_succ]
            refine takeD (i := 8) (v := .int .i64 ((unfR p xs).length : Int)) (some 83) rfl rfl (by kernel_rfl) (by kernel_rfl) (by kernel_rfl) (fun _ _ _ h => h) (Or.inl ⟨by rfl, fun w' hw' => ?_⟩) hHeld ?_
            · first | (go_simp; done) | (obtain ⟨⟨s0, s1, s2, s3, s4, s5, s6, s7⟩, ⟨r0, r1, r2, r3, r4, r5, r6, r7⟩⟩ := hw'; go_simp; done)
            try simp only [Act.put, List.setIfInBounds_toArray, List.set_cons_zero, List.set_cons_succ]
            refine takeD (i := 9) (v := .bool (((unfR p xs).length : Int) == 0)) (some 84) rfl rfl (by kernel_rfl) (by kernel_rfl) (by kernel_rfl) (fun _ _ _ h => h) (Or.inl ⟨by rfl, fun w' hw' => ?_⟩) hHeld ?_
            · first | (go_simp; done) | (obtain ⟨⟨s0, s1, s2, s3, s4, s5, s6, s7⟩, ⟨r0, r1, r2, r3, r4, r5, r6, r7⟩⟩ := hw'; go_simp; done)
            try simp only [Act.put, List.setIfInBounds_toArray, List.set_cons_zero, List.set_cons_succ]
            refine takeD (i := 10) (v := .bool (((unfR p xs).length : Int) == 0)) (some 85) rfl rfl (by kernel_rfl) (by kernel_rfl) (by kernel_rfl) (fun _ _ _ h => h) (Or.inl ⟨by rfl, fun w' hw' => ?_⟩) hHeld ?_
            · first | (go_simp; done) | (obtain ⟨⟨s0, s1, s2, s3, s4, s5, s6, s7⟩, ⟨r0, r1, r2, r3, r4, r5, r6, r7⟩⟩ := hw'; go_simp; done)
            try simp only [Act.put, List.setIfInBounds_toArray, List.set_cons_zero, List.set_cons_succ]
            refine takeD (i := 11) (v := .bool true) (some 86) rfl rfl (by kernel_rfl) (by kernel_rfl) (by kernel_rfl) (fun _ _ _ h => h) (Or.inl ⟨by rfl, fun w' hw' => ?_⟩) hHeld ?_
            · first | (go_simp; done) | (obtain ⟨⟨s0, s1, s2, s3, s4, s5, s6, s7⟩, ⟨r0, r1, r2, r3, r4, r5, r6, r7⟩⟩ := hw'; go_simp; done)
            try simp only [Act.put, List.setIfInBounds_toArray, List.set_cons_zero, List.set_cons_succ]
            refine takeD (i := 12) (v := .bool true) (some 4) rfl rfl (by kernel_rfl) (by kernel_rfl) (by kernel_rfl) (fun _ _ _ h => h) (Or.inl ⟨by rfl, fun w' hw' => ?_⟩) hHeld ?_
            · first | (go_simp; done) | (obtain ⟨⟨s0, s1, s2, s3, s4, s5, s6, s7⟩, ⟨r0, r1, r2, r3, r4, r5, r6, r7⟩⟩ := hw'; go_simp; done)
            try simp only [Act.put, List.setIfInBounds_toArray, List.set_cons_zero, List.set_cons_succ]
            refine wpAnyH_done (by kernel_rfl) ?_ _
            go_wp2
            go_ret
            exact ⟨rfl, (td.step b12).step b13⟩
        · have hin := HP.out hup
          clear HP
          go_wp2_with fail
          refine (implIsUnfounded_calls hp gx o9.own.rd).mono ?_
          rintro e w10 ⟨he, b10⟩
          rw [hup] at he
          subst he
          have t10 := t9.step b10
          have CX := CX.later b10
          have hp := Rd.mono b10 hp
          first | (have gx := Rd.mono (α := List Int) b10 gx) | skip
          clear y0 y1 y2 y3 y4 y5 y6 y7
          obtain ⟨y0, y1, y2, y3, y4, y5, y6, y7⟩ := cells8 (CX)
          have CQ := CQ.later b10
          have hq := Rd.mono b10 hq
          clear zz0 zz1 zz2 zz3 zz4 zz5 zz6 zz7
          obtain ⟨zz0, zz1, zz2, zz3, zz4, zz5, zz6, zz7⟩ := cells8 (CQ)
          have o4 := o4.kept b10
          have o9 := o9.kept b10
          go_wp2_with fail
          refine (specSetIn_calls _ _ _ _ _ _ _ o9.ints o4.ints).mono ?_
          rintro e w11 ⟨he, b11⟩
          rw [hin] at he
          subst he
          have t11 := t10.step b11
          have CX := CX.later b11
          have hp := Rd.mono b11 hp
          first | (have gx := Rd.mono (α := List Int) b11 gx) | skip
          clear y0 y1 y2 y3 y4 y5 y6 y7
          obtain ⟨y0, y1, y2, y3, y4, y5, y6, y7⟩ := cells8 (CX)
          have CQ := CQ.later b11
          have hq := Rd.mono b11 hq
          clear zz0 zz1 zz2 zz3 zz4 zz5 zz6 zz7
          obtain ⟨zz0, zz1, zz2, zz3, zz4, zz5, zz6, zz7⟩ := cells8 (CQ)
          have o4 := o4.kept b11
          go_upto_region 16 with fail
          have hp := Rd.mono ((Below.refl w11.heap.size w11).drew) hp
          have hq := Rd.mono ((Below.refl w11.heap.size w11).drew) hq
          have gx := Rd.mono (α := List Int) ((Below.refl w11.heap.size w11).drew) gx
          have CX := CX.drew
          have CQ := CQ.drew
          have td := t11.drew
          clear y0 y1 y2 y3 y4 y5 y6 y7 zz0 zz1 zz2 zz3 zz4 zz5 zz6 zz7
          refine wp_region_held_drew (S := fun W' => (W'.cell? ⟨w1.heap.size, 0, none⟩ = some (.int .i64 p.atoms) ∧ W'.cell? ⟨w1.heap.size, 1, none⟩ = some x1 ∧ W'.cell? ⟨w1.heap.size, 2, none⟩ = some x2 ∧ W'.cell? ⟨w1.heap.size, 3, none⟩ = some x3 ∧ W'.cell? ⟨w1.heap.size, 4, none⟩ = some x4 ∧ W'.cell? ⟨w1.heap.size, 5, none⟩ = some x5 ∧ W'.cell? ⟨w1.heap.size, 6, none⟩ = some x6 ∧ W'.cell? ⟨w1.heap.size, 7, none⟩ = some x7) ∧ (W'.cell? ⟨w2.heap.size, 0, none⟩ = some (.int .i64 p.atoms) ∧ W'.cell? ⟨w2.heap.size, 1, none⟩ = some z1 ∧ W'.cell? ⟨w2.heap.size, 2, none⟩ = some z2 ∧ W'.cell? ⟨w2.heap.size, 3, none⟩ = some z3 ∧ W'.cell? ⟨w2.heap.size, 4, none⟩ = some z4 ∧ W'.cell? ⟨w2.heap.size, 5, none⟩ = some z5 ∧ W'.cell? ⟨w2.heap.size, 6, none⟩ = some z6 ∧ W'.cell? ⟨w2.heap.size, 7, none⟩ = some z7)) (by kernel_rfl) ⟨cells8 CX, cells8 CQ⟩ (fun hHeld => ?_)
          generalize w11.drew = wq at *
          refine takeD (i := 0) (v := .agg #[.int .i64 p.atoms, x1, x2, x3, x4, x5, x6, x7]) (some 75) rfl rfl (by kernel_rfl) (by kernel_rfl) (by kernel_rfl) (fun _ _ _ h => h) (Or.inl ⟨by rfl, fun w' hw' => ?_⟩) hHeld ?_
          · first | (go_simp; done) | (obtain ⟨⟨s0, s1, s2, s3, s4, s5, s6, s7⟩, ⟨r0, r1, r2, r3, r4, r5, r6, r7⟩⟩ := hw'; go_simp; done)
          try simp only [Act.put, List.setIfInBounds_toArray, List.set_cons_zero, List.set_cons_succ]
          refine takeD (i := 1) (v := .slice ax xs.length cx) (some 76) rfl rfl (by kernel_rfl) (by kernel_rfl) (by kernel_rfl) (fun _ _ _ h => h) (Or.inl ⟨by rfl, fun w' hw' => ?_⟩) hHeld ?_
          · first | (go_simp; done) | (obtain ⟨⟨s0, s1, s2, s3, s4, s5, s6, s7⟩, ⟨r0, r1, r2, r3, r4, r5, r6, r7⟩⟩ := hw'; go_simp; done)
          try simp only [Act.put, List.setIfInBounds_toArray, List.set_cons_zero, List.set_cons_succ]
          refine takeD (i := 3) (v := .agg #[.int .i64 p.atoms, z1, z2, z3, z4, z5, z6, z7]) (some 78) rfl rfl (by kernel_rfl) (by kernel_rfl) (by kernel_rfl) (fun _ _ _ h => h) (Or.inl ⟨by rfl, fun w' hw' => ?_⟩) hHeld ?_
          · first | (go_simp; done) | (obtain ⟨⟨s0, s1, s2, s3, s4, s5, s6, s7⟩, ⟨r0, r1, r2, r3, r4, r5, r6, r7⟩⟩ := hw'; go_simp; done)
          try simp only [Act.put, List.setIfInBounds_toArray, List.set_cons_zero, List.set_cons_succ]
          refine takeD (i := 4) (v := .slice ax xs.length cx) (some 79) rfl rfl (by kernel_rfl) (by kernel_rfl) (by kernel_rfl) (fun _ _ _ h => h) (Or.inl ⟨by rfl, fun w' hw' => ?_⟩) hHeld ?_
          · first | (go_simp; done) | (obtain ⟨⟨s0, s1, s2, s3, s4, s5, s6, s7⟩, ⟨r0, r1, r2, r3, r4, r5, r6, r7⟩⟩ := hw'; go_simp; done)
          try simp only [Act.put, List.setIfInBounds_toArray, List.set_cons_zero, List.set_cons_succ]
          refine wpAnyH_ready (rs := [2]) (by kernel_rfl) (by simp) ?_
          refine AllReadyH.cons rfl (fun K hK => ?_) AllReadyH.nil
          go_simp
          refine (implAnswer_calls hp gx).mono ?_
          rintro e w12 ⟨he, b12⟩
          rw [HA.out] at he
          subst he
          refine hK.out _ _ ⟨cells8 (CX.later b12), cells8 (CQ.later b12)⟩ (fun hHeld => ?_)
          clear hK K
          try simp only [Act.put, List.setIfInBounds_toArray, List.set_cons_zero, List.set_cons_succ]
          refine wpAnyH_ready (rs := [5]) (by kernel_rfl) (by simp) ?_
          refine AllReadyH.cons rfl (fun K hK => ?_) AllReadyH.nil
          go_simp
          refine (implModel_calls (Rd.mono b12 hq) (Rd.mono (α := List Int) b12 gx)).mono ?_
          rintro e w13 ⟨rfl, b13⟩
          refine hK.out _ _ ⟨cells8 ((CX.later b12).later b13), cells8 ((CQ.later b12).later b13)⟩ (fun hHeld => ?_)
          clear hK K
          try simp only [Act.put, List.setIfInBounds_toArray, List.set_cons_zero, List.set_cons_succ]
          generalize modelB (foldD p) xs = mb at *
          refine takeD (i := 6) (v := .bool mb) (some 81) rfl rfl (by kernel_rfl) (by kernel_rfl) (by kernel_rfl) (fun _ _ _ h => h) (Or.inl ⟨by rfl, fun w' hw' => ?_⟩) hHeld ?_
          · first | (go_simp; done) | (obtain ⟨⟨s0, s1, s2, s3, s4, s5, s6, s7⟩, ⟨r0, r1, r2, r3, r4, r5, r6, r7⟩⟩ := hw'; go_simp; done)
          try simp only [Act.put, List.setIfInBounds_toArray, List.set_cons_zero, List.set_cons_succ]
          cases mb
          · skip
            refine takeD (i := 7) (v := undef) (some 82) rfl rfl (by kernel_rfl) (by kernel_rfl) (by kernel_rfl) (fun _ _ _ h => h) (Or.inr ⟨by rfl, rfl⟩) hHeld ?_
            try simp only [Act.put, List.setIfInBounds_toArray, List.set_cons_zero, List.set_cons_succ]
            refine takeD (i := 8) (v := undef) (some 83) rfl rfl (by kernel_rfl) (by kernel_rfl) (by kernel_rfl) (fun _ _ _ h => h) (Or.inr ⟨by rfl, rfl⟩) hHeld ?_
            try simp only [Act.put, List.setIfInBounds_toArray, List.set_cons_zero, List.set_cons_succ]
            refine takeD (i := 9) (v := undef) (some 84) rfl rfl (by kernel_rfl) (by kernel_rfl) (by kernel_rfl) (fun _ _ _ h => h) (Or.inr ⟨by rfl, rfl⟩) hHeld ?_
            try simp only [Act.put, List.setIfInBounds_toArray, List.set_cons_zero, List.set_cons_succ]
            refine takeD (i := 10) (v := .bool false) (some 85) rfl rfl (by kernel_rfl) (by kernel_rfl) (by kernel_rfl) (fun _ _ _ h => h) (Or.inl ⟨by rfl, fun w' hw' => ?_⟩) hHeld ?_
            · first | (go_simp; done) | (obtain ⟨⟨s0, s1, s2, s3, s4, s5, s6, s7⟩, ⟨r0, r1, r2, r3, r4, r5, r6, r7⟩⟩ := hw'; go_simp; done)
            try simp only [Act.put, List.setIfInBounds_toArray, List.set_cons_zero, List.set_cons_succ]
            refine takeD (i := 11) (v := .bool true) (some 86) rfl rfl (by kernel_rfl) (by kernel_rfl) (by kernel_rfl) (fun _ _ _ h => h) (Or.inl ⟨by rfl, fun w' hw' => ?_⟩) hHeld ?_
            · first | (go_simp; done) | (obtain ⟨⟨s0, s1, s2, s3, s4, s5, s6, s7⟩, ⟨r0, r1, r2, r3, r4, r5, r6, r7⟩⟩ := hw'; go_simp; done)
            try simp only [Act.put, List.setIfInBounds_toArray, List.set_cons_zero, List.set_cons_succ]
            refine takeD (i := 12) (v := .bool true) (some 4) rfl rfl (by kernel_rfl) (by kernel_rfl) (by kernel_rfl) (fun _ _ _ h => h) (Or.inl ⟨by rfl, fun w' hw' => ?_⟩) hHeld ?_
            · first | (go_simp; done) | (obtain ⟨⟨s0, s1, s2, s3, s4, s5, s6, s7⟩, ⟨r0, r1, r2, r3, r4, r5, r6, r7⟩⟩ := hw'; go_simp; done)
            try simp only [Act.put, List.setIfInBounds_toArray, List.set_cons_zero, List.set_cons_succ]
            refine wpAnyH_done (by kernel_rfl) ?_ _
            go_wp2
            go_ret
            exact ⟨rfl, (td.step b12).step b13⟩
          · skip
            refine takeD (i := 7) (v := .slice p4 (unfR p xs).length c4) (some 82) rfl rfl (by kernel_rfl) (by kernel_rfl) (by kernel_rfl) (fun _ _ _ h => h) (Or.inl ⟨by rfl, fun w' hw' => ?_⟩) hHeld ?_
            · first | (go_simp; done) | (obtain ⟨⟨s0, s1, s2, s3, s4, s5, s6, s7⟩, ⟨r0, r1, r2, r3, r4, r5, r6, r7⟩⟩ := hw'; go_simp; done)
            try simp only [Act.put, List.setIfInBounds_toArray, List.set_cons_zero, List.set_cons_succ]
            refine takeD (i := 8) (v := .int .i64 ((unfR p xs).length : Int)) (some 83) rfl rfl (by kernel_rfl) (by kernel_rfl) (by kernel_rfl) (fun _ _ _ h => h) (Or.inl ⟨by rfl, fun w' hw' => ?_⟩) hHeld ?_
            · first | (go_simp; done) | (obtain ⟨⟨s0, s1, s2, s3, s4, s5, s6, s7⟩, ⟨r0, r1, r2, r3, r4, r5, r6, r7⟩⟩ := hw'; go_simp; done)
            try simp only [Act.put, List.setIfInBounds_toArray, List.set_cons_zero, List.set_cons_succ]
            refine takeD (i := 9) (v := .bool (((unfR p xs).length : Int) == 0)) (some 84) rfl rfl (by kernel_rfl) (by kernel_rfl) (by kernel_rfl) (fun _ _ _ h => h) (Or.inl ⟨by rfl, fun w' hw' => ?_⟩) hHeld ?_
            · first | (go_simp; done) | (obtain ⟨⟨s0, s1, s2, s3, s4, s5, s6, s7⟩, ⟨r0, r1, r2, r3, r4, r5, r6, r7⟩⟩ := hw'; go_simp; done)
            try simp only [Act.put, List.setIfInBounds_toArray, List.set_cons_zero, List.set_cons_succ]
            refine takeD (i := 10) (v := .bool (((unfR p xs).length : Int) == 0)) (some 85) rfl rfl (by kernel_rfl) (by kernel_rfl) (by kernel_rfl) (fun _ _ _ h => h) (Or.inl ⟨by rfl, fun w' hw' => ?_⟩) hHeld ?_
            · first | (go_simp; done) | (obtain ⟨⟨s0, s1, s2, s3, s4, s5, s6, s7⟩, ⟨r0, r1, r2, r3, r4, r5, r6, r7⟩⟩ := hw'; go_simp; done)
            try simp only [Act.put, List.setIfInBounds_toArray, List.set_cons_zero, List.set_cons_succ]
            refine takeD (i := 11) (v := .bool true) (some 86) rfl rfl (by kernel_rfl) (by kernel_rfl) (by kernel_rfl) (fun _ _ _ h => h) (Or.inl ⟨by rfl, fun w' hw' => ?_⟩) hHeld ?_
            · first | (go_simp; done) | (obtain ⟨⟨s0, s1, s2, s3, s4, s5, s6, s7⟩, ⟨r0, r1, r2, r3, r4, r5, r6, r7⟩⟩ := hw'; go_simp; done)
            try simp only [Act.put, List.setIfInBounds_toArray, List.set_cons_zero, List.set_cons_succ]
            refine takeD (i := 12) (v := .bool true) (some 4) rfl rfl (by kernel_rfl) (by kernel_rfl) (by kernel_rfl) (fun _ _ _ h => h) (Or.inl ⟨by rfl, fun w' hw' => ?_⟩) hHeld ?_
            · first | (go_simp; done) | (obtain ⟨⟨s0, s1, s2, s3, s4, s5, s6, s7⟩, ⟨r0, r1, r2, r3, r4, r5, r6, r7⟩⟩ := hw'; go_simp; done)
            try simp only [Act.put, List.setIfInBounds_toArray, List.set_cons_zero, List.set_cons_succ]
            refine wpAnyH_done (by kernel_rfl) ?_ _
            go_wp2
            go_ret
            exact ⟨rfl, (td.step b12).step b13⟩
set_option maxRecDepth 100000 in
theorem law {a a' : Option Addr} {len0 cap len1 cap' : Nat} {zs zs' : List Int} {w : World} (w0 : IsRow .u8 w a len0 cap zs) (w1 : IsRow .u8 w a' len1 cap' zs') :
    Calls Tryz.prog 3 #[.slice a len0 cap, .slice a' len1 cap'] w fun e w' => e = .returned (.bool true) ∧ Below w.heap.size w w' := by
  by_cases s0 : 1048576 < len0
  · have hb1 : decide (1048576 < (len0 : Int)) = true := decide_eq_true (by omega)
    go_enter Tryz.func3, Tryz.ntmps3
    go_wp2_with fail
    refine (big_calls _ _ _ _ _ hb1).mono ?_
    rintro e w' ⟨rfl, rfl⟩
    go_wp2
    go_ret
    exact ⟨rfl, Below.refl _ _⟩
  by_cases s1 : 1048576 < len1
  · have hb1 : decide (1048576 < (len0 : Int)) = false := decide_eq_false (by omega)
    have hb2 : decide (1048576 < (len1 : Int)) = true := decide_eq_true (by omega)
    go_enter Tryz.func3, Tryz.ntmps3
    go_wp2_with fail
    refine (big_calls _ _ _ _ _ hb1).mono ?_
    rintro e w' ⟨rfl, rfl⟩
    go_wp2_with fail
    refine (big_calls _ _ _ _ _ hb2).mono ?_
    rintro e w' ⟨rfl, rfl⟩
    go_wp2
    go_ret
    exact ⟨rfl, Below.refl _ _⟩
  obtain ⟨bs, rfl, h⟩ := isRow_bytes w0 (by omega)
  obtain ⟨ms, rfl, h'⟩ := isRow_bytes w1 (by omega)
  exact law0 h h'

set_option maxRecDepth 100000 in
theorem lifted (os : Os) (started : os.Started) (H : Type) (enc : TypeId × Value → H) :
    ReturnsInHanded {} Tryz.checked os 3 .any (Rows.fnNothingUnfoundedSpec.pre6 enc Tryz.prog Tryz.f3 Rows.fnNothingUnfoundedRow.domain false) (Rows.fnNothingUnfoundedSpec.post enc Tryz.prog Tryz.f3 false true false false) := by
  refine returnsInHanded_of_change (C := Tryz.checked) own started (by kernel_rfl) Tryz.func3
    (ChangeSpec.witness6 (enc := enc) (C := Tryz.checked) false ⟨#[], #[.slice none 0 0, .slice none 0 0], []⟩ 8 (by kernel_rfl) (by kernel_rfl) (by kernel_rfl) (by kernel_rfl)) ?_
  intro W base args ds gs before hval0 hW hcnd _
  have hval : ∀ (j : Nat) t v, Tryz.f3.params[j]? = some t → args[j]? = some v → Value.okWide Tryz.prog W .any base t v := hval0
  have hW' := hW
  obtain ⟨p, q, hA0, hV, rfl, hfz, hnd⟩ := hW
  have hA : DataW.TrodAll enc Tryz.prog W 0 (fun _ => true) true Tryz.f3.params.toList args.toList ds p := hA0
  rw [Tryz.params3] at hA hval
  obtain ⟨v0, vs0, d0, ds0, p0, q0, hargs, rfl, rfl, h0, r0⟩ := trodAll_cons hA
  obtain ⟨v1, vs1, d1, ds1, p1, q1, rfl, rfl, rfl, h1, r1⟩ := trodAll_cons r0
  obtain ⟨rfl, rfl, rfl⟩ := trodAll_nil r1
  obtain rfl : args = #[v0, v1] := by cases args; simp_all
  obtain ⟨rfl, rfl⟩ := trodVars_none hV
  obtain ⟨a0, len0, cap0, rfl⟩ := okWide_slice Tryz.underlying22 (hval 0 22 v0 rfl rfl)
  have k0 := h0
  have lt0 : ∀ x ∈ p0, x.block < W.heap.size := by obtain ⟨m, hm⟩ := k0; exact DataW.trod_lt m _ _ _ hm
  obtain ⟨z0, w0⟩ : ∃ zs, IsRow .u8 W a0 len0 cap0 zs := by
    obtain ⟨fuel, hf⟩ := h0
    rcases open_ints Tryz.underlying22 Tryz.underlying5 (by kernel_rfl) hf with ⟨hcs, _⟩ | ⟨x, l, c, zs, hcs, _, hl, hm, hz, _, hcell, hwz⟩
    · simp [Value.cells] at hcs
      obtain ⟨rfl, rfl, rfl⟩ := hcs
      exact ⟨[], .inl ⟨rfl, rfl, rfl, rfl⟩⟩
    · simp [Value.cells] at hcs
      obtain ⟨rfl, rfl, rfl⟩ := hcs
      exact ⟨zs, .inr ⟨_, rfl, hl, hm, by simpa using hz, hcell, hwz⟩⟩
  obtain ⟨a1, len1, cap1, rfl⟩ := okWide_slice Tryz.underlying22 (hval 1 22 v1 rfl rfl)
  have k1 := h1
  have lt1 : ∀ x ∈ p1, x.block < W.heap.size := by obtain ⟨m, hm⟩ := k1; exact DataW.trod_lt m _ _ _ hm
  obtain ⟨z1, w1⟩ : ∃ zs, IsRow .u8 W a1 len1 cap1 zs := by
    obtain ⟨fuel, hf⟩ := h1
    rcases open_ints Tryz.underlying22 Tryz.underlying5 (by kernel_rfl) hf with ⟨hcs, _⟩ | ⟨x, l, c, zs, hcs, _, hl, hm, hz, _, hcell, hwz⟩
    · simp [Value.cells] at hcs
      obtain ⟨rfl, rfl, rfl⟩ := hcs
      exact ⟨[], .inl ⟨rfl, rfl, rfl, rfl⟩⟩
    · simp [Value.cells] at hcs
      obtain ⟨rfl, rfl, rfl⟩ := hcs
      exact ⟨zs, .inr ⟨_, rfl, hl, hm, by simpa using hz, hcell, hwz⟩⟩
  clear hA0 hval0
  refine (law w0 w1).mono fun e W' ⟨he, bel⟩ => ?_
  subst he
  exact ⟨_, rfl, _, _, _, [], _, [], hW', trodAll_mk1 (shut_bool Tryz.underlying4 _), (trodAll_cons_mk (Below.trod laidOut (by kernel_rfl) (of_decide_eq_true (by kernel_rfl)) k0 bel lt0) (trodAll_cons_mk (Below.trod laidOut (by kernel_rfl) (of_decide_eq_true (by kernel_rfl)) k1 bel lt1) trodAll_mk0)), rfl, bel.frame _, fun h => by cases h⟩

theorem over : Rows.fnNothingUnfoundedRow.holds Tryz.pinned (OpenSpec.ofChange Rows.fnNothingUnfoundedSpec) :=
  OpenClaim.holds_of_wide 3 Tryz.f3 rfl rfl rfl rfl rfl rfl rfl ⟨rfl, rfl, rfl, rfl, rfl⟩ rfl rfl rfl rfl rfl (by kernel_rfl) Tryz.func3 (by kernel_rfl)
    (of_decide_eq_true (by kernel_rfl)) (by unfold Func.isWrapper; first | (rw [if_pos (by decide +kernel)]; kernel_rfl) | (rw [if_neg (by decide +kernel)]; exact ⟨rfl, rfl⟩))
    (fun os started H enc _ => lifted os started H enc)

theorem proved : Rows.FnNothingUnfoundedSaid := over
end Go.Proofs.YthfbnalgnnjbbaaGreat.fnNothingUnfounded
