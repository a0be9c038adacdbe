/-
  Support and unfounded sets: what the program answers. No condition of its own.
-/
import Derived.Test.YteahbeomlbdlcaaAnsI
import Derived.Test.YteahbeomlbdlcaaSeq
import Derived.Test.YteahbeomlbdlcaaSupD
namespace Go.Proofs.Yteahbeomlbdlcaa
set_option linter.unusedVariables false
set_option linter.unusedSimpArgs false
open Go.RowKit
set_option maxRecDepth 100000


theorem lessN_calls (a b : Nat) (w : World) (ha : a < 4096) (hb : b < 4096) :
    Calls Try.prog 60 #[.int .u16 (a : Int), .int .u16 (b : Int)] w fun e w' => e = .returned (.int .u16 ((a &&& (65535 - b) : Nat) : Int)) ∧ w = w' := by
  have hlaw := andNot_u16 a b ha hb
  go_enter Try.func60, Try.ntmps60
  go_wp2
  go_ret
  exact ⟨rfl, rfl⟩


set_option maxHeartbeats 2000000 in
theorem supportedBy_calls {cs : List Value} {p : ProgD} {w : World} (xs ys : List Int) (h : Rd.R w cs p) (hok : ∀ r ∈ p.rules, ruleOkB r 12 = true) :
    Calls Try.prog 50 #[.agg cs.toArray, .int .u16 (maskOf xs : Int), .int .u16 (maskOf ys : Int)] w fun e w' => e = .returned (.int .u16 (supM p.rules xs ys p.rules.length : Int)) ∧ Below w.heap.size w w' := by
  have h0 := h
  obtain ⟨c1, c2, c4, c5, c6, c7, rfl, hf, g1, g2, g4, g5, g6, g7⟩ := h0
  obtain ⟨a1, k1, rfl, _, h1⟩ := g1.sl
  have hm1 := h1.1
  have tb : Below w.heap.size w (w.alloc (.cells #[.int .i64 p.atoms, .slice a1 p.rules.length k1, c2, .bool p.projOn, c4, c5, c6, c7] 30)) := (Below.refl _ _).alloc (Nat.le_refl _) _
  clear g1 g2 g4 g5 g6 g7 hf
  have HOK := Lib.hid hok
  have hmx := maskOf_lt xs
  have hmy := maskOf_lt ys
  clear hok
  go_enter Try.func50, Try.ntmps50
  go_wp2_with fail
  have t1 := tb
  clear tb
  go_loopw [7, 13] (fun s i wr => ∃ k : Nat, k ≤ p.rules.length ∧ i = .int .i64 k ∧ s = .int .u16 (supM p.rules xs ys k : Int) ∧ Below w.heap.size w wr) (fun _ i _ => p.rules.length - (intOf i).toNat)
  case atStart => exact ⟨0, Nat.zero_le _, rfl, rfl, t1⟩
  case round =>
    obtain ⟨k, hk, rfl, rfl, hb⟩ := hrel
    clear t1
    have hsl := supM_lt (rs := p.rules) (xs := xs) (ys := ys) k
    by_cases hlt : k < p.rules.length
    · obtain ⟨b, off, rfl, hc⟩ := h1.base (by omega)
      obtain ⟨ecs, hC, hR⟩ := hc k hlt
      have hC := hC.later hb
      have hR := Rd.mono hb hR
      have hok12 := HOK.out _ (nth_mem hlt)
      have hR0 := hR
      obtain ⟨d1, d4, rfl, hf', r1, r4⟩ := hR0
      obtain ⟨ah, kh, rfl, _, hh⟩ := r1.sl
      obtain ⟨ab, kb, rfl, _, _⟩ := r4.sl
      have u0 := hC.c0
      have u1 := hC.c1
      have u2 := hC.c2
      have u3 := hC.c3
      have u4 := hC.c4
      rw [show Rd.k RuleD = 5 from rfl] at u0 u1 u2 u3 u4
      have hbA := hb.alloc hb.size (.cells #[.bool (nth p.rules k).choice, .slice ah (nth p.rules k).heads.length kh, .bool (nth p.rules k).weight, .int .i64 (nth p.rules k).bound, .slice ab (nth p.rules k).body.length kb] 69)
      have hCL := Lib.hid (Cells.new wr [.bool (nth p.rules k).choice, .slice ah (nth p.rules k).heads.length kh, .bool (nth p.rules k).weight, .int .i64 (nth p.rules k).bound, .slice ab (nth p.rules k).body.length kb] 69)
      have bA := (Below.refl wr.heap.size wr).alloc (Nat.le_refl _) (.cells #[.bool (nth p.rules k).choice, .slice ah (nth p.rules k).heads.length kh, .bool (nth p.rules k).weight, .int .i64 (nth p.rules k).bound, .slice ab (nth p.rules k).body.length kb] 69)
      have hR := Rd.mono bA hR
      have hh := hh.later bA
      have hfr := rd_rule hR
      have hml2 := maskOf_lt (nth p.rules k).heads
      clear hC hc r1 r4
      cases hB : reachB (nth p.rules k) (h2B xs ys)
      · have hS' : Hid (Value.int .u16 (supM p.rules xs ys k : Int) = .int .u16 (supM p.rules xs ys (k + 1) : Int)) := by show _ = _; rw [supM_no hB]
        go_wp2_with fail
        refine (implReach2_calls _ _ hmx hmy hR hok12).mono ?_
        rintro e w2 ⟨he, b2⟩
        rw [reachI_h2 hok12 hfr, hB] at he
        subst he
        have hb2 := hbA.step b2
        clear hB
        go_wp2
        go_roundw
        case rel => exact ⟨k + 1, by omega, by go_num, hS'.out, hb2⟩
        case measure => simp [intOf]; omega
      · have hS' : Hid (Value.int .u16 ((supM p.rules xs ys k ||| maskOf (nth p.rules k).heads : Nat) : Int) = .int .u16 (supM p.rules xs ys (k + 1) : Int)) := by show _ = _; rw [supM_yes hB]
        go_wp2_with fail
        refine (implReach2_calls _ _ hmx hmy hR hok12).mono ?_
        rintro e w2 ⟨he, b2⟩
        rw [reachI_h2 hok12 hfr, hB] at he
        subst he
        have hb2 := hbA.step b2
        obtain ⟨z0, z1, z2, z3, z4⟩ := cells5 (hCL.out.later b2)
        clear hB
        go_wp2_with (first | (go_at_call 33; refine (atomsIn_calls _ _ _ _ (hh.later b2).ints).mono ?_; rintro e w' ⟨rfl, rfl⟩) | (go_at_call 89; refine (joinN_calls _ _ _ hsl hml2).mono ?_; rintro e w' ⟨rfl, rfl⟩))
        go_roundw
        case rel => exact ⟨k + 1, by omega, by go_num, hS'.out, hb2⟩
        case measure => simp [intOf]; omega
    · obtain rfl : k = p.rules.length := by omega
      go_wp2
      go_ret
      exact ⟨rfl, hb⟩


set_option maxHeartbeats 2000000 in
theorem implSupported_calls {cs : List Value} {p : ProgD} {w : World} {v : Value} {xs : List Int} (h : Rd.R w cs p) (gx : RdL w [v] xs) :
    Calls Try.prog 20 #[.agg cs.toArray, v] w fun e w' => e = .returned (.bool (supB p xs)) ∧ Below w.heap.size w w' := by
  obtain ⟨p0, p1, p2, p3, p4, p5, p6, p7, rfl⟩ := list8 (Rd.len h)
  obtain ⟨ax, cx, rfl, _, hx⟩ := gx.sl
  have t0 : Below w.heap.size w (w.alloc (.cells #[p0, p1, p2, p3, p4, p5, p6, p7] 30)) := (Below.refl _ _).alloc (by simp) _
  have hmx := maskOf_lt xs
  cases hF : foldB p
  · have hv := Lib.hid (supB_no (xs := xs) hF)
    go_enter Try.func20, Try.ntmps20
    go_wp2_with fail
    refine (implFold_calls (Rd.mono t0 h)).mono ?_
    rintro e w1 ⟨cs1, he, o1, b1⟩
    rw [hF] at he
    subst he
    have t1 := t0.step b1
    have l1 := Rd.one o1.rd
    obtain ⟨x0, x1, x2, x3, x4, x5, x6, x7, rfl⟩ := list8 (Rd.len o1.rd)
    have st0 := sto Try.prog (l1 x0 (by simp))
    have st1 := sto Try.prog (l1 x1 (by simp))
    have st2 := sto Try.prog (l1 x2 (by simp))
    have st3 := sto Try.prog (l1 x3 (by simp))
    have st4 := sto Try.prog (l1 x4 (by simp))
    have st5 := sto Try.prog (l1 x5 (by simp))
    have st6 := sto Try.prog (l1 x6 (by simp))
    have st7 := sto Try.prog (l1 x7 (by simp))
    have o1 := o1.alloc (.cells #[x0, x1, x2, x3, x4, x5, x6, x7] 30)
    have CX1 := Cells.new w1 [x0, x1, x2, x3, x4, x5, x6, x7] 30
    have t1 := t1.alloc t1.size (.cells #[x0, x1, x2, x3, x4, x5, x6, x7] 30)
    clear l1
    go_wp2_with (go_at_call 33; refine (atomsIn_calls _ _ _ _ (hx.later t1).ints).mono ?_; rintro e w' ⟨rfl, rfl⟩)
    go_ret
    exact ⟨ret_bool hv.out.symm, t1⟩
  · have hv := Lib.hid (supB_yes (xs := xs) hF)
    have hok : progOkB (foldD p) = true := foldR_ok hF
    have hr12 := Lib.hid (rules12 hok)
    have hsl := supM_lt (rs := (foldD p).rules) (xs := xs) (ys := xs) (foldD p).rules.length
    go_enter Try.func20, Try.ntmps20
    go_wp2_with fail
    refine (implFold_calls (Rd.mono t0 h)).mono ?_
    rintro e w1 ⟨cs1, he, o1, b1⟩
    rw [hF] at he
    rw [foldR_yes hF] at o1
    subst he
    have t1 := t0.step b1
    have l1 := Rd.one o1.rd
    obtain ⟨x0, x1, x2, x3, x4, x5, x6, x7, rfl⟩ := list8 (Rd.len o1.rd)
    have st0 := sto Try.prog (l1 x0 (by simp))
    have st1 := sto Try.prog (l1 x1 (by simp))
    have st2 := sto Try.prog (l1 x2 (by simp))
    have st3 := sto Try.prog (l1 x3 (by simp))
    have st4 := sto Try.prog (l1 x4 (by simp))
    have st5 := sto Try.prog (l1 x5 (by simp))
    have st6 := sto Try.prog (l1 x6 (by simp))
    have st7 := sto Try.prog (l1 x7 (by simp))
    have o1 := o1.alloc (.cells #[x0, x1, x2, x3, x4, x5, x6, x7] 30)
    have CX1 := Cells.new w1 [x0, x1, x2, x3, x4, x5, x6, x7] 30
    have t1 := t1.alloc t1.size (.cells #[x0, x1, x2, x3, x4, x5, x6, x7] 30)
    clear l1
    obtain ⟨y0, y1, y2, y3, y4, y5, y6, y7⟩ := cells8 CX1
    go_wp2_with (first | (go_at_call 33; refine (atomsIn_calls _ _ _ _ (hx.later t1).ints).mono ?_; rintro e w' ⟨rfl, rfl⟩) | (go_at_call 50; refine (supportedBy_calls xs xs o1.rd hr12.out).mono ?_; rintro e w2 ⟨rfl, b2⟩) |
      (go_at_call 49; refine (inM_calls _ _ _ hmx hsl).mono ?_; rintro e w' ⟨rfl, rfl⟩))
    go_ret
    exact ⟨ret_bool (by rw [hv.out]; rfl), t1.step b2⟩

set_option maxHeartbeats 1000000 in
theorem implIsUnfounded_calls {cs : List Value} {p : ProgD} {w : World} {v v2 : Value} {xs us : List Int} (h : Rd.R w cs p) (gx : RdL w [v] xs) (gu : RdL w [v2] us) :
    Calls Try.prog 24 #[.agg cs.toArray, v, v2] w fun e w' => e = .returned (.bool (isUnfB p xs us)) ∧ Below w.heap.size w w' := by
  obtain ⟨p0, p1, p2, p3, p4, p5, p6, p7, rfl⟩ := list8 (Rd.len h)
  obtain ⟨ax, cx, rfl, _, hx⟩ := gx.sl
  have t0 : Below w.heap.size w (w.alloc (.cells #[p0, p1, p2, p3, p4, p5, p6, p7] 30)) := (Below.refl _ _).alloc (by simp) _
  obtain ⟨au, cu, rfl, _, hu⟩ := gu.sl
  have hmu0 := hu.1
  have hmx := maskOf_lt xs
  have hmu := maskOf_lt us
  cases hF : foldB p
  · have hv := Lib.hid (isUnfB_no (xs := xs) (us := us) hF)
    go_enter Try.func24, Try.ntmps24
    go_wp2_with fail
    refine (implFold_calls (Rd.mono t0 h)).mono ?_
    rintro e w1 ⟨cs1, he, o1, b1⟩
    rw [hF] at he
    subst he
    have t1 := t0.step b1
    have l1 := Rd.one o1.rd
    obtain ⟨x0, x1, x2, x3, x4, x5, x6, x7, rfl⟩ := list8 (Rd.len o1.rd)
    have st0 := sto Try.prog (l1 x0 (by simp))
    have st1 := sto Try.prog (l1 x1 (by simp))
    have st2 := sto Try.prog (l1 x2 (by simp))
    have st3 := sto Try.prog (l1 x3 (by simp))
    have st4 := sto Try.prog (l1 x4 (by simp))
    have st5 := sto Try.prog (l1 x5 (by simp))
    have st6 := sto Try.prog (l1 x6 (by simp))
    have st7 := sto Try.prog (l1 x7 (by simp))
    have o1 := o1.alloc (.cells #[x0, x1, x2, x3, x4, x5, x6, x7] 30)
    have CX1 := Cells.new w1 [x0, x1, x2, x3, x4, x5, x6, x7] 30
    have t1 := t1.alloc t1.size (.cells #[x0, x1, x2, x3, x4, x5, x6, x7] 30)
    clear l1
    go_wp2
    go_ret
    exact ⟨ret_bool hv.out.symm, t1⟩
  · have hok : progOkB (foldD p) = true := foldR_ok hF
    have hr12 := Lib.hid (rules12 hok)
    cases hS : setOkB us (foldD p).atoms
    · have hv : Hid (isUnfB p xs us = false) := by show _ = _; rw [isUnfB_yes hF, isUnfQ_A hS]
      go_enter Try.func24, Try.ntmps24
      go_wp2_with fail
      refine (implFold_calls (Rd.mono t0 h)).mono ?_
      rintro e w1 ⟨cs1, he, o1, b1⟩
      rw [hF] at he
      rw [foldR_yes hF] at o1
      subst he
      have t1 := t0.step b1
      have l1 := Rd.one o1.rd
      obtain ⟨x0, x1, x2, x3, x4, x5, x6, x7, rfl⟩ := list8 (Rd.len o1.rd)
      have st0 := sto Try.prog (l1 x0 (by simp))
      have st1 := sto Try.prog (l1 x1 (by simp))
      have st2 := sto Try.prog (l1 x2 (by simp))
      have st3 := sto Try.prog (l1 x3 (by simp))
      have st4 := sto Try.prog (l1 x4 (by simp))
      have st5 := sto Try.prog (l1 x5 (by simp))
      have st6 := sto Try.prog (l1 x6 (by simp))
      have st7 := sto Try.prog (l1 x7 (by simp))
      have o1 := o1.alloc (.cells #[x0, x1, x2, x3, x4, x5, x6, x7] 30)
      have CX1 := Cells.new w1 [x0, x1, x2, x3, x4, x5, x6, x7] 30
      have t1 := t1.alloc t1.size (.cells #[x0, x1, x2, x3, x4, x5, x6, x7] 30)
      clear l1
      have oR := o1.rd
      obtain ⟨_, _, _, _, _, _, hl, _⟩ := oR
      simp only [List.cons.injEq, and_true] at hl
      obtain ⟨rfl, -⟩ := hl
      obtain ⟨y0, y1, y2, y3, y4, y5, y6, y7⟩ := cells8 CX1
      go_wp2_with (go_at_call 58; refine (implSetOk_calls _ _ _ _ _ (hu.later t1).ints).mono ?_; rintro e w' ⟨he, rfl⟩; rw [hS] at he; subst he)
      go_ret
      exact ⟨ret_bool hv.out.symm, t1⟩
    · by_cases hn : us.length = 0
      · have hv : Hid (isUnfB p xs us = false) := by show _ = _; rw [isUnfB_yes hF, isUnfQ_B hn]
        obtain rfl : us = [] := List.length_eq_zero_iff.1 hn
        clear hn
        go_enter Try.func24, Try.ntmps24
        go_wp2_with fail
        refine (implFold_calls (Rd.mono t0 h)).mono ?_
        rintro e w1 ⟨cs1, he, o1, b1⟩
        rw [hF] at he
        rw [foldR_yes hF] at o1
        subst he
        have t1 := t0.step b1
        have l1 := Rd.one o1.rd
        obtain ⟨x0, x1, x2, x3, x4, x5, x6, x7, rfl⟩ := list8 (Rd.len o1.rd)
        have st0 := sto Try.prog (l1 x0 (by simp))
        have st1 := sto Try.prog (l1 x1 (by simp))
        have st2 := sto Try.prog (l1 x2 (by simp))
        have st3 := sto Try.prog (l1 x3 (by simp))
        have st4 := sto Try.prog (l1 x4 (by simp))
        have st5 := sto Try.prog (l1 x5 (by simp))
        have st6 := sto Try.prog (l1 x6 (by simp))
        have st7 := sto Try.prog (l1 x7 (by simp))
        have o1 := o1.alloc (.cells #[x0, x1, x2, x3, x4, x5, x6, x7] 30)
        have CX1 := Cells.new w1 [x0, x1, x2, x3, x4, x5, x6, x7] 30
        have t1 := t1.alloc t1.size (.cells #[x0, x1, x2, x3, x4, x5, x6, x7] 30)
        clear l1
        have oR := o1.rd
        obtain ⟨_, _, _, _, _, _, hl, _⟩ := oR
        simp only [List.cons.injEq, and_true] at hl
        obtain ⟨rfl, -⟩ := hl
        obtain ⟨y0, y1, y2, y3, y4, y5, y6, y7⟩ := cells8 CX1
        go_wp2_with (go_at_call 58; refine (implSetOk_calls _ _ _ _ _ (hu.later t1).ints).mono ?_; rintro e w' ⟨he, rfl⟩; rw [hS] at he; subst he)
        go_ret
        exact ⟨ret_bool hv.out.symm, t1⟩
      · have hv : Hid (isUnfB p xs us = (foldD p).rules.all (noneB xs us)) := by show _ = _; rw [isUnfB_yes hF, isUnfQ_C hS hn]
        have hn' : ¬ (us.length : Int) = 0 := by omega
        have hnb : ((us.length : Int) == 0) = false := by simpa using hn
        have hLE := Lib.hid (lessL_mask xs us)
        have hll := maskOf_lt (lessL xs us)
        have hsl := supM_lt (rs := (foldD p).rules) (xs := lessL xs us) (ys := xs) (foldD p).rules.length
        have hA := Lib.hid (none_all (rs := (foldD p).rules) (xs := xs) (us := us))
        go_enter Try.func24, Try.ntmps24
        go_wp2_with fail
        refine (implFold_calls (Rd.mono t0 h)).mono ?_
        rintro e w1 ⟨cs1, he, o1, b1⟩
        rw [hF] at he
        rw [foldR_yes hF] at o1
        subst he
        have t1 := t0.step b1
        have l1 := Rd.one o1.rd
        obtain ⟨x0, x1, x2, x3, x4, x5, x6, x7, rfl⟩ := list8 (Rd.len o1.rd)
        have st0 := sto Try.prog (l1 x0 (by simp))
        have st1 := sto Try.prog (l1 x1 (by simp))
        have st2 := sto Try.prog (l1 x2 (by simp))
        have st3 := sto Try.prog (l1 x3 (by simp))
        have st4 := sto Try.prog (l1 x4 (by simp))
        have st5 := sto Try.prog (l1 x5 (by simp))
        have st6 := sto Try.prog (l1 x6 (by simp))
        have st7 := sto Try.prog (l1 x7 (by simp))
        have o1 := o1.alloc (.cells #[x0, x1, x2, x3, x4, x5, x6, x7] 30)
        have CX1 := Cells.new w1 [x0, x1, x2, x3, x4, x5, x6, x7] 30
        have t1 := t1.alloc t1.size (.cells #[x0, x1, x2, x3, x4, x5, x6, x7] 30)
        clear l1
        have oR := o1.rd
        obtain ⟨_, _, _, _, _, _, hl, _⟩ := oR
        simp only [List.cons.injEq, and_true] at hl
        obtain ⟨rfl, -⟩ := hl
        obtain ⟨y0, y1, y2, y3, y4, y5, y6, y7⟩ := cells8 CX1
        go_wp2_with fail
        refine (implSetOk_calls _ _ _ _ _ (hu.later t1).ints).mono ?_
        rintro e w' ⟨he, rfl⟩
        rw [hS] at he
        subst he
        go_wp2_with fail
        refine (atomsIn_calls _ _ _ _ (hx.later t1).ints).mono ?_
        rintro e w' ⟨rfl, rfl⟩
        go_wp2_with fail
        refine (atomsIn_calls _ _ _ _ (hu.later t1).ints).mono ?_
        rintro e w' ⟨rfl, rfl⟩
        go_wp2
        clear y0 y1 y2 y3 y4 y5 y6 y7
        go_region_held3 (fun w' => w'.cell? ⟨w1.heap.size, 0, none⟩ = some (.int .i64 (foldD p).atoms) ∧ w'.cell? ⟨w1.heap.size, 1, none⟩ = some x1 ∧ w'.cell? ⟨w1.heap.size, 2, none⟩ = some x2 ∧ w'.cell? ⟨w1.heap.size, 3, none⟩ = some x3 ∧ w'.cell? ⟨w1.heap.size, 4, none⟩ = some x4 ∧ w'.cell? ⟨w1.heap.size, 5, none⟩ = some x5 ∧ w'.cell? ⟨w1.heap.size, 6, none⟩ = some x6 ∧ w'.cell? ⟨w1.heap.size, 7, none⟩ = some x7)
          (first | exact cells8 CX1 | exact cells8 CX1.drew | exact cells8 (CX1.drew.later b2))
          (first | (go_at_call 60; refine (lessN_calls _ _ _ hmx hmu).mono ?_; rintro e w' ⟨rfl, rfl⟩; rw [hLE.out]) |
            (go_at_call 50; refine (supportedBy_calls (lessL xs us) xs o1.drew.rd hr12.out).mono ?_; rintro e w2 ⟨rfl, b2⟩) |
            (go_at_call 59; refine (meet_calls _ _ _ hmu hsl).mono ?_; rintro e w' ⟨rfl, rfl⟩))
        go_wp2
        go_ret
        exact ⟨ret_bool (by rw [hv.out, ← hA.out]; first | rfl | (rw [Bool.eq_iff_iff]; simp)), t1.drew.step b2⟩

end Go.Proofs.Yteahbeomlbdlcaa
