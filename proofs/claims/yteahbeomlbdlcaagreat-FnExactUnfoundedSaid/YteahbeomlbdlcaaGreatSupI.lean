/-
  Support and unfounded sets: what the program answers. No condition of its own.
-/
import Derived.Test.YteahbeomlbdlcaaGreatAnsI
import Derived.Test.YteahbeomlbdlcaaGreatSeq
import Derived.Test.YteahbeomlbdlcaaGreatSupD
namespace Go.Proofs.YteahbeomlbdlcaaGreat
set_option linter.unusedVariables false
set_option linter.unusedSimpArgs false
open Go.RowKit
set_option maxRecDepth 100000


theorem lessN_calls (a b : Nat) (w : World) (ha : a < 4096) (hb : b < 4096) :
    Calls Tryz.prog 69 #[.int .u16 (a : Int), .int .u16 (b : Int)] w fun e w' => e = .returned (.int .u16 ((a &&& (65535 - b) : Nat) : Int)) ∧ w = w' := by
  have hlaw := andNot_u16 a b ha hb
  go_enter Tryz.func69, Tryz.ntmps69
  go_wp2
  go_ret
  exact ⟨rfl, rfl⟩

theorem upTo_pow {n : Nat} (hn : n ≤ 12) : ((2 : Int) ^ n) = ((2 ^ n : Nat) : Int) ∧ 1 ≤ 2 ^ n ∧ 2 ^ n ≤ 4096 := by
  have h1 : 2 ^ n ≤ 2 ^ 12 := Nat.pow_le_pow_right (by omega) hn
  have h2 : 0 < 2 ^ n := Nat.two_pow_pos n
  exact ⟨by simp, h2, h1⟩
theorem atomsUpTo_calls (n : Nat) (w : World) (hn : n ≤ 12) :
    Calls Tryz.prog 68 #[.int .i64 (n : Int)] w fun e w' => e = .returned (.int .u16 ((2 ^ n - 1 : Nat) : Int)) ∧ w = w' := by
  obtain ⟨hp, h1, h2⟩ := upTo_pow hn
  obtain ⟨P, hP⟩ : ∃ P : Nat, P = 2 ^ n := ⟨_, rfl⟩
  rw [← hP] at hp h1 h2
  have hv : Hid (2 ^ n = P) := hP.symm
  clear hP
  go_enter Tryz.func68, Tryz.ntmps68
  go_wp2
  go_ret
  refine ⟨ret_int ?_, rfl⟩
  rw [hv.out]
  first | omega | (unfold IntKind.wrap; simp; omega) | skip


set_option maxHeartbeats 2000000 in
theorem supportedBy_calls {cs : List Value} {p : ProgD} {w : World} (xs ys : List Int) (h : Rd.R w cs p) (hok : ∀ r ∈ p.rules, ruleOkB r 12 = true) :
    Calls Tryz.prog 75 #[.agg cs.toArray, .int .u16 (maskOf xs : Int), .int .u16 (maskOf ys : Int)] w fun e w' => e = .returned (.int .u16 (supM p.rules xs ys p.rules.length : Int)) ∧ Below w.heap.size w w' := by
  have h0 := h
  obtain ⟨c1, c2, c4, c5, c6, c7, rfl, hf, g1, g2, g4, g5, g6, g7⟩ := h0
  obtain ⟨a1, k1, rfl, _, h1⟩ := g1.sl
  have hm1 := h1.1
  have tb : Below w.heap.size w (w.alloc (.cells #[.int .i64 p.atoms, .slice a1 p.rules.length k1, c2, .bool p.projOn, c4, c5, c6, c7] 30)) := (Below.refl _ _).alloc (Nat.le_refl _) _
  clear g1 g2 g4 g5 g6 g7 hf
  have HOK := Lib.hid hok
  have hmx := maskOf_lt xs
  have hmy := maskOf_lt ys
  clear hok
  go_enter Tryz.func75, Tryz.ntmps75
  go_wp2_with fail
  have t1 := tb
  clear tb
  go_loopw [7, 13] (fun s i wr => ∃ k : Nat, k ≤ p.rules.length ∧ i = .int .i64 k ∧ s = .int .u16 (supM p.rules xs ys k : Int) ∧ Below w.heap.size w wr) (fun _ i _ => p.rules.length - (intOf i).toNat)
  case atStart => exact ⟨0, Nat.zero_le _, rfl, rfl, t1⟩
  case round =>
    obtain ⟨k, hk, rfl, rfl, hb⟩ := hrel
    clear t1
    have hsl := supM_lt (rs := p.rules) (xs := xs) (ys := ys) k
    by_cases hlt : k < p.rules.length
    · obtain ⟨b, off, rfl, hc⟩ := h1.base (by omega)
      obtain ⟨ecs, hC, hR⟩ := hc k hlt
      have hC := hC.later hb
      have hR := Rd.mono hb hR
      have hok12 := HOK.out _ (nth_mem hlt)
      have hR0 := hR
      obtain ⟨d1, d4, rfl, hf', r1, r4⟩ := hR0
      obtain ⟨ah, kh, rfl, _, hh⟩ := r1.sl
      obtain ⟨ab, kb, rfl, _, _⟩ := r4.sl
      have u0 := hC.c0
      have u1 := hC.c1
      have u2 := hC.c2
      have u3 := hC.c3
      have u4 := hC.c4
      rw [show Rd.k RuleD = 5 from rfl] at u0 u1 u2 u3 u4
      have hbA := hb.alloc hb.size (.cells #[.bool (nth p.rules k).choice, .slice ah (nth p.rules k).heads.length kh, .bool (nth p.rules k).weight, .int .i64 (nth p.rules k).bound, .slice ab (nth p.rules k).body.length kb] 58)
      have hCL := Lib.hid (Cells.new wr [.bool (nth p.rules k).choice, .slice ah (nth p.rules k).heads.length kh, .bool (nth p.rules k).weight, .int .i64 (nth p.rules k).bound, .slice ab (nth p.rules k).body.length kb] 58)
      have bA := (Below.refl wr.heap.size wr).alloc (Nat.le_refl _) (.cells #[.bool (nth p.rules k).choice, .slice ah (nth p.rules k).heads.length kh, .bool (nth p.rules k).weight, .int .i64 (nth p.rules k).bound, .slice ab (nth p.rules k).body.length kb] 58)
      have hR := Rd.mono bA hR
      have hh := hh.later bA
      have hfr := rd_rule hR
      have hml2 := maskOf_lt (nth p.rules k).heads
      clear hC hc r1 r4
      cases hB : reachB (nth p.rules k) (h2B xs ys)
      · have hS' : Hid (Value.int .u16 (supM p.rules xs ys k : Int) = .int .u16 (supM p.rules xs ys (k + 1) : Int)) := by show _ = _; rw [supM_no hB]
        go_wp2_with fail
        refine (implReach2_calls _ _ hmx hmy hR hok12).mono ?_
        rintro e w2 ⟨he, b2⟩
        rw [reachI_h2 hok12 hfr, hB] at he
        subst he
        have hb2 := hbA.step b2
        clear hB
        go_wp2
        go_roundw
        case rel => exact ⟨k + 1, by omega, by go_num, hS'.out, hb2⟩
        case measure => simp [intOf]; omega
      · have hS' : Hid (Value.int .u16 ((supM p.rules xs ys k ||| maskOf (nth p.rules k).heads : Nat) : Int) = .int .u16 (supM p.rules xs ys (k + 1) : Int)) := by show _ = _; rw [supM_yes hB]
        go_wp2_with fail
        refine (implReach2_calls _ _ hmx hmy hR hok12).mono ?_
        rintro e w2 ⟨he, b2⟩
        rw [reachI_h2 hok12 hfr, hB] at he
        subst he
        have hb2 := hbA.step b2
        obtain ⟨z0, z1, z2, z3, z4⟩ := cells5 (hCL.out.later b2)
        clear hB
        go_wp2_with (first | (go_at_call 66; refine (atomsIn_calls _ _ _ _ (hh.later b2).ints).mono ?_; rintro e w' ⟨rfl, rfl⟩) | (go_at_call 131; refine (joinN_calls _ _ _ hsl hml2).mono ?_; rintro e w' ⟨rfl, rfl⟩))
        go_roundw
        case rel => exact ⟨k + 1, by omega, by go_num, hS'.out, hb2⟩
        case measure => simp [intOf]; omega
    · obtain rfl : k = p.rules.length := by omega
      go_wp2
      go_ret
      exact ⟨rfl, hb⟩


set_option maxHeartbeats 1000000 in
theorem implIsUnfounded_calls {cs : List Value} {p : ProgD} {w : World} {v v2 : Value} {xs us : List Int} (h : Rd.R w cs p) (gx : RdL w [v] xs) (gu : RdL w [v2] us) :
    Calls Tryz.prog 18 #[.agg cs.toArray, v, v2] w fun e w' => e = .returned (.bool (isUnfB p xs us)) ∧ Below w.heap.size w w' := by
  obtain ⟨p0, p1, p2, p3, p4, p5, p6, p7, rfl⟩ := list8 (Rd.len h)
  obtain ⟨ax, cx, rfl, _, hx⟩ := gx.sl
  have t0 : Below w.heap.size w (w.alloc (.cells #[p0, p1, p2, p3, p4, p5, p6, p7] 30)) := (Below.refl _ _).alloc (by simp) _
  obtain ⟨au, cu, rfl, _, hu⟩ := gu.sl
  have hmu0 := hu.1
  have hmx := maskOf_lt xs
  have hmu := maskOf_lt us
  cases hF : foldB p
  · have hv := Lib.hid (isUnfB_no (xs := xs) (us := us) hF)
    go_enter Tryz.func18, Tryz.ntmps18
    go_wp2_with fail
    refine (implFold_calls (Rd.mono t0 h)).mono ?_
    rintro e w1 ⟨cs1, he, o1, b1⟩
    rw [hF] at he
    subst he
    have t1 := t0.step b1
    have l1 := Rd.one o1.rd
    obtain ⟨x0, x1, x2, x3, x4, x5, x6, x7, rfl⟩ := list8 (Rd.len o1.rd)
    have st0 := sto Tryz.prog (l1 x0 (by simp))
    have st1 := sto Tryz.prog (l1 x1 (by simp))
    have st2 := sto Tryz.prog (l1 x2 (by simp))
    have st3 := sto Tryz.prog (l1 x3 (by simp))
    have st4 := sto Tryz.prog (l1 x4 (by simp))
    have st5 := sto Tryz.prog (l1 x5 (by simp))
    have st6 := sto Tryz.prog (l1 x6 (by simp))
    have st7 := sto Tryz.prog (l1 x7 (by simp))
    have o1 := o1.alloc (.cells #[x0, x1, x2, x3, x4, x5, x6, x7] 30)
    have CX1 := Cells.new w1 [x0, x1, x2, x3, x4, x5, x6, x7] 30
    have t1 := t1.alloc t1.size (.cells #[x0, x1, x2, x3, x4, x5, x6, x7] 30)
    clear l1
    go_wp2
    go_ret
    exact ⟨ret_bool hv.out.symm, t1⟩
  · have hok : progOkB (foldD p) = true := foldR_ok hF
    have hr12 := Lib.hid (rules12 hok)
    cases hS : setOkB us (foldD p).atoms
    · have hv : Hid (isUnfB p xs us = false) := by show _ = _; rw [isUnfB_yes hF, isUnfQ_A hS]
      go_enter Tryz.func18, Tryz.ntmps18
      go_wp2_with fail
      refine (implFold_calls (Rd.mono t0 h)).mono ?_
      rintro e w1 ⟨cs1, he, o1, b1⟩
      rw [hF] at he
      rw [foldR_yes hF] at o1
      subst he
      have t1 := t0.step b1
      have l1 := Rd.one o1.rd
      obtain ⟨x0, x1, x2, x3, x4, x5, x6, x7, rfl⟩ := list8 (Rd.len o1.rd)
      have st0 := sto Tryz.prog (l1 x0 (by simp))
      have st1 := sto Tryz.prog (l1 x1 (by simp))
      have st2 := sto Tryz.prog (l1 x2 (by simp))
      have st3 := sto Tryz.prog (l1 x3 (by simp))
      have st4 := sto Tryz.prog (l1 x4 (by simp))
      have st5 := sto Tryz.prog (l1 x5 (by simp))
      have st6 := sto Tryz.prog (l1 x6 (by simp))
      have st7 := sto Tryz.prog (l1 x7 (by simp))
      have o1 := o1.alloc (.cells #[x0, x1, x2, x3, x4, x5, x6, x7] 30)
      have CX1 := Cells.new w1 [x0, x1, x2, x3, x4, x5, x6, x7] 30
      have t1 := t1.alloc t1.size (.cells #[x0, x1, x2, x3, x4, x5, x6, x7] 30)
      clear l1
      have oR := o1.rd
      obtain ⟨_, _, _, _, _, _, hl, _⟩ := oR
      simp only [List.cons.injEq, and_true] at hl
      obtain ⟨rfl, -⟩ := hl
      obtain ⟨y0, y1, y2, y3, y4, y5, y6, y7⟩ := cells8 CX1
      go_wp2_with (go_at_call 74; refine (implSetOk_calls _ _ _ _ _ (hu.later t1).ints).mono ?_; rintro e w' ⟨he, rfl⟩; rw [hS] at he; subst he)
      go_ret
      exact ⟨ret_bool hv.out.symm, t1⟩
    · by_cases hn : us.length = 0
      · have hv : Hid (isUnfB p xs us = false) := by show _ = _; rw [isUnfB_yes hF, isUnfQ_B hn]
        obtain rfl : us = [] := List.length_eq_zero_iff.1 hn
        clear hn
        go_enter Tryz.func18, Tryz.ntmps18
        go_wp2_with fail
        refine (implFold_calls (Rd.mono t0 h)).mono ?_
        rintro e w1 ⟨cs1, he, o1, b1⟩
        rw [hF] at he
        rw [foldR_yes hF] at o1
        subst he
        have t1 := t0.step b1
        have l1 := Rd.one o1.rd
        obtain ⟨x0, x1, x2, x3, x4, x5, x6, x7, rfl⟩ := list8 (Rd.len o1.rd)
        have st0 := sto Tryz.prog (l1 x0 (by simp))
        have st1 := sto Tryz.prog (l1 x1 (by simp))
        have st2 := sto Tryz.prog (l1 x2 (by simp))
        have st3 := sto Tryz.prog (l1 x3 (by simp))
        have st4 := sto Tryz.prog (l1 x4 (by simp))
        have st5 := sto Tryz.prog (l1 x5 (by simp))
        have st6 := sto Tryz.prog (l1 x6 (by simp))
        have st7 := sto Tryz.prog (l1 x7 (by simp))
        have o1 := o1.alloc (.cells #[x0, x1, x2, x3, x4, x5, x6, x7] 30)
        have CX1 := Cells.new w1 [x0, x1, x2, x3, x4, x5, x6, x7] 30
        have t1 := t1.alloc t1.size (.cells #[x0, x1, x2, x3, x4, x5, x6, x7] 30)
        clear l1
        have oR := o1.rd
        obtain ⟨_, _, _, _, _, _, hl, _⟩ := oR
        simp only [List.cons.injEq, and_true] at hl
        obtain ⟨rfl, -⟩ := hl
        obtain ⟨y0, y1, y2, y3, y4, y5, y6, y7⟩ := cells8 CX1
        go_wp2_with (go_at_call 74; refine (implSetOk_calls _ _ _ _ _ (hu.later t1).ints).mono ?_; rintro e w' ⟨he, rfl⟩; rw [hS] at he; subst he)
        go_ret
        exact ⟨ret_bool hv.out.symm, t1⟩
      · have hv : Hid (isUnfB p xs us = (foldD p).rules.all (noneB xs us)) := by show _ = _; rw [isUnfB_yes hF, isUnfQ_C hS hn]
        have hn' : ¬ (us.length : Int) = 0 := by omega
        have hnb : ((us.length : Int) == 0) = false := by simpa using hn
        have hLE := Lib.hid (lessL_mask xs us)
        have hll := maskOf_lt (lessL xs us)
        have hsl := supM_lt (rs := (foldD p).rules) (xs := lessL xs us) (ys := xs) (foldD p).rules.length
        have hA := Lib.hid (none_all (rs := (foldD p).rules) (xs := xs) (us := us))
        go_enter Tryz.func18, Tryz.ntmps18
        go_wp2_with fail
        refine (implFold_calls (Rd.mono t0 h)).mono ?_
        rintro e w1 ⟨cs1, he, o1, b1⟩
        rw [hF] at he
        rw [foldR_yes hF] at o1
        subst he
        have t1 := t0.step b1
        have l1 := Rd.one o1.rd
        obtain ⟨x0, x1, x2, x3, x4, x5, x6, x7, rfl⟩ := list8 (Rd.len o1.rd)
        have st0 := sto Tryz.prog (l1 x0 (by simp))
        have st1 := sto Tryz.prog (l1 x1 (by simp))
        have st2 := sto Tryz.prog (l1 x2 (by simp))
        have st3 := sto Tryz.prog (l1 x3 (by simp))
        have st4 := sto Tryz.prog (l1 x4 (by simp))
        have st5 := sto Tryz.prog (l1 x5 (by simp))
        have st6 := sto Tryz.prog (l1 x6 (by simp))
        have st7 := sto Tryz.prog (l1 x7 (by simp))
        have o1 := o1.alloc (.cells #[x0, x1, x2, x3, x4, x5, x6, x7] 30)
        have CX1 := Cells.new w1 [x0, x1, x2, x3, x4, x5, x6, x7] 30
        have t1 := t1.alloc t1.size (.cells #[x0, x1, x2, x3, x4, x5, x6, x7] 30)
        clear l1
        have oR := o1.rd
        obtain ⟨_, _, _, _, _, _, hl, _⟩ := oR
        simp only [List.cons.injEq, and_true] at hl
        obtain ⟨rfl, -⟩ := hl
        obtain ⟨y0, y1, y2, y3, y4, y5, y6, y7⟩ := cells8 CX1
        go_wp2_with fail
        refine (implSetOk_calls _ _ _ _ _ (hu.later t1).ints).mono ?_
        rintro e w' ⟨he, rfl⟩
        rw [hS] at he
        subst he
        go_wp2_with fail
        refine (atomsIn_calls _ _ _ _ (hx.later t1).ints).mono ?_
        rintro e w' ⟨rfl, rfl⟩
        go_wp2_with fail
        refine (atomsIn_calls _ _ _ _ (hu.later t1).ints).mono ?_
        rintro e w' ⟨rfl, rfl⟩
        go_wp2
        clear y0 y1 y2 y3 y4 y5 y6 y7
        go_region_held3 (fun w' => w'.cell? ⟨w1.heap.size, 0, none⟩ = some (.int .i64 (foldD p).atoms) ∧ w'.cell? ⟨w1.heap.size, 1, none⟩ = some x1 ∧ w'.cell? ⟨w1.heap.size, 2, none⟩ = some x2 ∧ w'.cell? ⟨w1.heap.size, 3, none⟩ = some x3 ∧ w'.cell? ⟨w1.heap.size, 4, none⟩ = some x4 ∧ w'.cell? ⟨w1.heap.size, 5, none⟩ = some x5 ∧ w'.cell? ⟨w1.heap.size, 6, none⟩ = some x6 ∧ w'.cell? ⟨w1.heap.size, 7, none⟩ = some x7)
          (first | exact cells8 CX1 | exact cells8 CX1.drew | exact cells8 (CX1.drew.later b2))
          (first | (go_at_call 69; refine (lessN_calls _ _ _ hmx hmu).mono ?_; rintro e w' ⟨rfl, rfl⟩; rw [hLE.out]) |
            (go_at_call 75; refine (supportedBy_calls (lessL xs us) xs o1.drew.rd hr12.out).mono ?_; rintro e w2 ⟨rfl, b2⟩) |
            (go_at_call 67; refine (meet_calls _ _ _ hmu hsl).mono ?_; rintro e w' ⟨rfl, rfl⟩))
        go_wp2
        go_ret
        exact ⟨ret_bool (by rw [hv.out, ← hA.out]; first | rfl | (rw [Bool.eq_iff_iff]; simp)), t1.drew.step b2⟩

set_option maxHeartbeats 2000000 in
theorem implUnfounded_calls {cs : List Value} {p : ProgD} {w : World} {v : Value} {xs : List Int} (h : Rd.R w cs p) (gx : RdL w [v] xs) :
    Calls Tryz.prog 15 #[.agg cs.toArray, v] w fun e w' => ∃ u, e = .returned u ∧ OwnI w.heap.size w' u (unfR p xs) ∧ Below w.heap.size w w' := by
  obtain ⟨p0, p1, p2, p3, p4, p5, p6, p7, rfl⟩ := list8 (Rd.len h)
  obtain ⟨ax, cx, rfl, _, hx⟩ := gx.sl
  have t0 : Below w.heap.size w (w.alloc (.cells #[p0, p1, p2, p3, p4, p5, p6, p7] 30)) := (Below.refl _ _).alloc (by simp) _
  have hmx := maskOf_lt xs
  cases hF : foldB p
  · have hv := Lib.hid (unfR_no (xs := xs) hF)
    go_enter Tryz.func15, Tryz.ntmps15
    go_wp2_with fail
    refine (implFold_calls (Rd.mono t0 h)).mono ?_
    rintro e w1 ⟨cs1, he, o1, b1⟩
    rw [hF] at he
    subst he
    have t1 := t0.step b1
    have l1 := Rd.one o1.rd
    obtain ⟨x0, x1, x2, x3, x4, x5, x6, x7, rfl⟩ := list8 (Rd.len o1.rd)
    have st0 := sto Tryz.prog (l1 x0 (by simp))
    have st1 := sto Tryz.prog (l1 x1 (by simp))
    have st2 := sto Tryz.prog (l1 x2 (by simp))
    have st3 := sto Tryz.prog (l1 x3 (by simp))
    have st4 := sto Tryz.prog (l1 x4 (by simp))
    have st5 := sto Tryz.prog (l1 x5 (by simp))
    have st6 := sto Tryz.prog (l1 x6 (by simp))
    have st7 := sto Tryz.prog (l1 x7 (by simp))
    have o1 := o1.alloc (.cells #[x0, x1, x2, x3, x4, x5, x6, x7] 30)
    have CX1 := Cells.new w1 [x0, x1, x2, x3, x4, x5, x6, x7] 30
    have t1 := t1.alloc t1.size (.cells #[x0, x1, x2, x3, x4, x5, x6, x7] 30)
    clear l1
    go_wp2
    go_ret
    exact ⟨_, rfl, by rw [hv.out]; exact OwnI.nil _ _, t1⟩
  · have hv := Lib.hid (unfR_yes (xs := xs) hF)
    have hok : progOkB (foldD p) = true := foldR_ok hF
    have hr12 := Lib.hid (rules12 hok)
    obtain ⟨ha0, ha1⟩ := progOk_atoms hok
    obtain ⟨n, hn⟩ := Int.eq_ofNat_of_zero_le ha0
    have hn12 : n ≤ 12 := by omega
    have hnq : Hid ((foldD p).atoms.toNat = n) := by show _ = _; omega
    have hpn : 2 ^ n - 1 < 4096 := by have := (upTo_pow hn12).2.2; omega
    have hmm : maskOf xs &&& (2 ^ n - 1) < 4096 := Nat.lt_of_le_of_lt Nat.and_le_left hmx
    have HAT := fun w => Lib.hid (atomsUpTo_calls n w hn12)
    have HUM := fun (m : Nat) (L : List Int) (hm : m < 4096) (hl : mset m = L) => Lib.hid (unf_mask (xs := xs) hn12 hm hl)
    obtain ⟨U, hU⟩ : ∃ U : Nat, U = 2 ^ n - 1 := ⟨_, rfl⟩
    rw [← hU] at hpn hmm HAT HUM
    clear hU
    go_enter Tryz.func15, Tryz.ntmps15
    go_wp2_with fail
    refine (implFold_calls (Rd.mono t0 h)).mono ?_
    rintro e w1 ⟨cs1, he, o1, b1⟩
    rw [hF] at he
    rw [foldR_yes hF] at o1
    subst he
    have t1 := t0.step b1
    have l1 := Rd.one o1.rd
    obtain ⟨x0, x1, x2, x3, x4, x5, x6, x7, rfl⟩ := list8 (Rd.len o1.rd)
    have st0 := sto Tryz.prog (l1 x0 (by simp))
    have st1 := sto Tryz.prog (l1 x1 (by simp))
    have st2 := sto Tryz.prog (l1 x2 (by simp))
    have st3 := sto Tryz.prog (l1 x3 (by simp))
    have st4 := sto Tryz.prog (l1 x4 (by simp))
    have st5 := sto Tryz.prog (l1 x5 (by simp))
    have st6 := sto Tryz.prog (l1 x6 (by simp))
    have st7 := sto Tryz.prog (l1 x7 (by simp))
    have o1 := o1.alloc (.cells #[x0, x1, x2, x3, x4, x5, x6, x7] 30)
    have CX1 := Cells.new w1 [x0, x1, x2, x3, x4, x5, x6, x7] 30
    have t1 := t1.alloc t1.size (.cells #[x0, x1, x2, x3, x4, x5, x6, x7] 30)
    clear l1
    have oR := o1.rd
    obtain ⟨_, _, _, _, _, _, hl, _⟩ := oR
    simp only [List.cons.injEq, and_true] at hl
    obtain ⟨rfl, -⟩ := hl
    rw [hn] at o1 CX1 t1 st0
    have CXK := Lib.hid CX1
    go_wp2_with (go_at_call 66; refine (atomsIn_calls _ _ _ _ (hx.later t1).ints).mono ?_; rintro e w' ⟨rfl, rfl⟩)
    clear hn ha0 ha1
    go_region_held3 (fun w' => w'.cell? ⟨w1.heap.size, 0, none⟩ = some (.int .i64 (n : Int)) ∧ w'.cell? ⟨w1.heap.size, 1, none⟩ = some x1 ∧ w'.cell? ⟨w1.heap.size, 2, none⟩ = some x2 ∧ w'.cell? ⟨w1.heap.size, 3, none⟩ = some x3 ∧ w'.cell? ⟨w1.heap.size, 4, none⟩ = some x4 ∧ w'.cell? ⟨w1.heap.size, 5, none⟩ = some x5 ∧ w'.cell? ⟨w1.heap.size, 6, none⟩ = some x6 ∧ w'.cell? ⟨w1.heap.size, 7, none⟩ = some x7)
      (first | exact cells8 CX1 | exact cells8 CX1.drew | exact cells8 (CX1.drew.later b2) | exact cells8 ((CX1.drew.later b2).later b3))
      (first | (go_at_call 68; refine (HAT _).out.mono ?_; rintro e w' ⟨rfl, rfl⟩) |
        (go_at_call 67; refine (meet_calls _ _ _ hmx hpn).mono ?_; rintro e w' ⟨rfl, rfl⟩) |
        (go_at_call 70; refine (baseP_calls xs o1.drew.rd hr12.out).mono ?_; rintro e w2 ⟨m, rfl, ⟨hm, hl⟩, b2⟩) |
        (go_at_call 69; refine (lessN_calls _ _ _ hmm hm).mono ?_; rintro e w' ⟨rfl, rfl⟩) |
        (go_at_call 71; refine (list_calls _ _ (HUM _ _ hm hl).out.1).mono ?_; rintro e w3 ⟨u, rfl, o3, b3⟩))
    go_wp2
    go_ret
    refine ⟨_, rfl, ?_, (t1.drew.step b2).step b3⟩
    have hU := (HUM _ _ hm hl).out.2
    rw [hv.out]
    unfold unfQ
    rw [hnq.out, ← hU]
    exact o3.mono (t1.drew.step b2).size

set_option maxHeartbeats 2000000 in
theorem implBroken_calls {cs : List Value} {p : ProgD} {w : World} {v : Value} {xs : List Int} (h : Rd.R w cs p) (gx : RdL w [v] xs) :
    Calls Tryz.prog 57 #[.agg cs.toArray, v] w fun e w' => ∃ u, e = .returned u ∧ OwnI w.heap.size w' u (brkR p xs) ∧ Below w.heap.size w w' := by
  obtain ⟨p0, p1, p2, p3, p4, p5, p6, p7, rfl⟩ := list8 (Rd.len h)
  obtain ⟨ax, cx, rfl, _, hx⟩ := gx.sl
  have t0 : Below w.heap.size w (w.alloc (.cells #[p0, p1, p2, p3, p4, p5, p6, p7] 30)) := (Below.refl _ _).alloc (by simp) _
  have hmx := maskOf_lt xs
  cases hF : foldB p
  · have hv := Lib.hid (brkR_no (xs := xs) hF)
    go_enter Tryz.func57, Tryz.ntmps57
    go_wp2_with fail
    refine (implFold_calls (Rd.mono t0 h)).mono ?_
    rintro e w1 ⟨cs1, he, o1, b1⟩
    rw [hF] at he
    subst he
    have t1 := t0.step b1
    have l1 := Rd.one o1.rd
    obtain ⟨x0, x1, x2, x3, x4, x5, x6, x7, rfl⟩ := list8 (Rd.len o1.rd)
    have st0 := sto Tryz.prog (l1 x0 (by simp))
    have st1 := sto Tryz.prog (l1 x1 (by simp))
    have st2 := sto Tryz.prog (l1 x2 (by simp))
    have st3 := sto Tryz.prog (l1 x3 (by simp))
    have st4 := sto Tryz.prog (l1 x4 (by simp))
    have st5 := sto Tryz.prog (l1 x5 (by simp))
    have st6 := sto Tryz.prog (l1 x6 (by simp))
    have st7 := sto Tryz.prog (l1 x7 (by simp))
    have o1 := o1.alloc (.cells #[x0, x1, x2, x3, x4, x5, x6, x7] 30)
    have CX1 := Cells.new w1 [x0, x1, x2, x3, x4, x5, x6, x7] 30
    have t1 := t1.alloc t1.size (.cells #[x0, x1, x2, x3, x4, x5, x6, x7] 30)
    clear l1
    go_wp2
    go_ret
    exact ⟨_, rfl, by rw [hv.out]; exact OwnI.nil _ _, t1⟩
  · have hv := Lib.hid (brkR_yes (xs := xs) hF)
    have hok : progOkB (foldD p) = true := foldR_ok hF
    have hr12 := Lib.hid (rules12 hok)
    have hlen := (progOk_rules hok).1
    go_enter Tryz.func57, Tryz.ntmps57
    go_wp2_with fail
    refine (implFold_calls (Rd.mono t0 h)).mono ?_
    rintro e w1 ⟨cs1, he, o1, b1⟩
    rw [hF] at he
    rw [foldR_yes hF] at o1
    subst he
    have t1 := t0.step b1
    have l1 := Rd.one o1.rd
    obtain ⟨x0, x1, x2, x3, x4, x5, x6, x7, rfl⟩ := list8 (Rd.len o1.rd)
    have st0 := sto Tryz.prog (l1 x0 (by simp))
    have st1 := sto Tryz.prog (l1 x1 (by simp))
    have st2 := sto Tryz.prog (l1 x2 (by simp))
    have st3 := sto Tryz.prog (l1 x3 (by simp))
    have st4 := sto Tryz.prog (l1 x4 (by simp))
    have st5 := sto Tryz.prog (l1 x5 (by simp))
    have st6 := sto Tryz.prog (l1 x6 (by simp))
    have st7 := sto Tryz.prog (l1 x7 (by simp))
    have o1 := o1.alloc (.cells #[x0, x1, x2, x3, x4, x5, x6, x7] 30)
    have CX1 := Cells.new w1 [x0, x1, x2, x3, x4, x5, x6, x7] 30
    have t1 := t1.alloc t1.size (.cells #[x0, x1, x2, x3, x4, x5, x6, x7] 30)
    clear l1
    have oR := o1.rd
    obtain ⟨_, _, _, _, _, _, hl, _, g1, _⟩ := oR
    simp only [List.cons.injEq, and_true] at hl
    obtain ⟨-, rfl, -⟩ := hl
    obtain ⟨a1, k1, rfl, _, h1⟩ := g1.sl
    have hm1 := h1.1
    obtain ⟨y0, y1, y2, y3, y4, y5, y6, y7⟩ := cells8 CX1
    generalize hwa : w1.alloc _ = wa at *
    generalize hrs : (foldD p).rules = rs at *
    clear hok g1
    go_wp2_with (go_at_call 66; refine (atomsIn_calls _ _ _ _ (hx.later t1).ints).mono ?_; rintro e w' ⟨rfl, rfl⟩)
    go_loopw [8, 23] (fun s i wr => ∃ k : Nat, k ≤ rs.length ∧ i = .int .i64 k ∧ OwnI wa.heap.size wr s (brkTo rs xs k) ∧ Below wa.heap.size wa wr) (fun _ i _ => rs.length - (intOf i).toNat)
    case atStart => exact ⟨0, Nat.zero_le _, rfl, OwnI.nil _ _, Below.refl _ _⟩
    case round =>
      obtain ⟨k, hk, rfl, ho, hb⟩ := hrel
      have hz := hb.size
      have hbl := brkTo_len rs xs k
      by_cases hlt : k < rs.length
      · obtain ⟨b, off, rfl, hc⟩ := h1.base (by omega)
        obtain ⟨ecs, hC, hR⟩ := hc k hlt
        have hC := hC.later hb
        have hR := Rd.mono hb hR
        have hok12 := hr12.out _ (nth_mem hlt)
        have hR0 := hR
        obtain ⟨d1, d4, rfl, hf', r1, r4⟩ := hR0
        obtain ⟨ah, kh, rfl, _, hh⟩ := r1.sl
        obtain ⟨ab, kb, rfl, _, _⟩ := r4.sl
        have u0 := hC.c0
        have u1 := hC.c1
        have u2 := hC.c2
        have u3 := hC.c3
        have u4 := hC.c4
        rw [show Rd.k RuleD = 5 from rfl] at u0 u1 u2 u3 u4
        have bA := (Below.refl wr.heap.size wr).alloc (Nat.le_refl _) (.cells #[.bool (nth rs k).choice, .slice ah (nth rs k).heads.length kh, .bool (nth rs k).weight, .int .i64 (nth rs k).bound, .slice ab (nth rs k).body.length kb] 58)
        have hbA := hb.step bA
        have hoA := ho.kept bA
        have hR := Rd.mono bA hR
        clear hC hc r1 r4
        cases hRH : ruleHoldsB xs (nth rs k)
        · have hS := Lib.hid (brkTo_no hRH)
          go_wp2_with fail
          refine (brokenBy_calls xs hR hok12).mono ?_
          rintro e w2 ⟨he, b2⟩
          rw [hRH] at he
          subst he
          have hb2 := hbA.step b2
          have ho2 := hoA.kept b2
          have hz2 := hb2.size
          have hF9 := fits_small' (n := (k : Int)) (by omega) (by omega)
          clear hRH
          go_wp2_with (at_builtin; refine wpList_append_int rfl _ _ rfl rfl ho2 rfl (by omega) hF9 (by omega) ?_; intro v' w' ho' hb' hg')
          go_roundw
          case rel => exact ⟨k + 1, by omega, by go_num, by rw [hS.out]; exact ho', hb2.trans hb'⟩
          case measure => simp [intOf]; omega
        · have hS := Lib.hid (brkTo_ok hRH)
          go_wp2_with fail
          refine (brokenBy_calls xs hR hok12).mono ?_
          rintro e w2 ⟨he, b2⟩
          rw [hRH] at he
          subst he
          have hb2 := hbA.step b2
          have ho2 := hoA.kept b2
          clear hRH
          go_wp2
          go_roundw
          case rel => exact ⟨k + 1, by omega, by go_num, by rw [hS.out]; exact ho2, hb2⟩
          case measure => simp [intOf]; omega
      · obtain rfl : k = rs.length := by omega
        go_wp2
        go_ret
        exact ⟨_, rfl, by rw [hv.out]; exact ho.mono t1.size, t1.step hb⟩

end Go.Proofs.YteahbeomlbdlcaaGreat
