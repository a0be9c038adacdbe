/-
  Support, unfounded sets, what is broken, a model: what the program answers. No condition of its own.
-/
import Derived.Test.YthfbnalgnnjbbaaGreatAnsI
import Derived.Test.YthfbnalgnnjbbaaGreatSeq
import Derived.Test.YthfbnalgnnjbbaaGreatUnf
import Derived.Test.YthfbnalgnnjbbaaGreatCg
import Derived.Deep.RegionHeld3
import Derived.Deep.DeepCutAuto
import Derived.Test.YthfbnalgnnjbbaaGreatModel
import Derived.Test.YthfbnalgnnjbbaaGreatBody
import Derived.Test.YthfbnalgnnjbbaaGreatSetsPure
namespace Go.Proofs.YthfbnalgnnjbbaaGreat
set_option linter.unusedVariables false
set_option linter.unusedSimpArgs false
open Go.RowKit
set_option maxRecDepth 100000

/-! ### SupI -/

theorem lessN_calls (a b : Nat) (w : World) (ha : a < 4096) (hb : b < 4096) :
    Calls Tryz.prog 82 #[.int .u16 (a : Int), .int .u16 (b : Int)] w fun e w' => e = .returned (.int .u16 ((a &&& (65535 - b) : Nat) : Int)) ∧ w = w' := by
  have hlaw := andNot_u16 a b ha hb
  go_enter Tryz.func82, Tryz.ntmps82
  go_wp2
  go_ret
  exact ⟨rfl, rfl⟩

theorem upTo_pow {n : Nat} (hn : n ≤ 12) : ((2 : Int) ^ n) = ((2 ^ n : Nat) : Int) ∧ 1 ≤ 2 ^ n ∧ 2 ^ n ≤ 4096 := by
  have h1 : 2 ^ n ≤ 2 ^ 12 := Nat.pow_le_pow_right (by omega) hn
  have h2 : 0 < 2 ^ n := Nat.two_pow_pos n
  exact ⟨by simp, h2, h1⟩
theorem atomsUpTo_calls (n : Nat) (w : World) (hn : n ≤ 12) :
    Calls Tryz.prog 155 #[.int .i64 (n : Int)] w fun e w' => e = .returned (.int .u16 ((2 ^ n - 1 : Nat) : Int)) ∧ w = w' := by
  obtain ⟨hp, h1, h2⟩ := upTo_pow hn
  obtain ⟨P, hP⟩ : ∃ P : Nat, P = 2 ^ n := ⟨_, rfl⟩
  rw [← hP] at hp h1 h2
  have hv : Hid (2 ^ n = P) := hP.symm
  clear hP
  go_enter Tryz.func155, Tryz.ntmps155
  go_wp2
  go_ret
  refine ⟨ret_int ?_, rfl⟩
  rw [hv.out]
  first | omega | (unfold IntKind.wrap; simp; omega) | skip


set_option maxHeartbeats 2000000 in
theorem supportedBy_calls {cs : List Value} {p : ProgD} {w : World} (xs ys : List Int) (h : Rd.R w cs p) (hok : ∀ r ∈ p.rules, ruleOkB r 12 = true) :
    Calls Tryz.prog 81 #[.agg cs.toArray, .int .u16 (maskOf xs : Int), .int .u16 (maskOf ys : Int)] w fun e w' => e = .returned (.int .u16 (supM p.rules xs ys p.rules.length : Int)) ∧ Below w.heap.size w w' := by
  have h0 := h
  obtain ⟨c1, c2, c4, c5, c6, c7, rfl, hf, g1, g2, g4, g5, g6, g7⟩ := h0
  obtain ⟨a1, k1, rfl, _, h1⟩ := g1.sl
  have hm1 := h1.1
  have tb : Below w.heap.size w (w.alloc (.cells #[.int .i64 p.atoms, .slice a1 p.rules.length k1, c2, .bool p.projOn, c4, c5, c6, c7] 30)) := (Below.refl _ _).alloc (Nat.le_refl _) _
  clear g1 g2 g4 g5 g6 g7 hf
  have HOK := Lib.hid hok
  have hmx := maskOf_lt xs
  have hmy := maskOf_lt ys
  clear hok
  go_enter Tryz.func81, Tryz.ntmps81
  go_wp2_with fail
  have t1 := tb
  clear tb
  go_loopw [7, 13] (fun s i wr => ∃ k : Nat, k ≤ p.rules.length ∧ i = .int .i64 k ∧ s = .int .u16 (supM p.rules xs ys k : Int) ∧ Below w.heap.size w wr) (fun _ i _ => p.rules.length - (intOf i).toNat)
  case atStart => exact ⟨0, Nat.zero_le _, rfl, rfl, t1⟩
  case round =>
    obtain ⟨k, hk, rfl, rfl, hb⟩ := hrel
    clear t1
    have hsl := supM_lt (rs := p.rules) (xs := xs) (ys := ys) k
    by_cases hlt : k < p.rules.length
    · obtain ⟨b, off, rfl, hc⟩ := h1.base (by omega)
      obtain ⟨ecs, hC, hR⟩ := hc k hlt
      have hC := hC.later hb
      have hR := Rd.mono hb hR
      have hok12 := HOK.out _ (nth_mem hlt)
      have hR0 := hR
      obtain ⟨d1, d4, rfl, hf', r1, r4⟩ := hR0
      obtain ⟨ah, kh, rfl, _, hh⟩ := r1.sl
      obtain ⟨ab, kb, rfl, _, _⟩ := r4.sl
      have u0 := hC.c0
      have u1 := hC.c1
      have u2 := hC.c2
      have u3 := hC.c3
      have u4 := hC.c4
      rw [show Rd.k RuleD = 5 from rfl] at u0 u1 u2 u3 u4
      have hbA := hb.alloc hb.size (.cells #[.bool (nth p.rules k).choice, .slice ah (nth p.rules k).heads.length kh, .bool (nth p.rules k).weight, .int .i64 (nth p.rules k).bound, .slice ab (nth p.rules k).body.length kb] 52)
      have hCL := Lib.hid (Cells.new wr [.bool (nth p.rules k).choice, .slice ah (nth p.rules k).heads.length kh, .bool (nth p.rules k).weight, .int .i64 (nth p.rules k).bound, .slice ab (nth p.rules k).body.length kb] 52)
      have bA := (Below.refl wr.heap.size wr).alloc (Nat.le_refl _) (.cells #[.bool (nth p.rules k).choice, .slice ah (nth p.rules k).heads.length kh, .bool (nth p.rules k).weight, .int .i64 (nth p.rules k).bound, .slice ab (nth p.rules k).body.length kb] 52)
      have hR := Rd.mono bA hR
      have hh := hh.later bA
      have hfr := rd_rule hR
      have hml2 := maskOf_lt (nth p.rules k).heads
      clear hC hc r1 r4
      cases hB : reachB (nth p.rules k) (h2B xs ys)
      · have hS' : Hid (Value.int .u16 (supM p.rules xs ys k : Int) = .int .u16 (supM p.rules xs ys (k + 1) : Int)) := by show _ = _; rw [supM_no hB]
        go_wp2_with fail
        refine (implReach2_calls _ _ hmx hmy hR hok12).mono ?_
        rintro e w2 ⟨he, b2⟩
        rw [reachI_h2 hok12 hfr, hB] at he
        subst he
        have hb2 := hbA.step b2
        clear hB
        go_wp2
        go_roundw
        case rel => exact ⟨k + 1, by omega, by go_num, hS'.out, hb2⟩
        case measure => simp [intOf]; omega
      · have hS' : Hid (Value.int .u16 ((supM p.rules xs ys k ||| maskOf (nth p.rules k).heads : Nat) : Int) = .int .u16 (supM p.rules xs ys (k + 1) : Int)) := by show _ = _; rw [supM_yes hB]
        go_wp2_with fail
        refine (implReach2_calls _ _ hmx hmy hR hok12).mono ?_
        rintro e w2 ⟨he, b2⟩
        rw [reachI_h2 hok12 hfr, hB] at he
        subst he
        have hb2 := hbA.step b2
        obtain ⟨z0, z1, z2, z3, z4⟩ := cells5 (hCL.out.later b2)
        clear hB
        go_wp2_with (first | (go_at_call 75; refine (atomsIn_calls _ _ _ _ (hh.later b2).ints).mono ?_; rintro e w' ⟨rfl, rfl⟩) | (go_at_call 169; refine (joinN_calls _ _ _ hsl hml2).mono ?_; rintro e w' ⟨rfl, rfl⟩))
        go_roundw
        case rel => exact ⟨k + 1, by omega, by go_num, hS'.out, hb2⟩
        case measure => simp [intOf]; omega
    · obtain rfl : k = p.rules.length := by omega
      go_wp2
      go_ret
      exact ⟨rfl, hb⟩


set_option maxHeartbeats 1000000 in
theorem implIsUnfounded_calls {cs : List Value} {p : ProgD} {w : World} {v v2 : Value} {xs us : List Int} (h : Rd.R w cs p) (gx : RdL w [v] xs) (gu : RdL w [v2] us) :
    Calls Tryz.prog 20 #[.agg cs.toArray, v, v2] w fun e w' => e = .returned (.bool (isUnfB p xs us)) ∧ Below w.heap.size w w' := by
  obtain ⟨p0, p1, p2, p3, p4, p5, p6, p7, rfl⟩ := list8 (Rd.len h)
  obtain ⟨ax, cx, rfl, _, hx⟩ := gx.sl
  have t0 : Below w.heap.size w (w.alloc (.cells #[p0, p1, p2, p3, p4, p5, p6, p7] 30)) := (Below.refl _ _).alloc (by simp) _
  obtain ⟨au, cu, rfl, _, hu⟩ := gu.sl
  have hmu0 := hu.1
  have hmx := maskOf_lt xs
  have hmu := maskOf_lt us
  cases hF : foldB p
  · have hv := Lib.hid (isUnfB_no (xs := xs) (us := us) hF)
    go_enter Tryz.func20, Tryz.ntmps20
    go_wp2_with fail
    refine (implFold_calls (Rd.mono t0 h)).mono ?_
    rintro e w1 ⟨cs1, he, o1, b1⟩
    rw [hF] at he
    subst he
    have t1 := t0.step b1
    have l1 := Rd.one o1.rd
    obtain ⟨x0, x1, x2, x3, x4, x5, x6, x7, rfl⟩ := list8 (Rd.len o1.rd)
    have st0 := sto Tryz.prog (l1 x0 (by simp))
    have st1 := sto Tryz.prog (l1 x1 (by simp))
    have st2 := sto Tryz.prog (l1 x2 (by simp))
    have st3 := sto Tryz.prog (l1 x3 (by simp))
    have st4 := sto Tryz.prog (l1 x4 (by simp))
    have st5 := sto Tryz.prog (l1 x5 (by simp))
    have st6 := sto Tryz.prog (l1 x6 (by simp))
    have st7 := sto Tryz.prog (l1 x7 (by simp))
    have o1 := o1.alloc (.cells #[x0, x1, x2, x3, x4, x5, x6, x7] 30)
    have CX1 := Cells.new w1 [x0, x1, x2, x3, x4, x5, x6, x7] 30
    have t1 := t1.alloc t1.size (.cells #[x0, x1, x2, x3, x4, x5, x6, x7] 30)
    clear l1
    go_wp2
    go_ret
    exact ⟨ret_bool hv.out.symm, t1⟩
  · have hok : progOkB (foldD p) = true := foldR_ok hF
    have hr12 := Lib.hid (rules12 hok)
    cases hS : setOkB us (foldD p).atoms
    · have hv : Hid (isUnfB p xs us = false) := by show _ = _; rw [isUnfB_yes hF, isUnfQ_A hS]
      go_enter Tryz.func20, Tryz.ntmps20
      go_wp2_with fail
      refine (implFold_calls (Rd.mono t0 h)).mono ?_
      rintro e w1 ⟨cs1, he, o1, b1⟩
      rw [hF] at he
      rw [foldR_yes hF] at o1
      subst he
      have t1 := t0.step b1
      have l1 := Rd.one o1.rd
      obtain ⟨x0, x1, x2, x3, x4, x5, x6, x7, rfl⟩ := list8 (Rd.len o1.rd)
      have st0 := sto Tryz.prog (l1 x0 (by simp))
      have st1 := sto Tryz.prog (l1 x1 (by simp))
      have st2 := sto Tryz.prog (l1 x2 (by simp))
      have st3 := sto Tryz.prog (l1 x3 (by simp))
      have st4 := sto Tryz.prog (l1 x4 (by simp))
      have st5 := sto Tryz.prog (l1 x5 (by simp))
      have st6 := sto Tryz.prog (l1 x6 (by simp))
      have st7 := sto Tryz.prog (l1 x7 (by simp))
      have o1 := o1.alloc (.cells #[x0, x1, x2, x3, x4, x5, x6, x7] 30)
      have CX1 := Cells.new w1 [x0, x1, x2, x3, x4, x5, x6, x7] 30
      have t1 := t1.alloc t1.size (.cells #[x0, x1, x2, x3, x4, x5, x6, x7] 30)
      clear l1
      have oR := o1.rd
      obtain ⟨_, _, _, _, _, _, hl, _⟩ := oR
      simp only [List.cons.injEq, and_true] at hl
      obtain ⟨rfl, -⟩ := hl
      obtain ⟨y0, y1, y2, y3, y4, y5, y6, y7⟩ := cells8 CX1
      go_wp2_with (go_at_call 79; refine (implSetOk_calls _ _ _ _ _ (hu.later t1).ints).mono ?_; rintro e w' ⟨he, rfl⟩; rw [hS] at he; subst he)
      go_ret
      exact ⟨ret_bool hv.out.symm, t1⟩
    · by_cases hn : us.length = 0
      · have hv : Hid (isUnfB p xs us = false) := by show _ = _; rw [isUnfB_yes hF, isUnfQ_B hn]
        obtain rfl : us = [] := List.length_eq_zero_iff.1 hn
        clear hn
        go_enter Tryz.func20, Tryz.ntmps20
        go_wp2_with fail
        refine (implFold_calls (Rd.mono t0 h)).mono ?_
        rintro e w1 ⟨cs1, he, o1, b1⟩
        rw [hF] at he
        rw [foldR_yes hF] at o1
        subst he
        have t1 := t0.step b1
        have l1 := Rd.one o1.rd
        obtain ⟨x0, x1, x2, x3, x4, x5, x6, x7, rfl⟩ := list8 (Rd.len o1.rd)
        have st0 := sto Tryz.prog (l1 x0 (by simp))
        have st1 := sto Tryz.prog (l1 x1 (by simp))
        have st2 := sto Tryz.prog (l1 x2 (by simp))
        have st3 := sto Tryz.prog (l1 x3 (by simp))
        have st4 := sto Tryz.prog (l1 x4 (by simp))
        have st5 := sto Tryz.prog (l1 x5 (by simp))
        have st6 := sto Tryz.prog (l1 x6 (by simp))
        have st7 := sto Tryz.prog (l1 x7 (by simp))
        have o1 := o1.alloc (.cells #[x0, x1, x2, x3, x4, x5, x6, x7] 30)
        have CX1 := Cells.new w1 [x0, x1, x2, x3, x4, x5, x6, x7] 30
        have t1 := t1.alloc t1.size (.cells #[x0, x1, x2, x3, x4, x5, x6, x7] 30)
        clear l1
        have oR := o1.rd
        obtain ⟨_, _, _, _, _, _, hl, _⟩ := oR
        simp only [List.cons.injEq, and_true] at hl
        obtain ⟨rfl, -⟩ := hl
        obtain ⟨y0, y1, y2, y3, y4, y5, y6, y7⟩ := cells8 CX1
        go_wp2_with (go_at_call 79; refine (implSetOk_calls _ _ _ _ _ (hu.later t1).ints).mono ?_; rintro e w' ⟨he, rfl⟩; rw [hS] at he; subst he)
        go_ret
        exact ⟨ret_bool hv.out.symm, t1⟩
      · have hv : Hid (isUnfB p xs us = (foldD p).rules.all (noneB xs us)) := by show _ = _; rw [isUnfB_yes hF, isUnfQ_C hS hn]
        have hn' : ¬ (us.length : Int) = 0 := by omega
        have hnb : ((us.length : Int) == 0) = false := by simpa using hn
        have hLE := Lib.hid (lessL_mask xs us)
        have hll := maskOf_lt (lessL xs us)
        have hsl := supM_lt (rs := (foldD p).rules) (xs := lessL xs us) (ys := xs) (foldD p).rules.length
        have hA := Lib.hid (none_all (rs := (foldD p).rules) (xs := xs) (us := us))
        go_enter Tryz.func20, Tryz.ntmps20
        go_wp2_with fail
        refine (implFold_calls (Rd.mono t0 h)).mono ?_
        rintro e w1 ⟨cs1, he, o1, b1⟩
        rw [hF] at he
        rw [foldR_yes hF] at o1
        subst he
        have t1 := t0.step b1
        have l1 := Rd.one o1.rd
        obtain ⟨x0, x1, x2, x3, x4, x5, x6, x7, rfl⟩ := list8 (Rd.len o1.rd)
        have st0 := sto Tryz.prog (l1 x0 (by simp))
        have st1 := sto Tryz.prog (l1 x1 (by simp))
        have st2 := sto Tryz.prog (l1 x2 (by simp))
        have st3 := sto Tryz.prog (l1 x3 (by simp))
        have st4 := sto Tryz.prog (l1 x4 (by simp))
        have st5 := sto Tryz.prog (l1 x5 (by simp))
        have st6 := sto Tryz.prog (l1 x6 (by simp))
        have st7 := sto Tryz.prog (l1 x7 (by simp))
        have o1 := o1.alloc (.cells #[x0, x1, x2, x3, x4, x5, x6, x7] 30)
        have CX1 := Cells.new w1 [x0, x1, x2, x3, x4, x5, x6, x7] 30
        have t1 := t1.alloc t1.size (.cells #[x0, x1, x2, x3, x4, x5, x6, x7] 30)
        clear l1
        have oR := o1.rd
        obtain ⟨_, _, _, _, _, _, hl, _⟩ := oR
        simp only [List.cons.injEq, and_true] at hl
        obtain ⟨rfl, -⟩ := hl
        obtain ⟨y0, y1, y2, y3, y4, y5, y6, y7⟩ := cells8 CX1
        go_wp2_with fail
        refine (implSetOk_calls _ _ _ _ _ (hu.later t1).ints).mono ?_
        rintro e w' ⟨he, rfl⟩
        rw [hS] at he
        subst he
        go_wp2_with fail
        refine (atomsIn_calls _ _ _ _ (hx.later t1).ints).mono ?_
        rintro e w' ⟨rfl, rfl⟩
        go_wp2_with fail
        refine (atomsIn_calls _ _ _ _ (hu.later t1).ints).mono ?_
        rintro e w' ⟨rfl, rfl⟩
        go_wp2
        clear y0 y1 y2 y3 y4 y5 y6 y7
        go_region_held3 (fun w' => w'.cell? ⟨w1.heap.size, 0, none⟩ = some (.int .i64 (foldD p).atoms) ∧ w'.cell? ⟨w1.heap.size, 1, none⟩ = some x1 ∧ w'.cell? ⟨w1.heap.size, 2, none⟩ = some x2 ∧ w'.cell? ⟨w1.heap.size, 3, none⟩ = some x3 ∧ w'.cell? ⟨w1.heap.size, 4, none⟩ = some x4 ∧ w'.cell? ⟨w1.heap.size, 5, none⟩ = some x5 ∧ w'.cell? ⟨w1.heap.size, 6, none⟩ = some x6 ∧ w'.cell? ⟨w1.heap.size, 7, none⟩ = some x7)
          (first | exact cells8 CX1 | exact cells8 CX1.drew | exact cells8 (CX1.drew.later b2))
          (first | (go_at_call 82; refine (lessN_calls _ _ _ hmx hmu).mono ?_; rintro e w' ⟨rfl, rfl⟩; rw [hLE.out]) |
            (go_at_call 81; refine (supportedBy_calls (lessL xs us) xs o1.drew.rd hr12.out).mono ?_; rintro e w2 ⟨rfl, b2⟩) |
            (go_at_call 80; refine (meet_calls _ _ _ hmu hsl).mono ?_; rintro e w' ⟨rfl, rfl⟩))
        go_wp2
        go_ret
        exact ⟨ret_bool (by rw [hv.out, ← hA.out]; first | rfl | (rw [Bool.eq_iff_iff]; simp)), t1.drew.step b2⟩


/-! ### UnfI -/
set_option maxHeartbeats 2000000 in
theorem unfP_calls {cs : List Value} {q : ProgD} {w : World} (xs : List Int) (h : Rd.R w cs q) (hok : progOkB q = true) :
    Calls Tryz.prog 74 #[.agg cs.toArray, .int .u16 (maskOf xs : Int)] w fun e w' => ∃ m : Nat, e = .returned (.int .u16 (m : Int)) ∧ (m < 4096 ∧ mset m = unfQ q xs) ∧ Below w.heap.size w w' := by
  have hmx := maskOf_lt xs
  have hr12 := Lib.hid (rules12 hok)
  obtain ⟨ha0, ha1⟩ := progOk_atoms hok
  obtain ⟨n, hn⟩ := Int.eq_ofNat_of_zero_le ha0
  have hn12 : n ≤ 12 := by omega
  have hnq : Hid (q.atoms.toNat = n) := by show _ = _; omega
  have hpn : 2 ^ n - 1 < 4096 := by have := (upTo_pow hn12).2.2; omega
  have hmm : maskOf xs &&& (2 ^ n - 1) < 4096 := Nat.lt_of_le_of_lt Nat.and_le_left hmx
  have HAT := fun w => Lib.hid (atomsUpTo_calls n w hn12)
  have HUM := fun (m : Nat) (L : List Int) (hm : m < 4096) (hl : mset m = L) => Lib.hid (unf_mask (xs := xs) hn12 hm hl)
  obtain ⟨U, hU⟩ : ∃ U : Nat, U = 2 ^ n - 1 := ⟨_, rfl⟩
  rw [← hU] at hpn hmm HAT HUM
  clear hU
  obtain ⟨x0, x1, x2, x3, x4, x5, x6, x7, rfl⟩ := list8 (Rd.len h)
  have oR := h
  obtain ⟨_, _, _, _, _, _, hl, _⟩ := oR
  simp only [List.cons.injEq, and_true] at hl
  obtain ⟨rfl, -⟩ := hl
  rw [hn] at h
  rw [hn]
  have t1 := (Below.refl w.heap.size w).alloc (Nat.le_refl _) (.cells #[.int .i64 (n : Int), x1, x2, x3, x4, x5, x6, x7] 30)
  have CX1 := Cells.new w [.int .i64 (n : Int), x1, x2, x3, x4, x5, x6, x7] 30
  clear hn ha0 ha1
  go_enter Tryz.func74, Tryz.ntmps74
  go_wp2_with fail
  go_region_held3 (fun w' => w'.cell? ⟨w.heap.size, 0, none⟩ = some (.int .i64 (n : Int)) ∧ w'.cell? ⟨w.heap.size, 1, none⟩ = some x1 ∧ w'.cell? ⟨w.heap.size, 2, none⟩ = some x2 ∧ w'.cell? ⟨w.heap.size, 3, none⟩ = some x3 ∧ w'.cell? ⟨w.heap.size, 4, none⟩ = some x4 ∧ w'.cell? ⟨w.heap.size, 5, none⟩ = some x5 ∧ w'.cell? ⟨w.heap.size, 6, none⟩ = some x6 ∧ w'.cell? ⟨w.heap.size, 7, none⟩ = some x7)
    (first | exact cells8 CX1 | exact cells8 CX1.drew | exact cells8 (CX1.drew.later b2))
    (first | (go_at_call 155; refine (HAT _).out.mono ?_; rintro e w' ⟨rfl, rfl⟩) |
      (go_at_call 80; refine (meet_calls _ _ _ hmx hpn).mono ?_; rintro e w' ⟨rfl, rfl⟩) |
      (go_at_call 163; refine (baseP_calls xs (Rd.mono t1.drew h) hr12.out).mono ?_; rintro e w2 ⟨m, rfl, ⟨hm, hl⟩, b2⟩) |
      (go_at_call 82; refine (lessN_calls _ _ _ hmm hm).mono ?_; rintro e w' ⟨rfl, rfl⟩))
  go_wp2
  go_ret
  have hU := (HUM _ _ hm hl).out
  exact ⟨_, rfl, ⟨hU.1, by rw [hU.2]; unfold unfQ; rw [hnq.out]⟩, t1.drew.step b2⟩

set_option maxHeartbeats 2000000 in
theorem brokenP_calls {cs : List Value} {q : ProgD} {w : World} (xs : List Int) (h : Rd.R w cs q) (hok : progOkB q = true) :
    Calls Tryz.prog 182 #[.agg cs.toArray, .int .u16 (maskOf xs : Int)] w fun e w' => ∃ u, e = .returned u ∧ OwnI w.heap.size w' u (brkTo q.rules xs q.rules.length) ∧ Below w.heap.size w w' := by
  have hmx := maskOf_lt xs
  have hr12 := Lib.hid (rules12 hok)
  have hlen := (progOk_rules hok).1
  obtain ⟨x0, x1, x2, x3, x4, x5, x6, x7, rfl⟩ := list8 (Rd.len h)
  have oR := h
  obtain ⟨_, _, _, _, _, _, hl, _, g1, _⟩ := oR
  simp only [List.cons.injEq, and_true] at hl
  obtain ⟨-, rfl, -⟩ := hl
  obtain ⟨a1, k1, rfl, _, h1⟩ := g1.sl
  have t1 := (Below.refl w.heap.size w).alloc (Nat.le_refl _) (.cells #[x0, .slice a1 q.rules.length k1, x2, x3, x4, x5, x6, x7] 30)
  have CX1 := Cells.new w [x0, .slice a1 q.rules.length k1, x2, x3, x4, x5, x6, x7] 30
  have h1 := h1.later t1
  have hm1 := h1.1
  obtain ⟨y0, y1, y2, y3, y4, y5, y6, y7⟩ := cells8 CX1
  go_enter Tryz.func182, Tryz.ntmps182
  generalize hwa : w.alloc _ = wa at *
  generalize hrs : q.rules = rs at *
  clear hok g1
  go_wp2
  go_loopw [5, 11] (fun s i wr => ∃ k : Nat, k ≤ rs.length ∧ i = .int .i64 k ∧ OwnI wa.heap.size wr s (brkTo rs xs k) ∧ Below wa.heap.size wa wr) (fun _ i _ => rs.length - (intOf i).toNat)
  case atStart => exact ⟨0, Nat.zero_le _, rfl, OwnI.nil _ _, by first | exact Below.refl _ _ | (rw [hwa]; exact Below.refl _ _)⟩
  case round =>
    obtain ⟨k, hk, rfl, ho, hb⟩ := hrel
    have hz := hb.size
    have hbl := brkTo_len rs xs k
    by_cases hlt : k < rs.length
    · obtain ⟨b, off, rfl, hc⟩ := h1.base (by omega)
      obtain ⟨ecs, hC, hR⟩ := hc k hlt
      have hC := hC.later hb
      have hR := Rd.mono hb hR
      have hok12 := hr12.out _ (nth_mem hlt)
      have hR0 := hR
      obtain ⟨d1, d4, rfl, hf', r1, r4⟩ := hR0
      obtain ⟨ah, kh, rfl, _, hh⟩ := r1.sl
      obtain ⟨ab, kb, rfl, _, _⟩ := r4.sl
      have u0 := hC.c0
      have u1 := hC.c1
      have u2 := hC.c2
      have u3 := hC.c3
      have u4 := hC.c4
      rw [show Rd.k RuleD = 5 from rfl] at u0 u1 u2 u3 u4
      have bA := (Below.refl wr.heap.size wr).alloc (Nat.le_refl _) (.cells #[.bool (nth rs k).choice, .slice ah (nth rs k).heads.length kh, .bool (nth rs k).weight, .int .i64 (nth rs k).bound, .slice ab (nth rs k).body.length kb] 52)
      have hbA := hb.step bA
      have hoA := ho.kept bA
      have hR := Rd.mono bA hR
      clear hC hc r1 r4
      cases hRH : ruleHoldsB xs (nth rs k)
      · have hS := Lib.hid (brkTo_no hRH)
        go_wp2_with fail
        refine (brokenBy_calls xs hR hok12).mono ?_
        rintro e w2 ⟨he, b2⟩
        rw [hRH] at he
        subst he
        have hb2 := hbA.step b2
        have ho2 := hoA.kept b2
        have hz2 := hb2.size
        have hF9 := fits_small' (n := (k : Int)) (by omega) (by omega)
        clear hRH
        go_wp2_with (at_builtin; refine wpList_append_int rfl _ _ rfl rfl ho2 rfl (by omega) hF9 (by omega) ?_; intro v' w' ho' hb' hg')
        go_roundw
        case rel => exact ⟨k + 1, by omega, by go_num, by rw [hS.out]; exact ho', hb2.trans hb'⟩
        case measure => simp [intOf]; omega
      · have hS := Lib.hid (brkTo_ok hRH)
        go_wp2_with fail
        refine (brokenBy_calls xs hR hok12).mono ?_
        rintro e w2 ⟨he, b2⟩
        rw [hRH] at he
        subst he
        have hb2 := hbA.step b2
        have ho2 := hoA.kept b2
        clear hRH
        go_wp2
        go_roundw
        case rel => exact ⟨k + 1, by omega, by go_num, by rw [hS.out]; exact ho2, hb2⟩
        case measure => simp [intOf]; omega
    · obtain rfl : k = rs.length := by omega
      go_wp2
      go_ret
      exact ⟨_, rfl, ho.mono t1.size, t1.step hb⟩


set_option maxHeartbeats 2000000 in
theorem implUnfounded_calls {cs : List Value} {p : ProgD} {w : World} {v : Value} {xs : List Int} (h : Rd.R w cs p) (gx : RdL w [v] xs) :
    Calls Tryz.prog 17 #[.agg cs.toArray, v] w fun e w' => ∃ u, e = .returned u ∧ OwnI w.heap.size w' u (unfR p xs) ∧ Below w.heap.size w w' := by
  obtain ⟨p0, p1, p2, p3, p4, p5, p6, p7, rfl⟩ := list8 (Rd.len h)
  obtain ⟨ax, cx, rfl, _, hx⟩ := gx.sl
  have t0 : Below w.heap.size w (w.alloc (.cells #[p0, p1, p2, p3, p4, p5, p6, p7] 30)) := (Below.refl _ _).alloc (by simp) _
  have hmx := maskOf_lt xs
  cases hF : foldB p
  · have hv := Lib.hid (unfR_no (xs := xs) hF)
    go_enter Tryz.func17, Tryz.ntmps17
    go_wp2_with fail
    refine (implFold_calls (Rd.mono t0 h)).mono ?_
    rintro e w1 ⟨cs1, he, o1, b1⟩
    rw [hF] at he
    subst he
    have t1 := t0.step b1
    have l1 := Rd.one o1.rd
    obtain ⟨x0, x1, x2, x3, x4, x5, x6, x7, rfl⟩ := list8 (Rd.len o1.rd)
    have st0 := sto Tryz.prog (l1 x0 (by simp))
    have st1 := sto Tryz.prog (l1 x1 (by simp))
    have st2 := sto Tryz.prog (l1 x2 (by simp))
    have st3 := sto Tryz.prog (l1 x3 (by simp))
    have st4 := sto Tryz.prog (l1 x4 (by simp))
    have st5 := sto Tryz.prog (l1 x5 (by simp))
    have st6 := sto Tryz.prog (l1 x6 (by simp))
    have st7 := sto Tryz.prog (l1 x7 (by simp))
    have o1 := o1.alloc (.cells #[x0, x1, x2, x3, x4, x5, x6, x7] 30)
    have CX1 := Cells.new w1 [x0, x1, x2, x3, x4, x5, x6, x7] 30
    have t1 := t1.alloc t1.size (.cells #[x0, x1, x2, x3, x4, x5, x6, x7] 30)
    clear l1
    go_wp2
    go_ret
    exact ⟨_, rfl, by rw [hv.out]; exact OwnI.nil _ _, t1⟩
  · have hv := Lib.hid (unfR_yes (xs := xs) hF)
    have hok : progOkB (foldD p) = true := foldR_ok hF
    go_enter Tryz.func17, Tryz.ntmps17
    go_wp2_with fail
    refine (implFold_calls (Rd.mono t0 h)).mono ?_
    rintro e w1 ⟨cs1, he, o1, b1⟩
    rw [hF] at he
    rw [foldR_yes hF] at o1
    subst he
    have t1 := t0.step b1
    have l1 := Rd.one o1.rd
    obtain ⟨x0, x1, x2, x3, x4, x5, x6, x7, rfl⟩ := list8 (Rd.len o1.rd)
    have st0 := sto Tryz.prog (l1 x0 (by simp))
    have st1 := sto Tryz.prog (l1 x1 (by simp))
    have st2 := sto Tryz.prog (l1 x2 (by simp))
    have st3 := sto Tryz.prog (l1 x3 (by simp))
    have st4 := sto Tryz.prog (l1 x4 (by simp))
    have st5 := sto Tryz.prog (l1 x5 (by simp))
    have st6 := sto Tryz.prog (l1 x6 (by simp))
    have st7 := sto Tryz.prog (l1 x7 (by simp))
    have o1 := o1.alloc (.cells #[x0, x1, x2, x3, x4, x5, x6, x7] 30)
    have CX1 := Cells.new w1 [x0, x1, x2, x3, x4, x5, x6, x7] 30
    have t1 := t1.alloc t1.size (.cells #[x0, x1, x2, x3, x4, x5, x6, x7] 30)
    clear l1
    go_upto_region 4 with fail
    have CX := CX1.drew
    have t1 := t1.drew
    have o1 := o1.drew
    refine wp_region_held_drew (S := fun W' => W'.cell? ⟨w1.heap.size, 0, none⟩ = some x0 ∧ W'.cell? ⟨w1.heap.size, 1, none⟩ = some x1 ∧ W'.cell? ⟨w1.heap.size, 2, none⟩ = some x2 ∧ W'.cell? ⟨w1.heap.size, 3, none⟩ = some x3 ∧ W'.cell? ⟨w1.heap.size, 4, none⟩ = some x4 ∧ W'.cell? ⟨w1.heap.size, 5, none⟩ = some x5 ∧ W'.cell? ⟨w1.heap.size, 6, none⟩ = some x6 ∧ W'.cell? ⟨w1.heap.size, 7, none⟩ = some x7) (by kernel_rfl) (cells8 CX) (fun hHeld => ?_)
    refine takeD (i := 0) (v := .agg #[x0, x1, x2, x3, x4, x5, x6, x7]) (some 14) rfl rfl (by kernel_rfl) (by kernel_rfl) (by kernel_rfl) (fun _ _ _ h => h) (Or.inl ⟨by rfl, fun w' hw' => ?_⟩) hHeld ?_
    · first | (go_simp; done) | (obtain ⟨s0, s1, s2, s3, s4, s5, s6, s7⟩ := hw'; go_simp; done)
    try simp only [Act.put, List.setIfInBounds_toArray, List.set_cons_zero, List.set_cons_succ]
    refine takeD (i := 1) (v := .slice ax xs.length cx) (some 15) rfl rfl (by kernel_rfl) (by kernel_rfl) (by kernel_rfl) (fun _ _ _ h => h) (Or.inl ⟨by rfl, fun w' hw' => ?_⟩) hHeld ?_
    · first | (go_simp; done) | (obtain ⟨s0, s1, s2, s3, s4, s5, s6, s7⟩ := hw'; go_simp; done)
    try simp only [Act.put, List.setIfInBounds_toArray, List.set_cons_zero, List.set_cons_succ]
    refine wpAnyH_ready (rs := [2]) (by kernel_rfl) (by simp) ?_
    refine AllReadyH.cons rfl (fun K hK => ?_) AllReadyH.nil
    go_simp
    refine (atomsIn_calls _ _ _ _ (hx.later t1).ints).mono ?_
    rintro e w' ⟨rfl, rfl⟩
    refine hK.out _ _ hHeld (fun hHeld => ?_)
    clear hK K
    try simp only [Act.put, List.setIfInBounds_toArray, List.set_cons_zero, List.set_cons_succ]
    refine wpAnyH_ready (rs := [3]) (by kernel_rfl) (by simp) ?_
    refine AllReadyH.cons rfl (fun K hK => ?_) AllReadyH.nil
    go_simp
    refine (unfP_calls xs o1.rd hok).mono ?_
    rintro e w2 ⟨m, rfl, ⟨hm, hl⟩, b2⟩
    refine hK.out _ _ (cells8 (CX.later b2)) (fun hHeld => ?_)
    clear hK K
    try simp only [Act.put, List.setIfInBounds_toArray, List.set_cons_zero, List.set_cons_succ]
    refine wpAnyH_ready (rs := [4]) (by kernel_rfl) (by simp) ?_
    refine AllReadyH.cons rfl (fun K hK => ?_) AllReadyH.nil
    go_simp
    refine (list_calls _ _ hm).mono ?_
    rintro e w3 ⟨u, rfl, o3, b3⟩
    refine hK.out _ _ (cells8 ((CX.later b2).later b3)) (fun hHeld => ?_)
    clear hK K
    try simp only [Act.put, List.setIfInBounds_toArray, List.set_cons_zero, List.set_cons_succ]
    refine takeD (i := 5) (v := u) (some 4) rfl rfl (by kernel_rfl) (by kernel_rfl) (by kernel_rfl) (fun _ _ _ h => h) (Or.inl ⟨by rfl, fun w' hw' => ?_⟩) hHeld ?_
    · first | (go_simp; done) | (obtain ⟨s0, s1, s2, s3, s4, s5, s6, s7⟩ := hw'; go_simp; done)
    try simp only [Act.put, List.setIfInBounds_toArray, List.set_cons_zero, List.set_cons_succ]
    refine wpAnyH_done (by kernel_rfl) ?_ _
    go_wp2
    go_ret
    refine ⟨_, rfl, ?_, (t1.step b2).step b3⟩
    rw [hv.out, ← hl]
    exact o3.mono (t1.step b2).size

/-! ### ModI -/
set_option maxHeartbeats 4000000 in
theorem implModel_calls {cs : List Value} {p : ProgD} {w : World} {v : Value} {xs : List Int} (h : Rd.R w cs p) (gx : RdL w [v] xs) :
    Calls Tryz.prog 25 #[.agg cs.toArray, v] w fun e w' => e = .returned (.bool (modelB p xs)) ∧ Below w.heap.size w w' := by
  obtain ⟨p0, p1, p2, p3, p4, p5, p6, p7, rfl⟩ := list8 (Rd.len h)
  obtain ⟨ax, cx, rfl, _, hx⟩ := gx.sl
  have t0 : Below w.heap.size w (w.alloc (.cells #[p0, p1, p2, p3, p4, p5, p6, p7] 30)) := (Below.refl _ _).alloc (by simp) _
  have CX := (Cells.new w [p0, p1, p2, p3, p4, p5, p6, p7] 30).drew
  have td := t0.drew
  have hpd := Rd.mono td h
  have hxd := (hx.later td).ints
  clear gx hx h
  cases hok : progOkB p
  · have hv := Lib.hid (modelB_no (xs := xs) hok)
    go_enter Tryz.func25, Tryz.ntmps25
    go_upto_region 1 with fail
    refine wp_region_held_drew (S := fun W' => W'.cell? ⟨w.heap.size, 0, none⟩ = some p0 ∧ W'.cell? ⟨w.heap.size, 1, none⟩ = some p1 ∧ W'.cell? ⟨w.heap.size, 2, none⟩ = some p2 ∧ W'.cell? ⟨w.heap.size, 3, none⟩ = some p3 ∧ W'.cell? ⟨w.heap.size, 4, none⟩ = some p4 ∧ W'.cell? ⟨w.heap.size, 5, none⟩ = some p5 ∧ W'.cell? ⟨w.heap.size, 6, none⟩ = some p6 ∧ W'.cell? ⟨w.heap.size, 7, none⟩ = some p7) (by kernel_rfl) (cells8 CX) (fun hHeld => ?_)
    refine takeD (i := 0) (v := .agg #[p0, p1, p2, p3, p4, p5, p6, p7]) (some 5) rfl rfl (by kernel_rfl) (by kernel_rfl) (by kernel_rfl) (fun _ _ _ h => h) (Or.inl ⟨by rfl, fun w' hw' => ?_⟩) hHeld ?_
    · first | (go_simp; done) | (obtain ⟨s0, s1, s2, s3, s4, s5, s6, s7⟩ := hw'; go_simp; done)
    try simp only [Act.put, List.setIfInBounds_toArray, List.set_cons_zero, List.set_cons_succ]
    refine wpAnyH_ready (rs := [1]) (by kernel_rfl) (by simp) ?_
    refine AllReadyH.cons rfl (fun K hK => ?_) AllReadyH.nil
    go_simp
    refine (implProgOk_calls hpd).mono ?_
    rintro e w1 ⟨he, b1⟩
    rw [hok] at he
    subst he
    have CX := CX.later b1
    refine hK.out _ _ (cells8 CX) (fun hHeld => ?_)
    clear hK K
    try simp only [Act.put, List.setIfInBounds_toArray, List.set_cons_zero, List.set_cons_succ]
    refine takeD (i := 2) (v := .bool false) (some 7) rfl rfl (by kernel_rfl) (by kernel_rfl) (by kernel_rfl) (fun _ _ _ h => h) (Or.inl ⟨by rfl, fun w' hw' => ?_⟩) hHeld ?_
    · first | (go_simp; done) | (obtain ⟨s0, s1, s2, s3, s4, s5, s6, s7⟩ := hw'; go_simp; done)
    try simp only [Act.put, List.setIfInBounds_toArray, List.set_cons_zero, List.set_cons_succ]
    refine takeD (i := 3) (v := undef) (some 8) rfl rfl (by kernel_rfl) (by kernel_rfl) (by kernel_rfl) (fun _ _ _ h => h) (Or.inr ⟨by rfl, rfl⟩) hHeld ?_
    try simp only [Act.put, List.setIfInBounds_toArray, List.set_cons_zero, List.set_cons_succ]
    refine takeD (i := 4) (v := undef) (some 9) rfl rfl (by kernel_rfl) (by kernel_rfl) (by kernel_rfl) (fun _ _ _ h => h) (Or.inr ⟨by rfl, rfl⟩) hHeld ?_
    try simp only [Act.put, List.setIfInBounds_toArray, List.set_cons_zero, List.set_cons_succ]
    refine takeD (i := 5) (v := undef) (some 10) rfl rfl (by kernel_rfl) (by kernel_rfl) (by kernel_rfl) (fun _ _ _ h => h) (Or.inr ⟨by rfl, rfl⟩) hHeld ?_
    try simp only [Act.put, List.setIfInBounds_toArray, List.set_cons_zero, List.set_cons_succ]
    refine takeD (i := 6) (v := undef) (some 11) rfl rfl (by kernel_rfl) (by kernel_rfl) (by kernel_rfl) (fun _ _ _ h => h) (Or.inr ⟨by rfl, rfl⟩) hHeld ?_
    try simp only [Act.put, List.setIfInBounds_toArray, List.set_cons_zero, List.set_cons_succ]
    refine takeD (i := 7) (v := .bool false) (some 12) rfl rfl (by kernel_rfl) (by kernel_rfl) (by kernel_rfl) (fun _ _ _ h => h) (Or.inl ⟨by rfl, fun w' hw' => ?_⟩) hHeld ?_
    · first | (go_simp; done) | (obtain ⟨s0, s1, s2, s3, s4, s5, s6, s7⟩ := hw'; go_simp; done)
    try simp only [Act.put, List.setIfInBounds_toArray, List.set_cons_zero, List.set_cons_succ]
    refine takeD (i := 8) (v := .bool false) (some 4) rfl rfl (by kernel_rfl) (by kernel_rfl) (by kernel_rfl) (fun _ _ _ h => h) (Or.inl ⟨by rfl, fun w' hw' => ?_⟩) hHeld ?_
    · first | (go_simp; done) | (obtain ⟨s0, s1, s2, s3, s4, s5, s6, s7⟩ := hw'; go_simp; done)
    try simp only [Act.put, List.setIfInBounds_toArray, List.set_cons_zero, List.set_cons_succ]
    refine wpAnyH_done (by kernel_rfl) ?_ _
    go_wp2
    go_ret
    exact ⟨ret_bool hv.out.symm, td.step b1⟩
  · go_enter Tryz.func25, Tryz.ntmps25
    go_upto_region 1 with fail
    refine wp_region_held_drew (S := fun W' => W'.cell? ⟨w.heap.size, 0, none⟩ = some p0 ∧ W'.cell? ⟨w.heap.size, 1, none⟩ = some p1 ∧ W'.cell? ⟨w.heap.size, 2, none⟩ = some p2 ∧ W'.cell? ⟨w.heap.size, 3, none⟩ = some p3 ∧ W'.cell? ⟨w.heap.size, 4, none⟩ = some p4 ∧ W'.cell? ⟨w.heap.size, 5, none⟩ = some p5 ∧ W'.cell? ⟨w.heap.size, 6, none⟩ = some p6 ∧ W'.cell? ⟨w.heap.size, 7, none⟩ = some p7) (by kernel_rfl) (cells8 CX) (fun hHeld => ?_)
    refine takeD (i := 0) (v := .agg #[p0, p1, p2, p3, p4, p5, p6, p7]) (some 5) rfl rfl (by kernel_rfl) (by kernel_rfl) (by kernel_rfl) (fun _ _ _ h => h) (Or.inl ⟨by rfl, fun w' hw' => ?_⟩) hHeld ?_
    · first | (go_simp; done) | (obtain ⟨s0, s1, s2, s3, s4, s5, s6, s7⟩ := hw'; go_simp; done)
    try simp only [Act.put, List.setIfInBounds_toArray, List.set_cons_zero, List.set_cons_succ]
    refine wpAnyH_ready (rs := [1]) (by kernel_rfl) (by simp) ?_
    refine AllReadyH.cons rfl (fun K hK => ?_) AllReadyH.nil
    go_simp
    refine (implProgOk_calls hpd).mono ?_
    rintro e w1 ⟨he, b1⟩
    rw [hok] at he
    subst he
    have CX := CX.later b1
    refine hK.out _ _ (cells8 CX) (fun hHeld => ?_)
    clear hK K
    try simp only [Act.put, List.setIfInBounds_toArray, List.set_cons_zero, List.set_cons_succ]
    refine takeD (i := 2) (v := .bool true) (some 7) rfl rfl (by kernel_rfl) (by kernel_rfl) (by kernel_rfl) (fun _ _ _ h => h) (Or.inl ⟨by rfl, fun w' hw' => ?_⟩) hHeld ?_
    · first | (go_simp; done) | (obtain ⟨s0, s1, s2, s3, s4, s5, s6, s7⟩ := hw'; go_simp; done)
    try simp only [Act.put, List.setIfInBounds_toArray, List.set_cons_zero, List.set_cons_succ]
    refine takeD (i := 3) (v := .agg #[p0, p1, p2, p3, p4, p5, p6, p7]) (some 8) rfl rfl (by kernel_rfl) (by kernel_rfl) (by kernel_rfl) (fun _ _ _ h => h) (Or.inl ⟨by rfl, fun w' hw' => ?_⟩) hHeld ?_
    · first | (go_simp; done) | (obtain ⟨s0, s1, s2, s3, s4, s5, s6, s7⟩ := hw'; go_simp; done)
    try simp only [Act.put, List.setIfInBounds_toArray, List.set_cons_zero, List.set_cons_succ]
    refine takeD (i := 4) (v := .slice ax xs.length cx) (some 9) rfl rfl (by kernel_rfl) (by kernel_rfl) (by kernel_rfl) (fun _ _ _ h => h) (Or.inl ⟨by rfl, fun w' hw' => ?_⟩) hHeld ?_
    · first | (go_simp; done) | (obtain ⟨s0, s1, s2, s3, s4, s5, s6, s7⟩ := hw'; go_simp; done)
    try simp only [Act.put, List.setIfInBounds_toArray, List.set_cons_zero, List.set_cons_succ]
    refine wpAnyH_ready (rs := [5]) (by kernel_rfl) (by simp) ?_
    refine AllReadyH.cons rfl (fun K hK => ?_) AllReadyH.nil
    go_simp
    refine (atomsIn_calls _ _ _ _ (hxd.later b1)).mono ?_
    rintro e w' ⟨rfl, rfl⟩
    refine hK.out _ _ hHeld (fun hHeld => ?_)
    clear hK K
    try simp only [Act.put, List.setIfInBounds_toArray, List.set_cons_zero, List.set_cons_succ]
    refine wpAnyH_ready (rs := [6]) (by kernel_rfl) (by simp) ?_
    refine AllReadyH.cons rfl (fun K hK => ?_) AllReadyH.nil
    go_simp
    refine (implModelP_calls xs (Rd.mono b1 hpd) hok).mono ?_
    rintro e w2 ⟨rfl, b2⟩
    refine hK.out _ _ (cells8 (CX.later b2)) (fun hHeld => ?_)
    clear hK K
    try simp only [Act.put, List.setIfInBounds_toArray, List.set_cons_zero, List.set_cons_succ]
    refine takeD (i := 7) (v := .bool (modelB p xs)) (some 12) rfl rfl (by kernel_rfl) (by kernel_rfl) (by kernel_rfl) (fun _ _ _ h => h) (Or.inl ⟨by rfl, fun w' hw' => ?_⟩) hHeld ?_
    · first | (go_simp; done) | (obtain ⟨s0, s1, s2, s3, s4, s5, s6, s7⟩ := hw'; go_simp; done)
    try simp only [Act.put, List.setIfInBounds_toArray, List.set_cons_zero, List.set_cons_succ]
    refine takeD (i := 8) (v := .bool (modelB p xs)) (some 4) rfl rfl (by kernel_rfl) (by kernel_rfl) (by kernel_rfl) (fun _ _ _ h => h) (Or.inl ⟨by rfl, fun w' hw' => ?_⟩) hHeld ?_
    · first | (go_simp; done) | (obtain ⟨s0, s1, s2, s3, s4, s5, s6, s7⟩ := hw'; go_simp; done)
    try simp only [Act.put, List.setIfInBounds_toArray, List.set_cons_zero, List.set_cons_succ]
    refine wpAnyH_done (by kernel_rfl) ?_ _
    go_wp2
    go_ret
    exact ⟨rfl, (td.step b1).step b2⟩

/-! ### SetMI -/
theorem implSetMeetR_calls (a a' : Option Addr) (xs ys : List Int) (ca ca' : Nat) (w : World) (h : Ints w a xs) (h' : Ints w a' ys) :
    Calls Tryz.prog 33 #[.slice a xs.length ca, .slice a' ys.length ca'] w fun e w' => ∃ v, e = .returned v ∧ OwnI w.heap.size w' v (pickTo (pickM xs ys) 12) ∧ Below w.heap.size w w' := by
  rw [← meet_same]
  have h1 := maskOf_lt xs
  have h2 := maskOf_lt ys
  have hlt : maskOf xs &&& maskOf ys < 4096 := Nat.lt_of_le_of_lt Nat.and_le_left h1
  go_enter Tryz.func33, Tryz.ntmps33
  go_wp2_with (first | (go_at_call 75; refine (atomsIn_calls _ _ _ _ (by first | exact h | exact h')).mono ?_; rintro e w' ⟨rfl, rfl⟩) | (go_at_call 80; refine (meet_calls _ _ _ h1 h2).mono ?_; rintro e w' ⟨rfl, rfl⟩) | (go_at_call 76; refine (list_calls _ _ hlt).mono ?_; rintro e w' ⟨v, rfl, ho, hb⟩))
  go_ret
  exact ⟨_, rfl, ho, hb⟩

end Go.Proofs.YthfbnalgnnjbbaaGreat
