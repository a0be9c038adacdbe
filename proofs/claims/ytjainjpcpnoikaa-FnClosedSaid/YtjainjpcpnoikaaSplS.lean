/-
  Splitting: what the model answers (IsSplit, Closure). No condition of its own.
-/
import Derived.Test.YtjainjpcpnoikaaAnsS
import Derived.Test.YtjainjpcpnoikaaSplD
namespace Go.Proofs.Ytjainjpcpnoikaa
set_option linter.unusedVariables false
set_option linter.unusedSimpArgs false
open Go.RowKit
set_option maxRecDepth 100000




theorem sm_ok12 {r : RuleD} (h : ruleOkB r 12 = true) : Sm.S r := by
  simp only [ruleOkB, headsB, bodyB, Bool.and_eq_true, decide_eq_true_eq] at h
  obtain ⟨⟨h1, _⟩, ⟨⟨h2, _⟩, _⟩, _⟩ := h
  have h3 : r.heads.length ≤ 12 := (isP_set h1).le
  exact ⟨⟨by omega, fun _ _ => trivial⟩, ⟨by omega, fun _ _ => trivial⟩⟩
theorem pow12S {n : Nat} (h : n ≤ 12) : 2 ^ n ≤ 4096 := by
  have : (2 : Nat) ^ n ≤ 2 ^ 12 := Nat.pow_le_pow_right (by omega) h
  omega
theorem shl_oneS {n : Nat} (h1 : n ≤ 12) : wrap64 ((2 : Int) ^ ((n : Int)).toNat) = ((2 ^ n : Nat) : Int) := by
  have h2 := pow12S h1
  rw [Int.toNat_natCast, show (2 : Int) ^ n = ((2 ^ n : Nat) : Int) by simp]
  generalize 2 ^ n = P at *
  unfold wrap64
  omega
theorem l08AllS_calls (n : Nat) (w : World) (hn : n ≤ 12) :
    Calls Try.prog 61 #[.int .i64 (n : Int)] w fun e w' => ∃ v, e = .returned v ∧ OwnI w.heap.size w' v (setOfS ((2 ^ n : Nat) - 1 : Int)) ∧ Below w.heap.size w w' := by
  have hsh := shl_oneS hn
  have hpw := pow12S hn
  rw [Int.toNat_natCast] at hsh
  obtain ⟨P, hP⟩ : ∃ P : Nat, P = 2 ^ n := ⟨_, rfl⟩
  rw [← hP] at hsh hpw ⊢
  clear hP
  go_enter Try.func61, Try.ntmps61
  go_wp2_with fail
  refine (specSetOf_calls _ _).mono ?_
  rintro e w1 ⟨v, rfl, ho, hb⟩
  go_wp2
  go_ret
  exact ⟨_, rfl, ho, hb⟩


/-- How long a slice is. -/
def slLen (v : Value) : Nat := match v with | .slice _ n _ => n | _ => 0
theorem up_mask {n : Nat} (h : n ≤ 12) : maskOf (setOfS ((2 ^ n : Nat) - 1 : Int)) = 2 ^ n - 1 := by
  have h1 : 2 ^ n ≤ 2 ^ 12 := Nat.pow_le_pow_right (by omega) h
  have h2 : 0 < 2 ^ n := Nat.two_pow_pos _
  rw [show (((2 ^ n : Nat) : Int) - 1) = ((2 ^ n - 1 : Nat) : Int) by omega]
  have : setOfS ((2 ^ n - 1 : Nat) : Int) = mset (2 ^ n - 1) := by
    rw [← of_same]
    unfold setOf mset
    rw [if_pos (by omega)]
    rfl
  rw [this, mask_mset (by omega)]
set_option maxHeartbeats 4000000 in
theorem specIsSplit_calls {cs : List Value} {p : ProgD} {w : World} {v : Value} {us : List Int} (h : Rd.R w cs p) (gx : RdL w [v] us) :
    Calls Try.prog 8 #[.agg cs.toArray, v] w fun e w' => e = .returned (.bool (splB p us)) ∧ Below w.heap.size w w' := by
  obtain ⟨p0, p1, p2, p3, p4, p5, p6, p7, rfl⟩ := list8 (Rd.len h)
  obtain ⟨ax, cx, rfl, _, hx⟩ := gx.sl
  have t0 : Below w.heap.size w (w.alloc (.cells #[p0, p1, p2, p3, p4, p5, p6, p7] 36)) := (Below.refl _ _).alloc (by simp) _
  have hmu0 := hx.1
  cases hF : foldB p
  · have hv := Lib.hid (splB_no (us := us) hF)
    go_enter Try.func8, Try.ntmps8
    go_wp2_with fail
    refine (specFold_calls (Rd.mono t0 h)).mono ?_
    rintro e w1 ⟨cs1, he, o1, b1⟩
    rw [hF] at he
    subst he
    have t1 := t0.step b1
    have l1 := Rd.one o1.rd
    obtain ⟨x0, x1, x2, x3, x4, x5, x6, x7, rfl⟩ := list8 (Rd.len o1.rd)
    have st0 := sto Try.prog (l1 x0 (by simp))
    have st1 := sto Try.prog (l1 x1 (by simp))
    have st2 := sto Try.prog (l1 x2 (by simp))
    have st3 := sto Try.prog (l1 x3 (by simp))
    have st4 := sto Try.prog (l1 x4 (by simp))
    have st5 := sto Try.prog (l1 x5 (by simp))
    have st6 := sto Try.prog (l1 x6 (by simp))
    have st7 := sto Try.prog (l1 x7 (by simp))
    have o1 := o1.alloc (.cells #[x0, x1, x2, x3, x4, x5, x6, x7] 36)
    have CX1 := Cells.new w1 [x0, x1, x2, x3, x4, x5, x6, x7] 36
    have t1 := t1.alloc t1.size (.cells #[x0, x1, x2, x3, x4, x5, x6, x7] 36)
    clear l1
    go_wp2
    go_ret
    exact ⟨ret_bool hv.out.symm, t1⟩
  · have hok : progOkB (foldD p) = true := foldR_ok hF
    have hr12 := Lib.hid (rules12 hok)
    cases hS : setOkB us (foldD p).atoms
    · have hv : Hid (splB p us = false) := by show _ = _; rw [splB_yes hF, splQ_A hS]
      go_enter Try.func8, Try.ntmps8
      go_wp2_with fail
      refine (specFold_calls (Rd.mono t0 h)).mono ?_
      rintro e w1 ⟨cs1, he, o1, b1⟩
      rw [hF] at he
      rw [foldR_yes hF] at o1
      subst he
      have t1 := t0.step b1
      have l1 := Rd.one o1.rd
      obtain ⟨x0, x1, x2, x3, x4, x5, x6, x7, rfl⟩ := list8 (Rd.len o1.rd)
      have st0 := sto Try.prog (l1 x0 (by simp))
      have st1 := sto Try.prog (l1 x1 (by simp))
      have st2 := sto Try.prog (l1 x2 (by simp))
      have st3 := sto Try.prog (l1 x3 (by simp))
      have st4 := sto Try.prog (l1 x4 (by simp))
      have st5 := sto Try.prog (l1 x5 (by simp))
      have st6 := sto Try.prog (l1 x6 (by simp))
      have st7 := sto Try.prog (l1 x7 (by simp))
      have o1 := o1.alloc (.cells #[x0, x1, x2, x3, x4, x5, x6, x7] 36)
      have CX1 := Cells.new w1 [x0, x1, x2, x3, x4, x5, x6, x7] 36
      have t1 := t1.alloc t1.size (.cells #[x0, x1, x2, x3, x4, x5, x6, x7] 36)
      clear l1
      have oR := o1.rd
      obtain ⟨_, _, _, _, _, _, hl, hfa, g1, _⟩ := oR
      simp only [List.cons.injEq, and_true] at hl
      obtain ⟨rfl, rfl, -⟩ := hl
      obtain ⟨a1, k1, rfl, _, h1⟩ := g1.sl
      have hm1 := h1.1
      have CXH := Lib.hid CX1
      have hzw : w1.heap.size < (w1.alloc (.cells #[.int .i64 (foldD p).atoms, .slice a1 (foldD p).rules.length k1, x2, x3, x4, x5, x6, x7] 36)).heap.size := by simp
      generalize hwa : w1.alloc (.cells #[.int .i64 (foldD p).atoms, .slice a1 (foldD p).rules.length k1, x2, x3, x4, x5, x6, x7] 36) = wa at *
      obtain ⟨y0, y1, y2, y3, y4, y5, y6, y7⟩ := cells8 CXH.out
      go_wp2_with fail
      try rw [hwa]
      refine (specSetOk_calls _ _ _ _ _ (hx.later t1).ints).mono ?_
      rintro e w2 ⟨he, b2⟩
      rw [hS] at he
      subst he
      go_wp2
      go_ret
      exact ⟨ret_bool hv.out.symm, t1.step b2⟩
    · have hv : Hid (splB p us = (foldD p).rules.all (spR us)) := by show _ = _; rw [splB_yes hF, splQ_B hS]
      go_enter Try.func8, Try.ntmps8
      go_wp2_with fail
      refine (specFold_calls (Rd.mono t0 h)).mono ?_
      rintro e w1 ⟨cs1, he, o1, b1⟩
      rw [hF] at he
      rw [foldR_yes hF] at o1
      subst he
      have t1 := t0.step b1
      have l1 := Rd.one o1.rd
      obtain ⟨x0, x1, x2, x3, x4, x5, x6, x7, rfl⟩ := list8 (Rd.len o1.rd)
      have st0 := sto Try.prog (l1 x0 (by simp))
      have st1 := sto Try.prog (l1 x1 (by simp))
      have st2 := sto Try.prog (l1 x2 (by simp))
      have st3 := sto Try.prog (l1 x3 (by simp))
      have st4 := sto Try.prog (l1 x4 (by simp))
      have st5 := sto Try.prog (l1 x5 (by simp))
      have st6 := sto Try.prog (l1 x6 (by simp))
      have st7 := sto Try.prog (l1 x7 (by simp))
      have o1 := o1.alloc (.cells #[x0, x1, x2, x3, x4, x5, x6, x7] 36)
      have CX1 := Cells.new w1 [x0, x1, x2, x3, x4, x5, x6, x7] 36
      have t1 := t1.alloc t1.size (.cells #[x0, x1, x2, x3, x4, x5, x6, x7] 36)
      clear l1
      have oR := o1.rd
      obtain ⟨_, _, _, _, _, _, hl, hfa, g1, _⟩ := oR
      simp only [List.cons.injEq, and_true] at hl
      obtain ⟨rfl, rfl, -⟩ := hl
      obtain ⟨a1, k1, rfl, _, h1⟩ := g1.sl
      have hm1 := h1.1
      have CXH := Lib.hid CX1
      have hzw : w1.heap.size < (w1.alloc (.cells #[.int .i64 (foldD p).atoms, .slice a1 (foldD p).rules.length k1, x2, x3, x4, x5, x6, x7] 36)).heap.size := by simp
      generalize hwa : w1.alloc (.cells #[.int .i64 (foldD p).atoms, .slice a1 (foldD p).rules.length k1, x2, x3, x4, x5, x6, x7] 36) = wa at *
      obtain ⟨y0, y1, y2, y3, y4, y5, y6, y7⟩ := cells8 CXH.out
      go_wp2_with fail
      try rw [hwa]
      clear st0 st1 st2 st3 st4 st5 st6 st7
      refine (specSetOk_calls _ _ _ _ _ (hx.later t1).ints).mono ?_
      rintro e w2 ⟨he, b2⟩
      rw [hS] at he
      subst he
      have t3 := t1.step b2
      clear y0 y1 y2 y3 y4 y5 y6 y7
      have CX3 := Lib.hid (CXH.out.later b2)
      obtain ⟨q, hq⟩ : ∃ q, q = foldD p := ⟨_, rfl⟩
      have hua := (hx.later t3).ints
      have g1 := Rd.mono (α := List RuleD) b2 g1
      have h1 := h1.later b2
      clear CXH
      have CXH := CX3
      rw [← hq] at CXH h1 hm1 hr12 hv g1
      clear hq
      clear CX3 hok hS hx
      go_wp2
      go_loopw [7] (fun i wr => ∃ k : Nat, k ≤ q.rules.length ∧ i = .int .i64 (k : Int) ∧ Hid ((q.rules.take k).all (spR us) = true) ∧ Below w2.heap.size w2 wr) (fun i _ => q.rules.length - (intOf i).toNat)
      case atStart => exact ⟨0, Nat.zero_le _, rfl, show (q.rules.take 0).all _ = true by simp, Below.refl _ _⟩
      case round =>
        obtain ⟨k, hk, rfl, hS, hb⟩ := hrel
        obtain ⟨y0, y1, y2, y3, y4, y5, y6, y7⟩ := cells8 (CXH.out.later hb)
        by_cases hlt : k < q.rules.length
        · skip
          obtain ⟨b, off, rfl, hc⟩ := h1.base (by omega)
          obtain ⟨ecs, hC, hR⟩ := hc k hlt
          have hC := hC.later hb
          have hR := Rd.mono hb hR
          have hok12 := hr12.out _ (nth_mem hlt)
          have hR0 := hR
          obtain ⟨d1, d4, rfl, hf', r1, r4⟩ := hR0
          obtain ⟨ah, kh, rfl, hkh, hh⟩ := r1.sl
          obtain ⟨ab, kb, rfl, _, _⟩ := r4.sl
          have u0 := hC.c0
          have u1 := hC.c1
          have u2 := hC.c2
          have u3 := hC.c3
          have u4 := hC.c4
          rw [show Rd.k RuleD = 5 from rfl] at u0 u1 u2 u3 u4
          clear hC hc
          cases hM : (((pickTo (pickM (nth q.rules k).heads us) 12).length : Int) == 0)
          · have hMd : 0 < ((pickTo (pickM (nth q.rules k).heads us) 12).length : Int) := by have := beq_eq_false_iff_ne.1 hM; omega
            cases hB : (((pickTo (pickL (atomsB (nth q.rules k)) us) 12).length : Int) == 0)
            · have hv2 : Hid (splB p us = false) := by show _ = _; rw [hv.out, all_no hlt (show spR us _ = false by unfold spR; rw [hM, hB]; rfl)]
              go_wp2_with fail
              refine (specSetMeet_calls _ _ _ _ _ _ _ hh.ints (hua.later hb)).mono ?_
              rintro e w2 ⟨v2, rfl, ho2, b2⟩
              obtain ⟨p2, q2, hv2, _, _⟩ := ho2.open
              subst hv2
              have hb2 := hb.step b2
              clear y0 y1 y2 y3 y4 y5 y6 y7
              obtain ⟨y0, y1, y2, y3, y4, y5, y6, y7⟩ := cells8 (CXH.out.later hb2)
              replace u0 := cell_kept b2 u0
              replace u1 := cell_kept b2 u1
              replace u2 := cell_kept b2 u2
              replace u3 := cell_kept b2 u3
              replace u4 := cell_kept b2 u4
              go_wp2_with fail
              refine (specAtomsOf_calls (Rd.mono b2 hR) (sm_ok12 hok12)).mono ?_
              rintro e w3 ⟨v3, rfl, ho3, b3⟩
              obtain ⟨p3, q3, hv3, _, _⟩ := ho3.open
              subst hv3
              have hb3 := hb2.step b3
              go_wp2_with fail
              refine (specSetIn_calls _ _ _ _ _ _ _ ho3.ints (hua.later hb3)).mono ?_
              rintro e w4 ⟨he, b4⟩
              rw [hB] at he
              subst he
              go_wp2
              go_ret
              exact ⟨ret_bool hv2.out.symm, t3.step (hb3.step b4)⟩
            · have hS' := Lib.hid (all_take hlt hS.out (show spR us _ = true by unfold spR; rw [hB, Bool.or_true]))
              go_wp2_with fail
              refine (specSetMeet_calls _ _ _ _ _ _ _ hh.ints (hua.later hb)).mono ?_
              rintro e w2 ⟨v2, rfl, ho2, b2⟩
              obtain ⟨p2, q2, hv2, _, _⟩ := ho2.open
              subst hv2
              have hb2 := hb.step b2
              clear y0 y1 y2 y3 y4 y5 y6 y7
              obtain ⟨y0, y1, y2, y3, y4, y5, y6, y7⟩ := cells8 (CXH.out.later hb2)
              replace u0 := cell_kept b2 u0
              replace u1 := cell_kept b2 u1
              replace u2 := cell_kept b2 u2
              replace u3 := cell_kept b2 u3
              replace u4 := cell_kept b2 u4
              go_wp2_with fail
              refine (specAtomsOf_calls (Rd.mono b2 hR) (sm_ok12 hok12)).mono ?_
              rintro e w3 ⟨v3, rfl, ho3, b3⟩
              obtain ⟨p3, q3, hv3, _, _⟩ := ho3.open
              subst hv3
              have hb3 := hb2.step b3
              go_wp2_with fail
              refine (specSetIn_calls _ _ _ _ _ _ _ ho3.ints (hua.later hb3)).mono ?_
              rintro e w4 ⟨he, b4⟩
              rw [hB] at he
              subst he
              go_wp2
              go_roundw
              case rel => exact ⟨k + 1, by omega, by go_num, hS', hb3.step b4⟩
              case measure => simp [intOf]; omega
          · have hMd : ((pickTo (pickM (nth q.rules k).heads us) 12).length : Int) = 0 := beq_iff_eq.1 hM
            have hS' := Lib.hid (all_take hlt hS.out (show spR us _ = true by unfold spR; rw [hM, Bool.true_or]))
            go_wp2_with fail
            refine (specSetMeet_calls _ _ _ _ _ _ _ hh.ints (hua.later hb)).mono ?_
            rintro e w2 ⟨v2, rfl, ho2, b2⟩
            obtain ⟨p2, q2, hv2, _, _⟩ := ho2.open
            subst hv2
            have hb2 := hb.step b2
            go_wp2
            go_roundw
            case rel => exact ⟨k + 1, by omega, by go_num, hS', hb2⟩
            case measure => simp [intOf]; omega
        · have hv2 : Hid (splB p us = true) := by show _ = _; rw [hv.out]; exact all_end (by omega) hS.out
          go_wp2
          go_ret
          exact ⟨ret_bool hv2.out.symm, t3.step hb⟩

set_option maxHeartbeats 4000000 in
theorem specClosure_calls {cs : List Value} {p : ProgD} {w : World} {v : Value} {us : List Int} (h : Rd.R w cs p) (gx : RdL w [v] us) :
    Calls Try.prog 18 #[.agg cs.toArray, v] w fun e w' => ∃ u, e = .returned u ∧ OwnI w.heap.size w' u (clsR p us) ∧ Below w.heap.size w w' := by
  obtain ⟨p0, p1, p2, p3, p4, p5, p6, p7, rfl⟩ := list8 (Rd.len h)
  obtain ⟨ax, cx, rfl, _, hx⟩ := gx.sl
  have t0 : Below w.heap.size w (w.alloc (.cells #[p0, p1, p2, p3, p4, p5, p6, p7] 36)) := (Below.refl _ _).alloc (by simp) _
  have hmu0 := hx.1
  cases hF : foldB p
  · have hv := Lib.hid (clsR_no (us := us) hF)
    go_enter Try.func18, Try.ntmps18
    go_wp2_with fail
    refine (specFold_calls (Rd.mono t0 h)).mono ?_
    rintro e w1 ⟨cs1, he, o1, b1⟩
    rw [hF] at he
    subst he
    have t1 := t0.step b1
    have l1 := Rd.one o1.rd
    obtain ⟨x0, x1, x2, x3, x4, x5, x6, x7, rfl⟩ := list8 (Rd.len o1.rd)
    have st0 := sto Try.prog (l1 x0 (by simp))
    have st1 := sto Try.prog (l1 x1 (by simp))
    have st2 := sto Try.prog (l1 x2 (by simp))
    have st3 := sto Try.prog (l1 x3 (by simp))
    have st4 := sto Try.prog (l1 x4 (by simp))
    have st5 := sto Try.prog (l1 x5 (by simp))
    have st6 := sto Try.prog (l1 x6 (by simp))
    have st7 := sto Try.prog (l1 x7 (by simp))
    have o1 := o1.alloc (.cells #[x0, x1, x2, x3, x4, x5, x6, x7] 36)
    have CX1 := Cells.new w1 [x0, x1, x2, x3, x4, x5, x6, x7] 36
    have t1 := t1.alloc t1.size (.cells #[x0, x1, x2, x3, x4, x5, x6, x7] 36)
    clear l1
    have oN := OwnI.new (w1.alloc (.cells #[x0, x1, x2, x3, x4, x5, x6, x7] 36)) w.heap.size t1.size
    rw [World.size_alloc] at oN
    go_wp2
    go_ret
    exact ⟨_, rfl, by rw [hv.out]; exact oN, t1.alloc t1.size _⟩
  · have hok : progOkB (foldD p) = true := foldR_ok hF
    have hr12 := Lib.hid (rules12 hok)
    obtain ⟨ha0, ha1⟩ := progOk_atoms hok
    obtain ⟨n, hn⟩ := Int.eq_ofNat_of_zero_le ha0
    have hn12 : n ≤ 12 := by omega
    have hnq : (foldD p).atoms.toNat = n := by omega
    have hmm : maskOf us &&& (2 ^ n - 1) < 4096 := Nat.lt_of_le_of_lt Nat.and_le_left (maskOf_lt us)
    have hv : Hid (clsR p us = mset (clL (foldD p).rules (maskOf us &&& (2 ^ n - 1)))) := by show _ = _; rw [clsR_yes hF]; unfold clsM; rw [hnq]
    have HAL := fun w => Lib.hid (l08AllS_calls n w hn12)
    have HML : Hid (pickTo (pickM us (setOfS ((2 ^ n : Nat) - 1 : Int))) 12 = mset (maskOf us &&& (2 ^ n - 1))) := by show _ = _; rw [← meet_same, up_mask hn12]; rfl
    go_enter Try.func18, Try.ntmps18
    go_wp2_with fail
    refine (specFold_calls (Rd.mono t0 h)).mono ?_
    rintro e w1 ⟨cs1, he, o1, b1⟩
    rw [hF] at he
    rw [foldR_yes hF] at o1
    subst he
    have t1 := t0.step b1
    have l1 := Rd.one o1.rd
    obtain ⟨x0, x1, x2, x3, x4, x5, x6, x7, rfl⟩ := list8 (Rd.len o1.rd)
    have st0 := sto Try.prog (l1 x0 (by simp))
    have st1 := sto Try.prog (l1 x1 (by simp))
    have st2 := sto Try.prog (l1 x2 (by simp))
    have st3 := sto Try.prog (l1 x3 (by simp))
    have st4 := sto Try.prog (l1 x4 (by simp))
    have st5 := sto Try.prog (l1 x5 (by simp))
    have st6 := sto Try.prog (l1 x6 (by simp))
    have st7 := sto Try.prog (l1 x7 (by simp))
    have o1 := o1.alloc (.cells #[x0, x1, x2, x3, x4, x5, x6, x7] 36)
    have CX1 := Cells.new w1 [x0, x1, x2, x3, x4, x5, x6, x7] 36
    have t1 := t1.alloc t1.size (.cells #[x0, x1, x2, x3, x4, x5, x6, x7] 36)
    clear l1
    have oR := o1.rd
    obtain ⟨_, _, _, _, _, _, hl, hfa, g1, _⟩ := oR
    simp only [List.cons.injEq, and_true] at hl
    obtain ⟨rfl, rfl, -⟩ := hl
    obtain ⟨a1, k1, rfl, _, h1⟩ := g1.sl
    have hm1 := h1.1
    have CXH := Lib.hid CX1
    have hzw : w1.heap.size < (w1.alloc (.cells #[.int .i64 (foldD p).atoms, .slice a1 (foldD p).rules.length k1, x2, x3, x4, x5, x6, x7] 36)).heap.size := by simp
    generalize hwa : w1.alloc (.cells #[.int .i64 (foldD p).atoms, .slice a1 (foldD p).rules.length k1, x2, x3, x4, x5, x6, x7] 36) = wa at *
    rw [hn] at CXH st0 hwa ⊢
    obtain ⟨y0, y1, y2, y3, y4, y5, y6, y7⟩ := cells8 CXH.out
    go_wp2_with fail
    try rw [hwa]
    clear st0 st1 st2 st3 st4 st5 st6 st7
    refine (HAL _).out.mono ?_
    rintro e w2 ⟨v2, rfl, o2, b2⟩
    obtain ⟨pa, qa, hva, _, _⟩ := o2.open
    subst hva
    have t2 := t1.step b2
    go_wp2_with fail
    refine (specSetMeet_calls _ _ _ _ _ _ _ (hx.later t2).ints o2.ints).mono ?_
    rintro e w3 ⟨v3, rfl, o3, b3⟩
    rw [HML.out] at o3
    have t3 := t2.step b3
    clear y0 y1 y2 y3 y4 y5 y6 y7 o2
    have CX3 := Lib.hid ((CXH.out.later b2).later b3)
    obtain ⟨q, hq⟩ : ∃ q, q = foldD p := ⟨_, rfl⟩
    have g1 := Rd.mono (α := List RuleD) b3 (Rd.mono (α := List RuleD) b2 g1)
    have h1 := (h1.later b2).later b3
    clear CXH
    have CXH := CX3
    rw [← hq] at CXH h1 hm1 hr12 hv g1
    clear hq CX3 hok hx HML HAL hnq ha0 ha1
    obtain ⟨m, hm0⟩ : ∃ m : Nat, m = maskOf us &&& (2 ^ n - 1) := ⟨_, rfl⟩
    rw [← hm0] at o3 hv hmm
    clear hm0
    have o3 := o3.mono (B' := w.heap.size) (by have := t2.size; omega)
    generalize hrs : q.rules = rs at *
    go_wp2
    go_loopw [7] (fun s wr => ∃ j : Nat, OwnI w.heap.size wr s (mset (clN rs m j)) ∧ j ≤ (mset (clN rs m j)).length ∧ Below w3.heap.size w3 wr) (fun s _ => 12 - slLen s)
    case atStart => exact ⟨0, o3, Nat.zero_le _, Below.refl _ _⟩
    case round =>
      obtain ⟨j, os, hj, hb0⟩ := hrel
      have hM : clN rs m j < 4096 := clN_lt hmm j
      have HE := Lib.hid (clL_end hmm hj)
      have HN := Lib.hid (clN_next hmm hj)
      have HL := Lib.hid (clIt_len (rs := rs) hM)
      have HL2 := Lib.hid (fun he => clIt_less (rs := rs) hM he)
      have HS : Hid (clN rs m (j + 1) = clIt rs (clN rs m j)) := rfl
      generalize hMe : clN rs m j = M at *
      replace hMe := Lib.hid hMe
      have hl12 := mset_len12 M
      obtain ⟨ps, qs, hvs, _, _⟩ := os.open
      subst hvs
      obtain ⟨wo, rfl⟩ : ∃ wo, wo = wr := ⟨_, rfl⟩
      go_wp2
      go_loopw [8, 9] (fun s i wr => ∃ k : Nat, k ≤ rs.length ∧ i = .int .i64 k ∧ OwnI w.heap.size wr s (mset (clTo rs M k)) ∧ Below wo.heap.size wo wr) (fun _ i _ => rs.length - (intOf i).toNat)
      case atStart => exact ⟨0, Nat.zero_le _, rfl, os, Below.refl _ _⟩
      case round =>
        obtain ⟨k, hk, rfl, ho, hbo⟩ := hrel
        have hb := hb0.step hbo
        obtain ⟨y0, y1, y2, y3, y4, y5, y6, y7⟩ := cells8 (CXH.out.later hb)
        have hT : clTo rs M k < 4096 := clTo_lt hM k
        have HT : Hid (clTo rs M (k + 1) = clR (clTo rs M k) (nth rs k)) := rfl
        generalize hTe : clTo rs M k = X at *
        replace hTe := Lib.hid hTe
        obtain ⟨pt, qt, hvt, _, _⟩ := ho.open
        subst hvt
        by_cases hlt : k < rs.length
        · skip
          obtain ⟨b, off, rfl, hc⟩ := h1.base (by omega)
          obtain ⟨ecs, hC, hR⟩ := hc k hlt
          have hC := hC.later hb
          have hR := Rd.mono hb hR
          have hok12 := hr12.out _ (nth_mem hlt)
          have hR0 := hR
          obtain ⟨d1, d4, rfl, hf', r1, r4⟩ := hR0
          obtain ⟨ah, kh, rfl, hkh, hh⟩ := r1.sl
          obtain ⟨ab, kb, rfl, _, _⟩ := r4.sl
          have u0 := hC.c0
          have u1 := hC.c1
          have u2 := hC.c2
          have u3 := hC.c3
          have u4 := hC.c4
          rw [show Rd.k RuleD = 5 from rfl] at u0 u1 u2 u3 u4
          clear hC hc
          have hmx : Hid (pickTo (pickM (nth rs k).heads (mset X)) 12 = mset (X &&& maskOf (nth rs k).heads)) := mset_meet hT
          have hand : X &&& maskOf (nth rs k).heads < 4096 := Nat.lt_of_le_of_lt Nat.and_le_left hT
          have hnl := mset_nil hand
          by_cases hz0 : X &&& maskOf (nth rs k).heads = 0
          · have hX : Hid (clTo rs M (k + 1) = X) := by show _ = _; rw [HT.out, clR_no hz0]
            have hMd : ((mset (X &&& maskOf (nth rs k).heads)).length : Int) = 0 := by have := hnl.2 hz0; omega
            clear hnl hz0
            go_wp2_with fail
            refine (specSetMeet_calls _ _ _ _ _ _ _ hh.ints (ho.ints)).mono ?_
            rintro e w2 ⟨v2, rfl, ho2, b2⟩
            obtain ⟨p2, q2, hv2, _, _⟩ := ho2.open
            subst hv2
            have hb2 := hb.step b2
            rw [hmx.out]
            go_wp2
            go_roundw
            case rel => exact ⟨k + 1, by omega, by go_num, by rw [hX.out]; exact ho.kept b2, hbo.step b2⟩
            case measure => simp [intOf]; omega
          · have hX : Hid (clTo rs M (k + 1) = X ||| evM (nth rs k)) := by show _ = _; rw [HT.out, clR_yes hz0]
            have hMd : 0 < ((mset (X &&& maskOf (nth rs k).heads)).length : Int) := by
              have : (mset (X &&& maskOf (nth rs k).heads)).length ≠ 0 := fun e => hz0 (hnl.1 e)
              omega
            have hJ : Hid (pickTo (pickJ (mset X) (atomsB (nth rs k))) 12 = mset (X ||| evM (nth rs k))) := by show _ = _; rw [mset_join hT, evM_mask (fits_ruleOk hok12)]
            clear hnl hz0
            go_wp2_with fail
            refine (specSetMeet_calls _ _ _ _ _ _ _ hh.ints (ho.ints)).mono ?_
            rintro e w2 ⟨v2, rfl, ho2, b2⟩
            obtain ⟨p2, q2, hv2, _, _⟩ := ho2.open
            subst hv2
            have hb2 := hb.step b2
            rw [hmx.out]
            have ho := ho.kept b2
            clear y0 y1 y2 y3 y4 y5 y6 y7
            obtain ⟨y0, y1, y2, y3, y4, y5, y6, y7⟩ := cells8 (CXH.out.later hb2)
            replace u0 := cell_kept b2 u0
            replace u1 := cell_kept b2 u1
            replace u2 := cell_kept b2 u2
            replace u3 := cell_kept b2 u3
            replace u4 := cell_kept b2 u4
            go_wp2_with fail
            refine (specAtomsOf_calls (Rd.mono b2 hR) (sm_ok12 hok12)).mono ?_
            rintro e w3 ⟨v3, rfl, ho3, b3⟩
            obtain ⟨p3, q3, hv3, _, _⟩ := ho3.open
            subst hv3
            have hb3 := hb2.step b3
            have ho := ho.kept b3
            go_wp2_with fail
            refine (specSetJoin_calls _ _ _ _ _ _ _ ho.ints ho3.ints).mono ?_
            rintro e w4 ⟨v4, rfl, ho4, b4⟩
            rw [hJ.out] at ho4
            have hz := hb3.size
            have hw3 := t3.size
            go_wp2
            go_roundw
            case rel => exact ⟨k + 1, by omega, by go_num, by rw [hX.out]; exact ho4.mono (by omega), ((hbo.step b2).step b3).step b4⟩
            case measure => simp [intOf]; omega
        · have hX : Hid (X = clIt rs M) := by
            show _ = _
            rw [← hTe.out, show k = rs.length by omega]; rfl
          have os := os.kept hbo
          by_cases he : X = M
          · subst he
            have hE : Hid (X = clL rs m) := HE.out hX.out.symm
            clear HE HN HL HL2 HS hX hMe
            go_wp2
            go_ret
            exact ⟨_, rfl, by rw [hv.out, ← hE.out]; exact os, t3.step hb⟩
          · have hne : ¬ clIt rs M = M := fun e => he (hX.out.trans e)
            have hlen := Lib.hid (HL2.out hne)
            have hnn := Lib.hid (HN.out hne)
            have hXn : Hid (clN rs m (j + 1) = X) := by show _ = _; rw [HS.out, hX.out]
            have hlt2 : (mset M).length < (mset X).length := by have := hlen.out; rwa [← hX.out] at this
            have hei : (((mset X).length : Int) == ((mset M).length : Int)) = false := by rw [beq_eq_false_iff_ne]; omega
            have hl12x := mset_len12 X
            clear HE HN HL HL2 HS he hne
            go_wp2
            go_roundw
            case rel => exact ⟨j + 1, by rw [hXn.out]; exact ho, hnn.out, hb⟩
            case measure => show 12 - (mset X).length < 12 - (mset M).length; omega

end Go.Proofs.Ytjainjpcpnoikaa
