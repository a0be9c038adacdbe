/-
  The well-founded part: what spec answers. No condition of its own.
-/
import Derived.Test.YtfjcmnnddhomjaaGreatAnsS
import Derived.Test.YtfjcmnnddhomjaaGreatWfD
import Derived.Test.YtfjcmnnddhomjaaGreatAppend
namespace Go.Proofs.YtfjcmnnddhomjaaGreat
set_option linter.unusedVariables false
set_option linter.unusedSimpArgs false
open Go.RowKit
set_option maxRecDepth 100000


theorem allCh_noS {rs : List RuleD} {k : Nat} (h : k < rs.length) (hc : (nth rs k).choice = true) : rs.all noCh = false := by
  rw [List.all_eq_false]
  exact ⟨_, nth_mem h, by simp [noCh, hc]⟩
theorem allCh_yesS {rs : List RuleD} (h : ∀ j, j < rs.length → (nth rs j).choice = false) : rs.all noCh = true := by
  rw [List.all_eq_true]
  intro r hr
  obtain ⟨i, hi, rfl⟩ := List.getElem_of_mem hr
  rw [← nth_eq hi]
  simp [noCh, h i hi]
theorem plainB_R {p : ProgD} {b : Bool} (hb : foldB p = b) : plainB p = (b && (foldR p).rules.all noCh) := by
  subst hb
  cases h : foldB p
  · rw [plainB_A h]; rfl
  · rw [plainB_B h, foldR_yes h, Bool.true_and]

set_option maxHeartbeats 1000000 in
theorem specPlain_calls {cs : List Value} {p : ProgD} {w : World} (h : Rd.R w cs p) :
    Calls Tryz.prog 29 #[.agg cs.toArray] w fun e w' => e = .returned (.bool (plainB p)) ∧ Below w.heap.size w w' := by
  obtain ⟨p0, p1, p2, p3, p4, p5, p6, p7, rfl⟩ := list8 (Rd.len h)
  have t0 : Below w.heap.size w (w.alloc (.cells #[p0, p1, p2, p3, p4, p5, p6, p7] 37)) := (Below.refl _ _).alloc (by simp) _
  go_enter Tryz.func29, Tryz.ntmps29
  go_wp2_with fail
  refine (specFold_calls (Rd.mono t0 h)).mono ?_
  rintro e w1 ⟨cs1, he, o1, b1⟩
  obtain ⟨fb, hfb⟩ : ∃ fb, foldB p = fb := ⟨_, rfl⟩
  have HP := Lib.hid (plainB_R hfb)
  rw [hfb] at he
  subst he
  clear hfb
  obtain ⟨R, hR⟩ : ∃ R, R = foldR p := ⟨_, rfl⟩
  rw [← hR] at o1 HP
  clear hR
  have t1 := t0.step b1
  have l1 := Rd.one o1.rd
  obtain ⟨x0, x1, x2, x3, x4, x5, x6, x7, rfl⟩ := list8 (Rd.len o1.rd)
  have st0 := sto Tryz.prog (l1 x0 (by simp))
  have st1 := sto Tryz.prog (l1 x1 (by simp))
  have st2 := sto Tryz.prog (l1 x2 (by simp))
  have st3 := sto Tryz.prog (l1 x3 (by simp))
  have st4 := sto Tryz.prog (l1 x4 (by simp))
  have st5 := sto Tryz.prog (l1 x5 (by simp))
  have st6 := sto Tryz.prog (l1 x6 (by simp))
  have st7 := sto Tryz.prog (l1 x7 (by simp))
  have o1 := o1.alloc (.cells #[x0, x1, x2, x3, x4, x5, x6, x7] 37)
  have CX1 := Cells.new w1 [x0, x1, x2, x3, x4, x5, x6, x7] 37
  have t1 := t1.alloc t1.size (.cells #[x0, x1, x2, x3, x4, x5, x6, x7] 37)
  clear l1
  have oR := o1.rd
  obtain ⟨_, _, _, _, _, _, hl, hfa, g1, _⟩ := oR
  simp only [List.cons.injEq, and_true] at hl
  obtain ⟨rfl, rfl, -⟩ := hl
  obtain ⟨a1, k1, rfl, _, h1⟩ := g1.sl
  have hm1 := h1.1
  have CXH := Lib.hid CX1
  have hzw : w1.heap.size < (w1.alloc (.cells #[.int .i64 (R).atoms, .slice a1 (R).rules.length k1, x2, x3, x4, x5, x6, x7] 37)).heap.size := by simp
  generalize hwa : w1.alloc (.cells #[.int .i64 (R).atoms, .slice a1 (R).rules.length k1, x2, x3, x4, x5, x6, x7] 37) = wa at *
  go_wp2
  try rw [hwa]
  clear st0 st1 st2 st3 st4 st5 st6 st7
  go_loopw [5] (fun i wr => ∃ k : Nat, k ≤ R.rules.length ∧ i = .int .i64 k ∧ (∀ j, j < k → (nth R.rules j).choice = false) ∧ Below wa.heap.size wa wr) (fun i _ => R.rules.length - (intOf i).toNat)
  case atStart => exact ⟨0, Nat.zero_le _, rfl, fun j hj => absurd hj (Nat.not_lt_zero _), Below.refl _ _⟩
  case round =>
    obtain ⟨k, hk, rfl, hA, hb⟩ := hrel
    have HA := Lib.hid hA
    clear hA
    obtain ⟨y0, y1, y2, y3, y4, y5, y6, y7⟩ := cells8 (CXH.out.later hb)
    by_cases hlt : k < R.rules.length
    · obtain ⟨b, off, rfl, hc⟩ := h1.base (by omega)
      obtain ⟨ecs, hC, hR⟩ := hc k hlt
      have hC := hC.later hb
      have hR := Rd.mono hb hR
      have hR0 := hR
      obtain ⟨d1, d4, rfl, hf', r1, r4⟩ := hR0
      have u0 := hC.c0
      rw [show Rd.k RuleD = 5 from rfl] at u0
      clear hC hc h1 r1 r4 hR
      cases hch : (nth R.rules k).choice
      · have hN := Lib.hid hch
        rw [hch] at u0
        clear hch
        go_wp2
        go_roundw
        case rel => exact ⟨k + 1, by omega, by go_num, fun j hj => by
          rcases Nat.lt_succ_iff_lt_or_eq.1 hj with h | h
          · exact HA.out j h
          · subst h; exact hN.out, hb⟩
        case measure => simp [intOf]; omega
      · have hN := Lib.hid hch
        rw [hch] at u0
        clear hch
        go_wp2
        go_ret
        exact ⟨ret_bool (by rw [HP.out, allCh_noS hlt hN.out, Bool.and_false]), t1.step hb⟩
    · obtain rfl : k = R.rules.length := by omega
      go_wp2
      go_ret
      exact ⟨ret_bool (by rw [HP.out, allCh_yesS HA.out, Bool.and_true]), t1.step hb⟩

set_option maxHeartbeats 2000000 in
theorem specWellFounded_calls {cs : List Value} {p : ProgD} {w : World} (h : Rd.R w cs p) :
    Calls Tryz.prog 14 #[.agg cs.toArray] w fun e w' => ∃ u1 u2, e = .returned (.tuple #[u1, u2, .bool (plainB p)]) ∧ OwnI w.heap.size w' u1 (wfTR p) ∧ OwnI w.heap.size w' u2 (wfFR p) ∧ Below w.heap.size w w' := by
  obtain ⟨p0, p1, p2, p3, p4, p5, p6, p7, rfl⟩ := list8 (Rd.len h)
  have t0 : Below w.heap.size w (w.alloc (.cells #[p0, p1, p2, p3, p4, p5, p6, p7] 37)) := (Below.refl _ _).alloc (by simp) _
  have CP := Cells.new w [p0, p1, p2, p3, p4, p5, p6, p7] 37
  go_enter Tryz.func14, Tryz.ntmps14
  go_wp2_with fail
  refine (specPlain_calls (Rd.mono t0 h)).mono ?_
  rintro e w0 ⟨he, b0⟩
  have t0' := t0.step b0
  cases hP : plainB p
  · have HPB := Lib.hid hP
    have hv1 := Lib.hid (wfTR_no hP)
    have hv2 := Lib.hid (wfFR_no hP)
    rw [hP] at he
    subst he
    have hz : w.heap.size ≤ w0.heap.size := t0'.size
    go_wp2
    refine bodyPost_ret (v := .tuple #[.slice (some ⟨w0.heap.size, 0, none⟩) 0 0, .slice (some ⟨w0.heap.size + 1, 0, none⟩) 0 0, .bool false]) (by simp [results, Tryz.results14, go_sem]) rfl ?_
    refine ⟨_, _, by rw [HPB.out], ?_, ?_, (t0'.alloc hz _).alloc (by simp; omega) _⟩
    · rw [hv1.out]
      exact (OwnI.new w0 w.heap.size hz).kept ((Below.refl _ _).alloc (Nat.le_refl _) _)
    · rw [hv2.out]
      have := OwnI.new (w0.alloc (.cells #[] 3)) w.heap.size (by simp; omega)
      rw [World.size_alloc] at this
      exact this
  · have HPB := Lib.hid hP
    have hv1 := Lib.hid (wfTR_yes hP)
    have hv2 := Lib.hid (wfFR_yes hP)
    have hF := plainB_fold hP
    have hok : progOkB (foldD p) = true := foldR_ok hF
    have hr12 := Lib.hid (rules12 hok)
    have HCH := Lib.hid (plainB_ch hP)
    have HW := Lib.hid (foldD_wts hF)
    rw [hP] at he
    subst he
    obtain ⟨y0, y1, y2, y3, y4, y5, y6, y7⟩ := cells8 (CP.later b0)
    go_wp2_with fail
    refine (specFold_calls (Rd.mono t0' h)).mono ?_
    rintro e w1 ⟨cs1, he, o1, b1⟩
    rw [hF] at he
    rw [foldR_yes hF] at o1
    subst he
    clear y0 y1 y2 y3 y4 y5 y6 y7 t0 b0 CP
    have t0 := t0'
    have t1 := t0.step b1
    have l1 := Rd.one o1.rd
    obtain ⟨x0, x1, x2, x3, x4, x5, x6, x7, rfl⟩ := list8 (Rd.len o1.rd)
    have st0 := sto Tryz.prog (l1 x0 (by simp))
    have st1 := sto Tryz.prog (l1 x1 (by simp))
    have st2 := sto Tryz.prog (l1 x2 (by simp))
    have st3 := sto Tryz.prog (l1 x3 (by simp))
    have st4 := sto Tryz.prog (l1 x4 (by simp))
    have st5 := sto Tryz.prog (l1 x5 (by simp))
    have st6 := sto Tryz.prog (l1 x6 (by simp))
    have st7 := sto Tryz.prog (l1 x7 (by simp))
    have o1 := o1.alloc (.cells #[x0, x1, x2, x3, x4, x5, x6, x7] 37)
    have CX1 := Cells.new w1 [x0, x1, x2, x3, x4, x5, x6, x7] 37
    have t1 := t1.alloc t1.size (.cells #[x0, x1, x2, x3, x4, x5, x6, x7] 37)
    clear l1
    have oR := o1.rd
    obtain ⟨_, _, _, _, _, _, hl, hfa, g1, _⟩ := oR
    simp only [List.cons.injEq, and_true] at hl
    obtain ⟨rfl, rfl, -⟩ := hl
    obtain ⟨a1, k1, rfl, _, h1⟩ := g1.sl
    have hm1 := h1.1
    have CXH := Lib.hid CX1
    have hzw : w1.heap.size < (w1.alloc (.cells #[.int .i64 (foldD p).atoms, .slice a1 (foldD p).rules.length k1, x2, x3, x4, x5, x6, x7] 37)).heap.size := by simp
    generalize hwa : w1.alloc (.cells #[.int .i64 (foldD p).atoms, .slice a1 (foldD p).rules.length k1, x2, x3, x4, x5, x6, x7] 37) = wa at *
    go_wp2
    try rw [hwa]
    clear st0 st1 st2 st3 st4 st5 st6 st7
    have hzt := t1.size
    go_loopw [7] (fun s wr => ∃ n : Nat, n ≤ (wfIt (foldD p).rules n).length ∧ OwnI w.heap.size wr s (wfIt (foldD p).rules n) ∧ Below wa.heap.size wa wr) (fun s _ => 13 - lenOf s)
    case atStart => exact ⟨0, Nat.zero_le _, OwnI.new _ _ hzt, (Below.refl _ _).alloc (Nat.le_refl _) _⟩
    case round =>
      obtain ⟨n, hn, ho, hb⟩ := hrel
      have HN := Lib.hid hn
      clear hn
      have hlen := (wfIt_isP (rs := (foldD p).rules) n).le
      have hlen2 := (wfIt_isP (rs := (foldD p).rules) (n + 1)).le
      obtain ⟨y0, y1, y2, y3, y4, y5, y6, y7⟩ := cells8 (CXH.out.later hb)
      have gR := Rd.mono (α := List RuleD) hb g1
      obtain ⟨at1, kt1, rfl, htI, _⟩ := ho.open
      go_wp2_with fail
      refine (l05Least_calls false gR ho.own.rd hr12.out).mono ?_
      rintro e w2 ⟨v2, rfl, o2, b2⟩
      have hb2 := hb.step b2
      have gR2 := Rd.mono (α := List RuleD) hb2 g1
      have z2 := hb.size
      have o2 : OwnI w.heap.size w2 v2 _ := o2.mono (by omega)
      clear y0 y1 y2 y3 y4 y5 y6 y7
      obtain ⟨y0, y1, y2, y3, y4, y5, y6, y7⟩ := cells8 (CXH.out.later hb2)
      obtain ⟨af, kf, rfl, _, _⟩ := o2.open
      go_wp2_with fail
      refine (l05Least_calls false gR2 o2.own.rd hr12.out).mono ?_
      rintro e w3 ⟨v3, rfl, o3, b3⟩
      have hb3 := hb2.step b3
      have z3 := hb2.size
      have o3 : OwnI w.heap.size w3 v3 (wfIt (foldD p).rules (n + 1)) := o3.mono (by omega)
      have ho3 := (ho.kept b2).kept b3
      have o23 := o2.kept b3
      obtain ⟨as3, ks3, rfl, hsI, _⟩ := o3.open
      go_wp2_with fail
      refine (l01Same_calls _ _ _ _ _ _ _ hsI ho3.ints).mono ?_
      rintro e w4 ⟨he, b4⟩
      have hb4 := hb3.step b4
      have ho4 := ho3.kept b4
      have o24 := o23.kept b4
      have o34 := o3.kept b4
      by_cases hq : wfIt (foldD p).rules (n + 1) = wfIt (foldD p).rules n
      · have hE := Lib.hid (wfIt_end (by have := HN.out; omega) hq)
        have he' : eqB (wfIt (foldD p).rules (n + 1)) (wfIt (foldD p).rules n) = true := by rw [eqB_dec]; exact decide_eq_true hq
        rw [he'] at he
        subst he
        clear hq he'
        go_wp2
        refine bodyPost_ret (v := .tuple #[.slice at1 (wfIt (foldD p).rules n).length kt1, .slice af (leastL (foldD p).rules (wfIt (foldD p).rules n) false).length kf, .bool true]) (by simp [results, Tryz.results14, go_sem]) rfl ?_
        refine ⟨_, _, by rw [HPB.out], ?_, ?_, t1.step hb4⟩
        · rw [hv1.out, ← hE.out]; exact ho4
        · rw [hv2.out]; unfold wfF; rw [← hE.out]; exact o24
      · have hM := wfIt_more HW.out HCH.out HN.out hq
        have he' : eqB (wfIt (foldD p).rules (n + 1)) (wfIt (foldD p).rules n) = false := by rw [eqB_dec]; exact decide_eq_false hq
        rw [he'] at he
        subst he
        clear hq he'
        go_wp2
        go_roundw
        case rel => exact ⟨n + 1, hM.1, o34, hb4⟩
        case measure => simp [lenOf]; omega

theorem specSettled_calls {cs : List Value} {p : ProgD} {w : World} (h : Rd.R w cs p) :
    Calls Tryz.prog 22 #[.agg cs.toArray] w fun e w' => e = .returned (.bool (setlB p)) ∧ Below w.heap.size w w' := by
  obtain ⟨p0, p1, p2, p3, p4, p5, p6, p7, rfl⟩ := list8 (Rd.len h)
  have t0 : Below w.heap.size w (w.alloc (.cells #[p0, p1, p2, p3, p4, p5, p6, p7] 37)) := (Below.refl _ _).alloc (by simp) _
  go_enter Tryz.func22, Tryz.ntmps22
  go_wp2_with fail
  refine (specWellFounded_calls (Rd.mono t0 h)).mono ?_
  rintro e w1 ⟨u1, u2, he, o1, o2, b1⟩
  have t1 := t0.step b1
  obtain ⟨a1, k1, rfl, hI1, _⟩ := o1.open
  obtain ⟨a2, k2, rfl, hI2, _⟩ := o2.open
  cases hP : plainB p
  · have hv := Lib.hid (setlB_no hP)
    rw [hP] at he
    subst he
    go_wp2
    go_ret
    exact ⟨ret_bool hv.out.symm, t1⟩
  · have hv : Hid (setlB p = eqB (wfTR p) (wfFR p)) := by show _ = _; simp only [setlB, hP, Bool.true_and]; rfl
    rw [hP] at he
    subst he
    go_wp2_with fail
    refine (l01Same_calls _ _ _ _ _ _ _ hI1 hI2).mono ?_
    rintro e w2 ⟨rfl, b2⟩
    go_wp2
    go_ret
    exact ⟨ret_bool hv.out.symm, t1.step b2⟩

end Go.Proofs.YtfjcmnnddhomjaaGreat
