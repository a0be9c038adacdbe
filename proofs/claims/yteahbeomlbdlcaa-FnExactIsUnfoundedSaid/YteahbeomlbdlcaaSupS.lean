/-
  Support and unfounded sets: what spec answers. No condition of its own.
-/
import Derived.Test.YteahbeomlbdlcaaAnsS
import Derived.Test.YteahbeomlbdlcaaSupD
import Derived.Test.YteahbeomlbdlcaaAppend
namespace Go.Proofs.Yteahbeomlbdlcaa
set_option linter.unusedVariables false
set_option linter.unusedSimpArgs false
open Go.RowKit
set_option maxRecDepth 100000



theorem nth_el' (xs : List Int) (k : Nat) : nth xs k = el xs k := rfl
theorem atomHd_A {q : ProgD} {xs : List Int} {a : Int} (h : ¬ (1 ≤ a ∧ a ≤ 12)) : atomHd q xs a = true := by
  unfold atomHd
  rw [show btwB a 1 12 = false from decide_eq_false h]; rfl
theorem atomHd_B {q : ProgD} {xs : List Int} {a : Int} (h : 1 ≤ a ∧ a ≤ 12) : atomHd q xs a = hasB (hdsTo q.rules xs q.rules.length) a := by
  unfold atomHd
  rw [show btwB a 1 12 = true from decide_eq_true h]; rfl
set_option maxHeartbeats 4000000 in
theorem specSupported_calls {cs : List Value} {p : ProgD} {w : World} {v : Value} {xs : List Int} (h : Rd.R w cs p) (gx : RdL w [v] xs) :
    Calls Try.prog 17 #[.agg cs.toArray, v] w fun e w' => e = .returned (.bool (supB p xs)) ∧ Below w.heap.size w w' := by
  obtain ⟨i0, hi, hz0, hz1, hz2⟩ := info_parts info_int
  obtain ⟨p0, p1, p2, p3, p4, p5, p6, p7, rfl⟩ := list8 (Rd.len h)
  obtain ⟨ax, cx, rfl, _, hx⟩ := gx.sl
  have t0 : Below w.heap.size w (w.alloc (.cells #[p0, p1, p2, p3, p4, p5, p6, p7] 30)) := (Below.refl _ _).alloc (by simp) _
  cases hF : foldB p
  · have hv := Lib.hid (supB_no (xs := xs) hF)
    go_enter Try.func17, Try.ntmps17
    go_wp2_with fail
    refine (specFold_calls (Rd.mono t0 h)).mono ?_
    rintro e w1 ⟨cs1, he, o1, b1⟩
    rw [hF] at he
    subst he
    have t1 := t0.step b1
    have l1 := Rd.one o1.rd
    obtain ⟨x0, x1, x2, x3, x4, x5, x6, x7, rfl⟩ := list8 (Rd.len o1.rd)
    have st0 := sto Try.prog (l1 x0 (by simp))
    have st1 := sto Try.prog (l1 x1 (by simp))
    have st2 := sto Try.prog (l1 x2 (by simp))
    have st3 := sto Try.prog (l1 x3 (by simp))
    have st4 := sto Try.prog (l1 x4 (by simp))
    have st5 := sto Try.prog (l1 x5 (by simp))
    have st6 := sto Try.prog (l1 x6 (by simp))
    have st7 := sto Try.prog (l1 x7 (by simp))
    have o1 := o1.alloc (.cells #[x0, x1, x2, x3, x4, x5, x6, x7] 30)
    have CX1 := Cells.new w1 [x0, x1, x2, x3, x4, x5, x6, x7] 30
    have t1 := t1.alloc t1.size (.cells #[x0, x1, x2, x3, x4, x5, x6, x7] 30)
    clear l1
    go_wp2
    go_ret
    exact ⟨ret_bool hv.out.symm, t1⟩
  · have hok : progOkB (foldD p) = true := foldR_ok hF
    have hr12 := Lib.hid (rules12 hok)
    have hlen := (progOk_rules hok).1
    have hv : Hid (supB p xs = xs.all (atomHd (foldD p) xs)) := by show _ = _; rw [supB_yes hF, supQ_all (rules12 hok)]
    have hhl : ∀ r ∈ (foldD p).rules, r.heads.length ≤ 12 := fun r hr => by
      have := rules12 hok r hr
      simp only [ruleOkB, headsB, Bool.and_eq_true] at this
      exact Nat.le_trans (Nat.le_of_eq (by rw [isP_set this.1.1, ← isP_set this.1.1])) (isP_set this.1.1).le
    go_enter Try.func17, Try.ntmps17
    go_wp2_with fail
    refine (specFold_calls (Rd.mono t0 h)).mono ?_
    rintro e w1 ⟨cs1, he, o1, b1⟩
    rw [hF] at he
    rw [foldR_yes hF] at o1
    subst he
    have t1 := t0.step b1
    have l1 := Rd.one o1.rd
    obtain ⟨x0, x1, x2, x3, x4, x5, x6, x7, rfl⟩ := list8 (Rd.len o1.rd)
    have st0 := sto Try.prog (l1 x0 (by simp))
    have st1 := sto Try.prog (l1 x1 (by simp))
    have st2 := sto Try.prog (l1 x2 (by simp))
    have st3 := sto Try.prog (l1 x3 (by simp))
    have st4 := sto Try.prog (l1 x4 (by simp))
    have st5 := sto Try.prog (l1 x5 (by simp))
    have st6 := sto Try.prog (l1 x6 (by simp))
    have st7 := sto Try.prog (l1 x7 (by simp))
    have o1 := o1.alloc (.cells #[x0, x1, x2, x3, x4, x5, x6, x7] 30)
    have CX1 := Cells.new w1 [x0, x1, x2, x3, x4, x5, x6, x7] 30
    have t1 := t1.alloc t1.size (.cells #[x0, x1, x2, x3, x4, x5, x6, x7] 30)
    clear l1
    have oR := o1.rd
    obtain ⟨_, _, _, _, _, _, hl, hfa, g1, _⟩ := oR
    simp only [List.cons.injEq, and_true] at hl
    obtain ⟨rfl, rfl, -⟩ := hl
    obtain ⟨a1, k1, rfl, _, h1⟩ := g1.sl
    have hm1 := h1.1
    have CXH := Lib.hid CX1
    have hzw : w1.heap.size < (w1.alloc (.cells #[.int .i64 (foldD p).atoms, .slice a1 (foldD p).rules.length k1, x2, x3, x4, x5, x6, x7] 30)).heap.size := by simp
    generalize hwa : w1.alloc (.cells #[.int .i64 (foldD p).atoms, .slice a1 (foldD p).rules.length k1, x2, x3, x4, x5, x6, x7] 30) = wa at *
    obtain ⟨y0, y1, y2, y3, y4, y5, y6, y7⟩ := cells8 CXH.out
    have hxa := hx.later t1
    have gxa := Rd.mono (α := List Int) t1 gx
    have hza := t1.size
    have hmx := hx.1
    obtain ⟨q, hq⟩ : ∃ q, q = foldD p := ⟨_, rfl⟩
    rw [← hq] at CXH h1 hm1 hlen hhl hr12 hv y0 y1 g1
    clear hq
    clear hok
    go_wp2
    try rw [hwa]
    clear st0 st1 st2 st3 st4 st5 st6 st7
    clear y0 y1 y2 y3 y4 y5 y6 y7
    go_loopw [7, 8] (fun s i wr => ∃ k : Nat, k ≤ q.rules.length ∧ i = .int .i64 (k : Int) ∧ OwnI wa.heap.size wr s (hdsTo q.rules xs k) ∧ Below wa.heap.size wa wr) (fun _ i _ => q.rules.length - (intOf i).toNat)
    case atStart => exact ⟨0, Nat.zero_le _, rfl, OwnI.new _ _ (Nat.le_refl _), (Below.refl _ _).alloc (Nat.le_refl _) _⟩
    case round =>
      obtain ⟨k, hk, rfl, ho, hb⟩ := hrel
      have hz := hb.size
      have hbl := hdsTo_len (xs := xs) hhl k hk
      obtain ⟨y0, y1, y2, y3, y4, y5, y6, y7⟩ := cells8 (CXH.out.later hb)
      by_cases hlt : k < q.rules.length
      · skip
        obtain ⟨b, off, rfl, hc⟩ := h1.base (by omega)
        obtain ⟨ecs, hC, hR⟩ := hc k hlt
        have hC := hC.later hb
        have hR := Rd.mono hb hR
        have hok12 := hr12.out _ (nth_mem hlt)
        have hR0 := hR
        obtain ⟨d1, d4, rfl, hf', r1, r4⟩ := hR0
        obtain ⟨ah, kh, rfl, hkh, hh⟩ := r1.sl
        obtain ⟨ab, kb, rfl, _, _⟩ := r4.sl
        have u0 := hC.c0
        have u1 := hC.c1
        have u2 := hC.c2
        have u3 := hC.c3
        have u4 := hC.c4
        rw [show Rd.k RuleD = 5 from rfl] at u0 u1 u2 u3 u4
        clear hC hc
        have hhk := hhl _ (nth_mem hlt)
        cases hB : bodyHoldsB (nth q.rules k) xs
        · have hS := Lib.hid (hdsTo_no hB)
          go_wp2_with fail
          refine (specBodyHolds_calls hR (Rd.mono (α := List Int) hb gxa)).mono ?_
          rintro e w2 ⟨he, b2⟩
          rw [hB] at he
          subst he
          have hb2 := hb.step b2
          have ho2 := ho.kept b2
          clear hB
          go_wp2
          go_roundw
          case rel => exact ⟨k + 1, by omega, by go_num, by rw [hS.out]; exact ho2, hb2⟩
          case measure => simp [intOf]; omega
        · have hS := Lib.hid (hdsTo_yes hB)
          go_wp2_with fail
          refine (specBodyHolds_calls hR (Rd.mono (α := List Int) hb gxa)).mono ?_
          rintro e w2 ⟨he, b2⟩
          rw [hB] at he
          subst he
          have hb2 := hb.step b2
          have ho2 := ho.kept b2
          have hzb := hb2.size
          clear hB y0 y1 y2 y3 y4 y5 y6 y7
          obtain ⟨y0, y1, y2, y3, y4, y5, y6, y7⟩ := cells8 (CXH.out.later hb2)
          replace u1 := cell_kept b2 u1
          have r1' := Rd.mono (α := List Int) b2 r1
          have hp1 : ((hdsTo q.rules xs k).length + (nth q.rules k).heads.length) * 8 ≤ 140737488355328 := by omega
          have hp2 : (hdsTo q.rules xs k).length + (nth q.rules k).heads.length ≤ 140737488355328 := by omega
          have hp3 : wa.heap.size ≤ w2.heap.size := by omega
          have ho2f := ho2.flat
          obtain ⟨av, kv, rfl, _, _⟩ := ho2.open
          go_wp2_with (at_builtin; refine wpList_append_flat (α := Int) rfl _ _ 26 rfl i0 (.int .i64 0) 8 Try.underlying26 hi hz0 hz1 hz2 rfl rfl ho2f rfl r1' hp1 hp2 hp3 ?_; intro v' w' ho' hb' _)
          go_roundw
          case rel => exact ⟨k + 1, by omega, by go_num, by rw [hS.out]; exact ho'.ints (by rw [List.length_append]; omega), hb2.trans hb'⟩
          case measure => simp [intOf]; omega
      · obtain rfl : k = q.rules.length := by omega
        have hx2 := hxa.later hb
        obtain ⟨wz, hwz⟩ : ∃ wz, wz = wr := ⟨_, rfl⟩
        obtain ⟨ah, kh, rfl, hI, _⟩ := ho.open
        have tz := t1.step hb
        clear h1 g1 hb
        rw [← hwz] at hI hx2 tz
        go_wp2
        clear y0 y1 y2 y3 y4 y5 y6 y7
        go_loopw [9] (fun i ws => ∃ k : Nat, k ≤ xs.length ∧ i = .int .i64 (k : Int) ∧ Hid ((xs.take k).all (atomHd q xs) = true) ∧ Below wz.heap.size wz ws) (fun i _ => xs.length - (intOf i).toNat)
        case atStart => exact ⟨0, Nat.zero_le _, rfl, show (xs.take 0).all _ = true by simp, by rw [hwz]; exact Below.refl _ _⟩
        case round =>
          obtain ⟨k, hk, rfl, hS, hb⟩ := hrel
          by_cases hlt : k < xs.length
          · obtain ⟨b, off, rfl, hc⟩ := hx2.ints.at (by omega)
            have hck := cell_kept hb (hc k hlt)
            have hFk := hx2.ints.2.1 _ (el_mem hlt)
            by_cases h1 : 1 ≤ el xs k
            · by_cases h2 : el xs k ≤ 12
              · cases hH : hasB (hdsTo q.rules xs q.rules.length) (el xs k)
                · have hv2 : Hid (supB p xs = false) := by show _ = _; rw [hv.out, all_no hlt (by rw [nth_el', atomHd_B ⟨h1, h2⟩, hH])]
                  go_wp2_with (go_at_call 44; refine (SetHas_calls _ _ _ _ _ (hI.later hb)).mono ?_; rintro e w' ⟨he, rfl⟩; rw [hH] at he; subst he)
                  go_ret
                  exact ⟨ret_bool hv2.out.symm, tz.step hb⟩
                · have hS' := Lib.hid (all_take hlt hS.out (by rw [nth_el', atomHd_B ⟨h1, h2⟩, hH]))
                  go_wp2_with (go_at_call 44; refine (SetHas_calls _ _ _ _ _ (hI.later hb)).mono ?_; rintro e w' ⟨he, rfl⟩; rw [hH] at he; subst he)
                  go_roundw
                  case rel => exact ⟨k + 1, by omega, by go_num, hS', hb⟩
                  case measure => simp [intOf]; omega
              · have hS' := Lib.hid (all_take hlt hS.out (by rw [nth_el', atomHd_A (by omega)]))
                have h2' : 12 < el xs k := by omega
                have h2d : decide (el xs k ≤ 12) = false := decide_eq_false (by omega)
                clear h2
                go_wp2
                go_roundw
                case rel => exact ⟨k + 1, by omega, by go_num, hS', hb⟩
                case measure => simp [intOf]; omega
            · have hS' := Lib.hid (all_take hlt hS.out (by rw [nth_el', atomHd_A (by omega)]))
              have h1' : el xs k < 1 := by omega
              have h1d : decide (1 ≤ el xs k) = false := decide_eq_false (by omega)
              clear h1
              go_wp2
              go_roundw
              case rel => exact ⟨k + 1, by omega, by go_num, hS', hb⟩
              case measure => simp [intOf]; omega
          · have hv2 : Hid (supB p xs = true) := by show _ = _; rw [hv.out]; exact all_end (by omega) hS.out
            go_wp2
            go_ret
            exact ⟨ret_bool hv2.out.symm, tz.step hb⟩

set_option maxHeartbeats 4000000 in
theorem specIsUnfounded_calls {cs : List Value} {p : ProgD} {w : World} {v v2 : Value} {xs us : List Int} (h : Rd.R w cs p) (gx : RdL w [v] xs) (gu : RdL w [v2] us) :
    Calls Try.prog 23 #[.agg cs.toArray, v, v2] w fun e w' => e = .returned (.bool (isUnfB p xs us)) ∧ Below w.heap.size w w' := by
  obtain ⟨p0, p1, p2, p3, p4, p5, p6, p7, rfl⟩ := list8 (Rd.len h)
  obtain ⟨ax, cx, rfl, _, hx⟩ := gx.sl
  have t0 : Below w.heap.size w (w.alloc (.cells #[p0, p1, p2, p3, p4, p5, p6, p7] 30)) := (Below.refl _ _).alloc (by simp) _
  obtain ⟨au, cu, rfl, _, hu⟩ := gu.sl
  have hmu0 := hu.1
  cases hF : foldB p
  · have hv := Lib.hid (isUnfB_no (xs := xs) (us := us) hF)
    go_enter Try.func23, Try.ntmps23
    go_wp2_with fail
    refine (specFold_calls (Rd.mono t0 h)).mono ?_
    rintro e w1 ⟨cs1, he, o1, b1⟩
    rw [hF] at he
    subst he
    have t1 := t0.step b1
    have l1 := Rd.one o1.rd
    obtain ⟨x0, x1, x2, x3, x4, x5, x6, x7, rfl⟩ := list8 (Rd.len o1.rd)
    have st0 := sto Try.prog (l1 x0 (by simp))
    have st1 := sto Try.prog (l1 x1 (by simp))
    have st2 := sto Try.prog (l1 x2 (by simp))
    have st3 := sto Try.prog (l1 x3 (by simp))
    have st4 := sto Try.prog (l1 x4 (by simp))
    have st5 := sto Try.prog (l1 x5 (by simp))
    have st6 := sto Try.prog (l1 x6 (by simp))
    have st7 := sto Try.prog (l1 x7 (by simp))
    have o1 := o1.alloc (.cells #[x0, x1, x2, x3, x4, x5, x6, x7] 30)
    have CX1 := Cells.new w1 [x0, x1, x2, x3, x4, x5, x6, x7] 30
    have t1 := t1.alloc t1.size (.cells #[x0, x1, x2, x3, x4, x5, x6, x7] 30)
    clear l1
    go_wp2
    go_ret
    exact ⟨ret_bool hv.out.symm, t1⟩
  · have hok : progOkB (foldD p) = true := foldR_ok hF
    have hr12 := Lib.hid (rules12 hok)
    by_cases hn : us.length = 0
    · have hv : Hid (isUnfB p xs us = false) := by show _ = _; rw [isUnfB_yes hF, isUnfQ_B hn]
      have hn' : ((us.length : Int) == 0) = true := by simpa using hn
      have hn2 : (us.length : Int) = 0 := by omega
      go_enter Try.func23, Try.ntmps23
      go_wp2_with fail
      refine (specFold_calls (Rd.mono t0 h)).mono ?_
      rintro e w1 ⟨cs1, he, o1, b1⟩
      rw [hF] at he
      rw [foldR_yes hF] at o1
      subst he
      have t1 := t0.step b1
      have l1 := Rd.one o1.rd
      obtain ⟨x0, x1, x2, x3, x4, x5, x6, x7, rfl⟩ := list8 (Rd.len o1.rd)
      have st0 := sto Try.prog (l1 x0 (by simp))
      have st1 := sto Try.prog (l1 x1 (by simp))
      have st2 := sto Try.prog (l1 x2 (by simp))
      have st3 := sto Try.prog (l1 x3 (by simp))
      have st4 := sto Try.prog (l1 x4 (by simp))
      have st5 := sto Try.prog (l1 x5 (by simp))
      have st6 := sto Try.prog (l1 x6 (by simp))
      have st7 := sto Try.prog (l1 x7 (by simp))
      have o1 := o1.alloc (.cells #[x0, x1, x2, x3, x4, x5, x6, x7] 30)
      have CX1 := Cells.new w1 [x0, x1, x2, x3, x4, x5, x6, x7] 30
      have t1 := t1.alloc t1.size (.cells #[x0, x1, x2, x3, x4, x5, x6, x7] 30)
      clear l1
      have oR := o1.rd
      obtain ⟨_, _, _, _, _, _, hl, hfa, g1, _⟩ := oR
      simp only [List.cons.injEq, and_true] at hl
      obtain ⟨rfl, rfl, -⟩ := hl
      obtain ⟨a1, k1, rfl, _, h1⟩ := g1.sl
      have hm1 := h1.1
      have CXH := Lib.hid CX1
      have hzw : w1.heap.size < (w1.alloc (.cells #[.int .i64 (foldD p).atoms, .slice a1 (foldD p).rules.length k1, x2, x3, x4, x5, x6, x7] 30)).heap.size := by simp
      generalize hwa : w1.alloc (.cells #[.int .i64 (foldD p).atoms, .slice a1 (foldD p).rules.length k1, x2, x3, x4, x5, x6, x7] 30) = wa at *
      obtain ⟨y0, y1, y2, y3, y4, y5, y6, y7⟩ := cells8 CXH.out
      go_wp2
      try rw [hwa]
      go_ret
      exact ⟨ret_bool hv.out.symm, t1⟩
    · have hnb : ((us.length : Int) == 0) = false := by simpa using hn
      cases hS : setOkB us (foldD p).atoms
      · have hv : Hid (isUnfB p xs us = false) := by show _ = _; rw [isUnfB_yes hF, isUnfQ_A hS]
        go_enter Try.func23, Try.ntmps23
        go_wp2_with fail
        refine (specFold_calls (Rd.mono t0 h)).mono ?_
        rintro e w1 ⟨cs1, he, o1, b1⟩
        rw [hF] at he
        rw [foldR_yes hF] at o1
        subst he
        have t1 := t0.step b1
        have l1 := Rd.one o1.rd
        obtain ⟨x0, x1, x2, x3, x4, x5, x6, x7, rfl⟩ := list8 (Rd.len o1.rd)
        have st0 := sto Try.prog (l1 x0 (by simp))
        have st1 := sto Try.prog (l1 x1 (by simp))
        have st2 := sto Try.prog (l1 x2 (by simp))
        have st3 := sto Try.prog (l1 x3 (by simp))
        have st4 := sto Try.prog (l1 x4 (by simp))
        have st5 := sto Try.prog (l1 x5 (by simp))
        have st6 := sto Try.prog (l1 x6 (by simp))
        have st7 := sto Try.prog (l1 x7 (by simp))
        have o1 := o1.alloc (.cells #[x0, x1, x2, x3, x4, x5, x6, x7] 30)
        have CX1 := Cells.new w1 [x0, x1, x2, x3, x4, x5, x6, x7] 30
        have t1 := t1.alloc t1.size (.cells #[x0, x1, x2, x3, x4, x5, x6, x7] 30)
        clear l1
        have oR := o1.rd
        obtain ⟨_, _, _, _, _, _, hl, hfa, g1, _⟩ := oR
        simp only [List.cons.injEq, and_true] at hl
        obtain ⟨rfl, rfl, -⟩ := hl
        obtain ⟨a1, k1, rfl, _, h1⟩ := g1.sl
        have hm1 := h1.1
        have CXH := Lib.hid CX1
        have hzw : w1.heap.size < (w1.alloc (.cells #[.int .i64 (foldD p).atoms, .slice a1 (foldD p).rules.length k1, x2, x3, x4, x5, x6, x7] 30)).heap.size := by simp
        generalize hwa : w1.alloc (.cells #[.int .i64 (foldD p).atoms, .slice a1 (foldD p).rules.length k1, x2, x3, x4, x5, x6, x7] 30) = wa at *
        obtain ⟨y0, y1, y2, y3, y4, y5, y6, y7⟩ := cells8 CXH.out
        go_wp2_with fail
        try rw [hwa]
        refine (specSetOk_calls _ _ _ _ _ (hu.later t1).ints).mono ?_
        rintro e w2 ⟨he, b2⟩
        rw [hS] at he
        subst he
        go_wp2
        go_ret
        exact ⟨ret_bool hv.out.symm, t1.step b2⟩
      · have hv : Hid (isUnfB p xs us = (foldD p).rules.all (noneB xs us)) := by show _ = _; rw [isUnfB_yes hF, isUnfQ_C hS hn]
        go_enter Try.func23, Try.ntmps23
        go_wp2_with fail
        refine (specFold_calls (Rd.mono t0 h)).mono ?_
        rintro e w1 ⟨cs1, he, o1, b1⟩
        rw [hF] at he
        rw [foldR_yes hF] at o1
        subst he
        have t1 := t0.step b1
        have l1 := Rd.one o1.rd
        obtain ⟨x0, x1, x2, x3, x4, x5, x6, x7, rfl⟩ := list8 (Rd.len o1.rd)
        have st0 := sto Try.prog (l1 x0 (by simp))
        have st1 := sto Try.prog (l1 x1 (by simp))
        have st2 := sto Try.prog (l1 x2 (by simp))
        have st3 := sto Try.prog (l1 x3 (by simp))
        have st4 := sto Try.prog (l1 x4 (by simp))
        have st5 := sto Try.prog (l1 x5 (by simp))
        have st6 := sto Try.prog (l1 x6 (by simp))
        have st7 := sto Try.prog (l1 x7 (by simp))
        have o1 := o1.alloc (.cells #[x0, x1, x2, x3, x4, x5, x6, x7] 30)
        have CX1 := Cells.new w1 [x0, x1, x2, x3, x4, x5, x6, x7] 30
        have t1 := t1.alloc t1.size (.cells #[x0, x1, x2, x3, x4, x5, x6, x7] 30)
        clear l1
        have oR := o1.rd
        obtain ⟨_, _, _, _, _, _, hl, hfa, g1, _⟩ := oR
        simp only [List.cons.injEq, and_true] at hl
        obtain ⟨rfl, rfl, -⟩ := hl
        obtain ⟨a1, k1, rfl, _, h1⟩ := g1.sl
        have hm1 := h1.1
        have CXH := Lib.hid CX1
        have hzw : w1.heap.size < (w1.alloc (.cells #[.int .i64 (foldD p).atoms, .slice a1 (foldD p).rules.length k1, x2, x3, x4, x5, x6, x7] 30)).heap.size := by simp
        generalize hwa : w1.alloc (.cells #[.int .i64 (foldD p).atoms, .slice a1 (foldD p).rules.length k1, x2, x3, x4, x5, x6, x7] 30) = wa at *
        obtain ⟨y0, y1, y2, y3, y4, y5, y6, y7⟩ := cells8 CXH.out
        go_wp2_with fail
        try rw [hwa]
        clear st0 st1 st2 st3 st4 st5 st6 st7
        refine (specSetOk_calls _ _ _ _ _ (hu.later t1).ints).mono ?_
        rintro e w2 ⟨he, b2⟩
        rw [hS] at he
        subst he
        have t2 := t1.step b2
        clear y0 y1 y2 y3 y4 y5 y6 y7
        go_wp2_with fail
        refine (specSetLess_calls _ _ _ _ _ _ _ (hx.later t2).ints (hu.later t2).ints).mono ?_
        rintro e w3 ⟨v3, rfl, o3, b3⟩
        have t3 := t2.step b3
        obtain ⟨p3, q3, rfl, hI3, _⟩ := o3.open
        have gL : RdL w3 [.slice p3 (lessL xs us).length q3] (lessL xs us) := o3.own.rd
        have CX3 := Lib.hid ((CXH.out.later b2).later b3)
        obtain ⟨q, hq⟩ : ∃ q, q = foldD p := ⟨_, rfl⟩
        have hua := (hu.later t3).ints
        have gxa := Rd.mono (α := List Int) t3 gx
        have g1 := Rd.mono (α := List RuleD) b3 (Rd.mono (α := List RuleD) b2 g1)
        have h1 := (h1.later b2).later b3
        clear CXH
        have CXH := CX3
        rw [← hq] at CXH h1 hm1 hr12 hv g1
        clear hq
        clear CX3 hok hS hx hu
        go_wp2
        go_loopw [10] (fun i wr => ∃ k : Nat, k ≤ q.rules.length ∧ i = .int .i64 (k : Int) ∧ Hid ((q.rules.take k).all (noneB xs us) = true) ∧ Below w3.heap.size w3 wr) (fun i _ => q.rules.length - (intOf i).toNat)
        case atStart => exact ⟨0, Nat.zero_le _, rfl, show (q.rules.take 0).all _ = true by simp, Below.refl _ _⟩
        case round =>
          obtain ⟨k, hk, rfl, hS, hb⟩ := hrel
          obtain ⟨y0, y1, y2, y3, y4, y5, y6, y7⟩ := cells8 (CXH.out.later hb)
          by_cases hlt : k < q.rules.length
          · skip
            obtain ⟨b, off, rfl, hc⟩ := h1.base (by omega)
            obtain ⟨ecs, hC, hR⟩ := hc k hlt
            have hC := hC.later hb
            have hR := Rd.mono hb hR
            have hok12 := hr12.out _ (nth_mem hlt)
            have hR0 := hR
            obtain ⟨d1, d4, rfl, hf', r1, r4⟩ := hR0
            obtain ⟨ah, kh, rfl, hkh, hh⟩ := r1.sl
            obtain ⟨ab, kb, rfl, _, _⟩ := r4.sl
            have u0 := hC.c0
            have u1 := hC.c1
            have u2 := hC.c2
            have u3 := hC.c3
            have u4 := hC.c4
            rw [show Rd.k RuleD = 5 from rfl] at u0 u1 u2 u3 u4
            clear hC hc
            cases hM : (((pickTo (pickM (nth q.rules k).heads us) 12).length : Int) == 0)
            · have hMd : 0 < ((pickTo (pickM (nth q.rules k).heads us) 12).length : Int) := by have := beq_eq_false_iff_ne.1 hM; omega
              cases hB : reachB (nth q.rules k) (h2B (lessL xs us) xs)
              · have hS' := Lib.hid (all_take hlt hS.out (show noneB xs us _ = true by unfold noneB; rw [hB, Bool.not_false, Bool.or_true]))
                go_wp2_with fail
                refine (specSetMeet_calls _ _ _ _ _ _ _ hh.ints (hua.later hb)).mono ?_
                rintro e w2 ⟨v2, rfl, ho2, b2⟩
                obtain ⟨p2, q2, hv2, _, _⟩ := ho2.open
                subst hv2
                have hb2 := hb.step b2
                clear y0 y1 y2 y3 y4 y5 y6 y7
                obtain ⟨y0, y1, y2, y3, y4, y5, y6, y7⟩ := cells8 (CXH.out.later hb2)
                replace u0 := cell_kept b2 u0
                replace u1 := cell_kept b2 u1
                replace u2 := cell_kept b2 u2
                replace u3 := cell_kept b2 u3
                replace u4 := cell_kept b2 u4
                go_wp2_with fail
                refine (l02Reaches_calls (Rd.mono b2 hR) (Rd.mono (α := List Int) (hb.step b2) gL) (Rd.mono (α := List Int) (hb.step b2) gxa) hok12).mono ?_
                rintro e w3 ⟨he, b3⟩
                rw [hB] at he
                subst he
                have hb3 := hb2.step b3
                go_wp2
                go_roundw
                case rel => exact ⟨k + 1, by omega, by go_num, hS', hb3⟩
                case measure => simp [intOf]; omega
              · have hv2 : Hid (isUnfB p xs us = false) := by show _ = _; rw [hv.out, all_no hlt (show noneB xs us _ = false by unfold noneB; rw [hM, hB]; rfl)]
                go_wp2_with fail
                refine (specSetMeet_calls _ _ _ _ _ _ _ hh.ints (hua.later hb)).mono ?_
                rintro e w2 ⟨v2, rfl, ho2, b2⟩
                obtain ⟨p2, q2, hv2, _, _⟩ := ho2.open
                subst hv2
                have hb2 := hb.step b2
                clear y0 y1 y2 y3 y4 y5 y6 y7
                obtain ⟨y0, y1, y2, y3, y4, y5, y6, y7⟩ := cells8 (CXH.out.later hb2)
                replace u0 := cell_kept b2 u0
                replace u1 := cell_kept b2 u1
                replace u2 := cell_kept b2 u2
                replace u3 := cell_kept b2 u3
                replace u4 := cell_kept b2 u4
                go_wp2_with fail
                refine (l02Reaches_calls (Rd.mono b2 hR) (Rd.mono (α := List Int) (hb.step b2) gL) (Rd.mono (α := List Int) (hb.step b2) gxa) hok12).mono ?_
                rintro e w3 ⟨he, b3⟩
                rw [hB] at he
                subst he
                have hb3 := hb2.step b3
                go_wp2
                go_ret
                exact ⟨ret_bool hv2.out.symm, t3.step hb3⟩
            · have hMd : ((pickTo (pickM (nth q.rules k).heads us) 12).length : Int) = 0 := beq_iff_eq.1 hM
              have hS' := Lib.hid (all_take hlt hS.out (show noneB xs us _ = true by unfold noneB; rw [hM, Bool.true_or]))
              go_wp2_with fail
              refine (specSetMeet_calls _ _ _ _ _ _ _ hh.ints (hua.later hb)).mono ?_
              rintro e w2 ⟨v2, rfl, ho2, b2⟩
              obtain ⟨p2, q2, hv2, _, _⟩ := ho2.open
              subst hv2
              have hb2 := hb.step b2
              go_wp2
              go_roundw
              case rel => exact ⟨k + 1, by omega, by go_num, hS', hb2⟩
              case measure => simp [intOf]; omega
          · have hv2 : Hid (isUnfB p xs us = true) := by show _ = _; rw [hv.out]; exact all_end (by omega) hS.out
            go_wp2
            go_ret
            exact ⟨ret_bool hv2.out.symm, t3.step hb⟩

end Go.Proofs.Yteahbeomlbdlcaa
