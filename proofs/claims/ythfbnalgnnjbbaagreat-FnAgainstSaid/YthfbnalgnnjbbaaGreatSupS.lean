/-
  Support and unfounded sets: what spec answers. No condition of its own.
-/
import Derived.Test.YthfbnalgnnjbbaaGreatAnsU
import Derived.Test.YthfbnalgnnjbbaaGreatUnf
import Derived.Test.YthfbnalgnnjbbaaGreatAppend
namespace Go.Proofs.YthfbnalgnnjbbaaGreat
set_option linter.unusedVariables false
set_option linter.unusedSimpArgs false
open Go.RowKit
set_option maxRecDepth 100000



set_option maxHeartbeats 2000000 in
theorem specUnfounded_calls {cs : List Value} {p : ProgD} {w : World} {v : Value} {xs : List Int} (h : Rd.R w cs p) (gx : RdL w [v] xs) :
    Calls Tryz.prog 19 #[.agg cs.toArray, v] w fun e w' => ∃ u, e = .returned u ∧ OwnI w.heap.size w' u (unfR p xs) ∧ Below w.heap.size w w' := by
  obtain ⟨p0, p1, p2, p3, p4, p5, p6, p7, rfl⟩ := list8 (Rd.len h)
  obtain ⟨ax, cx, rfl, _, hx⟩ := gx.sl
  have t0 : Below w.heap.size w (w.alloc (.cells #[p0, p1, p2, p3, p4, p5, p6, p7] 30)) := (Below.refl _ _).alloc (by simp) _
  cases hF : foldB p
  · have hv := Lib.hid (unfR_no (xs := xs) hF)
    go_enter Tryz.func19, Tryz.ntmps19
    go_wp2_with fail
    refine (specFold_calls (Rd.mono t0 h)).mono ?_
    rintro e w1 ⟨cs1, he, o1, b1⟩
    rw [hF] at he
    subst he
    have t1 := t0.step b1
    have l1 := Rd.one o1.rd
    obtain ⟨x0, x1, x2, x3, x4, x5, x6, x7, rfl⟩ := list8 (Rd.len o1.rd)
    have st0 := sto Tryz.prog (l1 x0 (by simp))
    have st1 := sto Tryz.prog (l1 x1 (by simp))
    have st2 := sto Tryz.prog (l1 x2 (by simp))
    have st3 := sto Tryz.prog (l1 x3 (by simp))
    have st4 := sto Tryz.prog (l1 x4 (by simp))
    have st5 := sto Tryz.prog (l1 x5 (by simp))
    have st6 := sto Tryz.prog (l1 x6 (by simp))
    have st7 := sto Tryz.prog (l1 x7 (by simp))
    have o1 := o1.alloc (.cells #[x0, x1, x2, x3, x4, x5, x6, x7] 30)
    have CX1 := Cells.new w1 [x0, x1, x2, x3, x4, x5, x6, x7] 30
    have t1 := t1.alloc t1.size (.cells #[x0, x1, x2, x3, x4, x5, x6, x7] 30)
    clear l1
    have hz : w.heap.size ≤ (w1.alloc (.cells #[x0, x1, x2, x3, x4, x5, x6, x7] 30)).heap.size := t1.size
    go_wp2
    go_ret
    exact ⟨_, rfl, by rw [hv.out]; have hn := OwnI.new _ _ hz; rw [World.size_alloc] at hn; exact hn, t1.alloc hz _⟩
  · have hv := Lib.hid (unfR_yes (xs := xs) hF)
    have hok : progOkB (foldD p) = true := foldR_ok hF
    have hr12 := Lib.hid (rules12 hok)
    obtain ⟨ha0, ha1⟩ := progOk_atoms hok
    go_enter Tryz.func19, Tryz.ntmps19
    go_wp2_with fail
    refine (specFold_calls (Rd.mono t0 h)).mono ?_
    rintro e w1 ⟨cs1, he, o1, b1⟩
    rw [hF] at he
    rw [foldR_yes hF] at o1
    subst he
    have t1 := t0.step b1
    have l1 := Rd.one o1.rd
    obtain ⟨x0, x1, x2, x3, x4, x5, x6, x7, rfl⟩ := list8 (Rd.len o1.rd)
    have st0 := sto Tryz.prog (l1 x0 (by simp))
    have st1 := sto Tryz.prog (l1 x1 (by simp))
    have st2 := sto Tryz.prog (l1 x2 (by simp))
    have st3 := sto Tryz.prog (l1 x3 (by simp))
    have st4 := sto Tryz.prog (l1 x4 (by simp))
    have st5 := sto Tryz.prog (l1 x5 (by simp))
    have st6 := sto Tryz.prog (l1 x6 (by simp))
    have st7 := sto Tryz.prog (l1 x7 (by simp))
    have o1 := o1.alloc (.cells #[x0, x1, x2, x3, x4, x5, x6, x7] 30)
    have CX1 := Cells.new w1 [x0, x1, x2, x3, x4, x5, x6, x7] 30
    have t1 := t1.alloc t1.size (.cells #[x0, x1, x2, x3, x4, x5, x6, x7] 30)
    clear l1
    have oR := o1.rd
    obtain ⟨_, _, _, _, _, _, hl, hfa, g1, _⟩ := oR
    simp only [List.cons.injEq, and_true] at hl
    obtain ⟨rfl, rfl, -⟩ := hl
    obtain ⟨a1, k1, rfl, _, h1⟩ := g1.sl
    have hm1 := h1.1
    have CXH := Lib.hid CX1
    have hzw : w1.heap.size < (w1.alloc (.cells #[.int .i64 (foldD p).atoms, .slice a1 (foldD p).rules.length k1, x2, x3, x4, x5, x6, x7] 30)).heap.size := by simp
    generalize hwa : w1.alloc (.cells #[.int .i64 (foldD p).atoms, .slice a1 (foldD p).rules.length k1, x2, x3, x4, x5, x6, x7] 30) = wa at *
    obtain ⟨n, hn⟩ := Int.eq_ofNat_of_zero_le ha0
    have hn12 : n ≤ 12 := by omega
    have hnq : Hid ((foldD p).atoms.toNat = n) := by show _ = _; omega
    rw [hn] at CXH
    obtain ⟨y0, y1, y2, y3, y4, y5, y6, y7⟩ := cells8 CXH.out
    have hxa := (hx.later t1).ints
    have gxa := Rd.mono (α := List Int) t1 gx
    have hza := t1.size
    clear hok ha0 ha1 hn
    go_wp2
    try rw [hwa]
    clear st0 st1 st2 st3 st4 st5 st6 st7
    clear y0 y1 y2 y3 y4 y5 y6 y7
    go_loopw [7, 8] (fun s i wr => ∃ k : Nat, k ≤ n ∧ i = .int .i64 ((k : Int) + 1) ∧ OwnI wa.heap.size wr s (pickTo (hasB xs) k) ∧ Below wa.heap.size wa wr) (fun _ i _ => n + 1 - (intOf i).toNat)
    case atStart => exact ⟨0, Nat.zero_le _, rfl, OwnI.new _ _ (Nat.le_refl _), (Below.refl _ _).alloc (Nat.le_refl _) _⟩
    case round =>
      obtain ⟨k, hk, rfl, ho, hb⟩ := hrel
      have hz := hb.size
      have hbl := pickTo_len (hasB xs) k
      obtain ⟨y0, y1, y2, y3, y4, y5, y6, y7⟩ := cells8 (CXH.out.later hb)
      by_cases hlt : k < n
      · have hF9 := fits_small' (n := (k : Int) + 1) (by omega) (by omega)
        cases hH : hasB xs ((k : Int) + 1)
        · have hS := Lib.hid (pickTo_no hH)
          go_wp2_with (go_at_call 71; refine (SetHas_calls _ _ _ _ _ (hxa.later hb)).mono ?_; rintro e w' ⟨he, rfl⟩; rw [hH] at he; subst he)
          go_roundw
          case rel => exact ⟨k + 1, by omega, by go_num, by rw [hS.out]; exact ho, hb⟩
          case measure => simp [intOf]; omega
        · have hS := Lib.hid (pickTo_yes hH)
          go_wp2_with (first | (go_at_call 71; refine (SetHas_calls _ _ _ _ _ (hxa.later hb)).mono ?_; rintro e w' ⟨he, rfl⟩; rw [hH] at he; subst he) | (at_builtin; refine wpList_append_int rfl _ _ rfl rfl ho rfl (by omega) hF9 (by omega) ?_; intro v' w' ho' hb' hg'))
          go_roundw
          case rel => exact ⟨k + 1, by omega, by go_num, by rw [hS.out]; exact ho', hb.trans hb'⟩
          case measure => simp [intOf]; omega
      · obtain rfl : k = n := by omega
        have g1 := Rd.mono (α := List RuleD) hb g1
        go_wp2_with fail
        refine (l05Least_calls true g1 (Rd.mono (α := List Int) hb gxa) hr12.out).mono ?_
        rintro e w2 ⟨v2, rfl, o2, b2⟩
        obtain ⟨p2, q2, rfl, hI2, _⟩ := o2.open
        have ho2 := ho.kept b2
        obtain ⟨p3, q3, rfl, hI3, _⟩ := ho2.open
        go_wp2_with fail
        refine (specSetLess_calls _ _ _ _ _ _ _ hI3 hI2).mono ?_
        rintro e w3 ⟨v3, rfl, o3, b3⟩
        go_wp2
        go_ret
        refine ⟨_, rfl, ?_, t1.step ((hb.step b2).step b3)⟩
        rw [hv.out]
        unfold unfQ withinL lessL
        rw [hnq.out]
        exact o3.mono (Nat.le_trans t1.size (hb.step b2).size)

end Go.Proofs.YthfbnalgnnjbbaaGreat
