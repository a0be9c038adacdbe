/-
  Splitting: what the program answers: IsSplit, Closure. No condition of its own.
-/
import Derived.Test.YtjainjpcpnoikaaGreatSplB
namespace Go.Proofs.YtjainjpcpnoikaaGreat
set_option linter.unusedVariables false
set_option linter.unusedSimpArgs false
open Go.RowKit Go.Shelf
set_option maxRecDepth 100000




theorem clsM_lt (q : ProgD) (us : List Int) (U : Nat) : clL q.rules (maskOf us &&& U) < 4096 := clL_lt (Nat.lt_of_le_of_lt Nat.and_le_left (maskOf_lt us))
set_option maxHeartbeats 4000000 in
theorem implClosure_calls {cs : List Value} {p : ProgD} {w : World} {v : Value} {xs : List Int} (h : Rd.R w cs p) (gx : RdL w [v] xs) :
    Calls Tryz.prog 26 #[.agg cs.toArray, v] w fun e w' => ∃ u, e = .returned u ∧ OwnI w.heap.size w' u (clsR p xs) ∧ Below w.heap.size w w' := by
  obtain ⟨p0, p1, p2, p3, p4, p5, p6, p7, rfl⟩ := list8 (Rd.len h)
  obtain ⟨ax, cx, rfl, _, hx⟩ := gx.sl
  have t0 : Below w.heap.size w (w.alloc (.cells #[p0, p1, p2, p3, p4, p5, p6, p7] 35)) := (Below.refl _ _).alloc (by simp) _
  cases hF : foldB p
  · have hS := Lib.hid (clsR_no (us := xs) hF)
    go_enter Tryz.func26, Tryz.ntmps26
    go_wp2_with fail
    refine (implFold_calls (Rd.mono t0 h)).mono ?_
    rintro e w1 ⟨cs1, he, o1, b1⟩
    rw [hF] at he
    subst he
    have t1 := t0.step b1
    have l1 := Rd.one o1.rd
    obtain ⟨x0, x1, x2, x3, x4, x5, x6, x7, rfl⟩ := list8 (Rd.len o1.rd)
    have st0 := sto Tryz.prog (l1 x0 (by simp))
    have st1 := sto Tryz.prog (l1 x1 (by simp))
    have st2 := sto Tryz.prog (l1 x2 (by simp))
    have st3 := sto Tryz.prog (l1 x3 (by simp))
    have st4 := sto Tryz.prog (l1 x4 (by simp))
    have st5 := sto Tryz.prog (l1 x5 (by simp))
    have st6 := sto Tryz.prog (l1 x6 (by simp))
    have st7 := sto Tryz.prog (l1 x7 (by simp))
    have o1 := o1.alloc (.cells #[x0, x1, x2, x3, x4, x5, x6, x7] 35)
    have CX1 := Cells.new w1 [x0, x1, x2, x3, x4, x5, x6, x7] 35
    have t1 := t1.alloc t1.size (.cells #[x0, x1, x2, x3, x4, x5, x6, x7] 35)
    clear l1
    go_wp2
    go_ret
    exact ⟨_, rfl, by rw [hS.out]; exact OwnI.nil _ _, t1⟩
  · have hok : progOkB (foldD p) = true := foldR_ok hF
    have hS := Lib.hid (clsR_yes (us := xs) hF)
    have hmx := maskOf_lt xs
    obtain ⟨ha0, ha1⟩ := progOk_atoms hok
    obtain ⟨n, hn⟩ := Int.eq_ofNat_of_zero_le ha0
    have hn12 : n ≤ 12 := by omega
    have hnq : (foldD p).atoms.toNat = n := by omega
    have hpn : 2 ^ n - 1 < 4096 := by have := (upTo_powS hn12).2.2; omega
    have hmm : maskOf xs &&& (2 ^ n - 1) < 4096 := Nat.lt_of_le_of_lt Nat.and_le_left hmx
    have hcl := clsM_lt (foldD p) xs (2 ^ n - 1)
    have HAT := fun w => Lib.hid (atomsUpToS_calls n w hn12)
    have HRE : Hid (clsM p xs = clL (foldD p).rules (maskOf xs &&& (2 ^ n - 1))) := by show _ = _; unfold clsM; rw [hnq]
    obtain ⟨U, hU⟩ : ∃ U : Nat, U = 2 ^ n - 1 := ⟨_, rfl⟩
    rw [← hU] at hpn hmm HAT HRE hcl
    clear hU hnq ha0 ha1
    go_enter Tryz.func26, Tryz.ntmps26
    go_wp2_with fail
    refine (implFold_calls (Rd.mono t0 h)).mono ?_
    rintro e w1 ⟨cs1, he, o1, b1⟩
    rw [hF] at he
    subst he
    have t1 := t0.step b1
    have l1 := Rd.one o1.rd
    obtain ⟨x0, x1, x2, x3, x4, x5, x6, x7, rfl⟩ := list8 (Rd.len o1.rd)
    have st0 := sto Tryz.prog (l1 x0 (by simp))
    have st1 := sto Tryz.prog (l1 x1 (by simp))
    have st2 := sto Tryz.prog (l1 x2 (by simp))
    have st3 := sto Tryz.prog (l1 x3 (by simp))
    have st4 := sto Tryz.prog (l1 x4 (by simp))
    have st5 := sto Tryz.prog (l1 x5 (by simp))
    have st6 := sto Tryz.prog (l1 x6 (by simp))
    have st7 := sto Tryz.prog (l1 x7 (by simp))
    have o1 := o1.alloc (.cells #[x0, x1, x2, x3, x4, x5, x6, x7] 35)
    have CX1 := Cells.new w1 [x0, x1, x2, x3, x4, x5, x6, x7] 35
    have t1 := t1.alloc t1.size (.cells #[x0, x1, x2, x3, x4, x5, x6, x7] 35)
    clear l1
    rw [foldR_yes hF] at o1
    have oR := o1.rd
    obtain ⟨_, _, _, _, _, _, hl, _⟩ := oR
    simp only [List.cons.injEq, and_true] at hl
    obtain ⟨rfl, -⟩ := hl
    rw [hn] at o1 CX1 t1 st0 ⊢
    have hx1 := (hx.later t1).ints
    obtain ⟨y0, y1, y2, y3, y4, y5, y6, y7⟩ := cells8 CX1
    go_upto_region 4 with fail
    have o2 := o1.drew
    have t2 := t1.drew
    have CX2 := CX1.drew
    have hx2 := (hx.later t2).ints
    clear hx1 t1 CX1 o1 y0 y1 y2 y3 y4 y5 y6 y7
    refine wp_region_held_drew (S := fun W' => W'.cell? ⟨w1.heap.size, 0, none⟩ = some (.int .i64 (n : Int)) ∧ W'.cell? ⟨w1.heap.size, 1, none⟩ = some x1 ∧ W'.cell? ⟨w1.heap.size, 2, none⟩ = some x2 ∧ W'.cell? ⟨w1.heap.size, 3, none⟩ = some x3 ∧ W'.cell? ⟨w1.heap.size, 4, none⟩ = some x4 ∧ W'.cell? ⟨w1.heap.size, 5, none⟩ = some x5 ∧ W'.cell? ⟨w1.heap.size, 6, none⟩ = some x6 ∧ W'.cell? ⟨w1.heap.size, 7, none⟩ = some x7) (by kernel_rfl) (cells8 CX2) (fun hHeld => ?_)
    generalize (w1.alloc (.cells #[.int .i64 (n : Int), x1, x2, x3, x4, x5, x6, x7] 35)).drew = wq at *
    refine takeD (i := 0) (v := .agg #[.int .i64 (n : Int), x1, x2, x3, x4, x5, x6, x7]) (some 14) rfl rfl (by kernel_rfl) (by kernel_rfl) (by kernel_rfl) (fun _ _ _ h => h) (Or.inl ⟨by rfl, fun w' hw' => ?_⟩) hHeld ?_
    · first | (go_simp; done) | (obtain ⟨s0, s1, s2, s3, s4, s5, s6, s7⟩ := hw'; go_simp; done)
    try simp only [Act.put, List.setIfInBounds_toArray, List.set_cons_zero, List.set_cons_succ]
    refine takeD (i := 1) (v := .slice ax xs.length cx) (some 15) rfl rfl (by kernel_rfl) (by kernel_rfl) (by kernel_rfl) (fun _ _ _ h => h) (Or.inl ⟨by rfl, fun w' hw' => ?_⟩) hHeld ?_
    · first | (go_simp; done) | (obtain ⟨s0, s1, s2, s3, s4, s5, s6, s7⟩ := hw'; go_simp; done)
    try simp only [Act.put, List.setIfInBounds_toArray, List.set_cons_zero, List.set_cons_succ]
    refine takeD (i := 3) (v := .pointer (some ⟨w1.heap.size, 0, none⟩)) (some 17) rfl rfl (by kernel_rfl) (by kernel_rfl) (by kernel_rfl) (fun _ _ _ h => h) (Or.inl ⟨by rfl, fun w' hw' => ?_⟩) hHeld ?_
    · first | (go_simp; done) | (obtain ⟨s0, s1, s2, s3, s4, s5, s6, s7⟩ := hw'; go_simp; done)
    try simp only [Act.put, List.setIfInBounds_toArray, List.set_cons_zero, List.set_cons_succ]
    refine takeD (i := 4) (v := .int .i64 (n : Int)) (some 18) rfl rfl (by kernel_rfl) (by kernel_rfl) (by kernel_rfl) (fun _ _ _ h => h) (Or.inl ⟨by rfl, fun w' hw' => ?_⟩) hHeld ?_
    · first | (go_simp; done) | (obtain ⟨s0, s1, s2, s3, s4, s5, s6, s7⟩ := hw'; go_simp; done)
    try simp only [Act.put, List.setIfInBounds_toArray, List.set_cons_zero, List.set_cons_succ]
    refine wpAnyH_ready (rs := [2]) (by kernel_rfl) (by simp) ?_
    refine AllReadyH.cons rfl (fun K hK => ?_) AllReadyH.nil
    go_simp
    refine (atomsIn_calls _ _ _ _ hx2).mono ?_
    rintro e w' ⟨rfl, rfl⟩
    refine hK.out _ _ (cells8 CX2) (fun hHeld => ?_)
    clear hK K
    try simp only [Act.put, List.setIfInBounds_toArray, List.set_cons_zero, List.set_cons_succ]
    refine wpAnyH_ready (rs := [5]) (by kernel_rfl) (by simp) ?_
    refine AllReadyH.cons rfl (fun K hK => ?_) AllReadyH.nil
    go_simp
    refine (HAT _).out.mono ?_
    rintro e w' ⟨rfl, rfl⟩
    refine hK.out _ _ (cells8 CX2) (fun hHeld => ?_)
    clear hK K
    try simp only [Act.put, List.setIfInBounds_toArray, List.set_cons_zero, List.set_cons_succ]
    refine wpAnyH_ready (rs := [6]) (by kernel_rfl) (by simp) ?_
    refine AllReadyH.cons rfl (fun K hK => ?_) AllReadyH.nil
    go_simp
    refine (meet_calls _ _ _ hmx hpn).mono ?_
    rintro e w' ⟨rfl, rfl⟩
    refine hK.out _ _ (cells8 CX2) (fun hHeld => ?_)
    clear hK K
    try simp only [Act.put, List.setIfInBounds_toArray, List.set_cons_zero, List.set_cons_succ]
    refine wpAnyH_ready (rs := [7]) (by kernel_rfl) (by simp) ?_
    refine AllReadyH.cons rfl (fun K hK => ?_) AllReadyH.nil
    go_simp
    refine (closure_calls _ hmm o2.rd).mono ?_
    rintro e w2 ⟨rfl, b2⟩
    have CX3 := CX2.later b2
    refine hK.out _ _ (cells8 CX3) (fun hHeld => ?_)
    clear hK K
    try simp only [Act.put, List.setIfInBounds_toArray, List.set_cons_zero, List.set_cons_succ]
    refine wpAnyH_ready (rs := [8]) (by kernel_rfl) (by simp) ?_
    refine AllReadyH.cons rfl (fun K hK => ?_) AllReadyH.nil
    go_simp
    refine (list_calls _ _ hcl).mono ?_
    rintro e w3 ⟨v3, rfl, o3, b3⟩
    have CX4 := CX3.later b3
    refine hK.out _ _ (cells8 CX4) (fun hHeld => ?_)
    clear hK K
    try simp only [Act.put, List.setIfInBounds_toArray, List.set_cons_zero, List.set_cons_succ]
    refine takeD (i := 9) (v := v3) (some 4) rfl rfl (by kernel_rfl) (by kernel_rfl) (by kernel_rfl) (fun _ _ _ h => h) (Or.inl ⟨by rfl, fun w' hw' => ?_⟩) hHeld ?_
    · first | (go_simp; done) | (obtain ⟨s0, s1, s2, s3, s4, s5, s6, s7⟩ := hw'; go_simp; done)
    try simp only [Act.put, List.setIfInBounds_toArray, List.set_cons_zero, List.set_cons_succ]
    refine wpAnyH_done (by kernel_rfl) ?_ _
    go_wp2
    go_ret
    refine ⟨_, rfl, ?_, (t2.step b2).step b3⟩
    rw [hS.out, HRE.out]
    exact o3.mono (by have := t2.size; have := b2.size; omega)

end Go.Proofs.YtjainjpcpnoikaaGreat
