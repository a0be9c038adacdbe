/-
  Equal: what both sides answer. No condition of its own.
-/
import Derived.Test.YtleimijgpmoifaaGreatEquI
import Derived.Test.YtleimijgpmoifaaGreatFoldS
import Derived.Test.YtleimijgpmoifaaGreatAnsT
import Derived.StillTailTactics
namespace Go.Proofs.YtleimijgpmoifaaGreat
set_option linter.unusedVariables false
set_option linter.unusedSimpArgs false
open Go.RowKit Go.Shelf
set_option maxRecDepth 100000

/-- Have two programs the same answers? -/
def eqvB (p q : ProgD) : Bool := foldB p && (foldB q && decide (answersL p = answersL q))
theorem eqvB_A {p q : ProgD} (h : foldB p = false) : eqvB p q = false := by simp only [eqvB, h, Bool.false_and]
theorem eqvB_B {p q : ProgD} (h : foldB q = false) : eqvB p q = false := by simp only [eqvB, h, Bool.false_and, Bool.and_false]
theorem eqvB_C {p q : ProgD} (h : foldB p = true) (h' : foldB q = true) : eqvB p q = decide (answersL p = answersL q) := by simp only [eqvB, h, h', Bool.true_and]
theorem ansN_masks (p : ProgD) : (answersL p).map maskOf = ansN p := by
  rw [answersL_N, List.map_map]
  have : ∀ m ∈ ansN p, (maskOf ∘ mset) m = m := fun m hm => mask_mset (ansN_lt hm)
  rw [List.map_congr_left this, List.map_id']
theorem ansN_iff {p q : ProgD} (h : foldB p = true) (h' : foldB q = true) : decide (ansN (foldD p) = ansN (foldD q)) = decide (answersL p = answersL q) := by
  rw [decide_eq_decide, ← answersL_fold h, ← answersL_fold h']
  constructor
  · intro e; rw [answersL_N, answersL_N, e]
  · intro e; rw [← ansN_masks, ← ansN_masks, e]

set_option maxHeartbeats 8000000 in
theorem implEqual_calls {cs ds : List Value} {p q : ProgD} {w : World} (h : Rd.R w cs p) (g : Rd.R w ds q) :
    Calls Tryz.prog 25 #[.agg cs.toArray, .agg ds.toArray] w fun e w' => e = .returned (.bool (eqvB p q)) ∧ Below w.heap.size w w' := by
  obtain ⟨e0, e1, e2, e3, e4, e5, e6, e7, rfl⟩ := list8 (Rd.len h)
  obtain ⟨d0, d1, d2, d3, d4, d5, d6, d7, rfl⟩ := list8 (Rd.len g)
  have t0 : Below w.heap.size w ((w.alloc (.cells #[e0, e1, e2, e3, e4, e5, e6, e7] 36)).alloc (.cells #[d0, d1, d2, d3, d4, d5, d6, d7] 36)) := ((Below.refl _ _).alloc (by simp) _).alloc (by simp) _
  have CP := (Cells.new w [e0, e1, e2, e3, e4, e5, e6, e7] 36).alloc (.cells #[d0, d1, d2, d3, d4, d5, d6, d7] 36)
  have CQ := Cells.new (w.alloc (.cells #[e0, e1, e2, e3, e4, e5, e6, e7] 36)) [d0, d1, d2, d3, d4, d5, d6, d7] 36
  rw [World.size_alloc] at CQ
  go_enter Tryz.func25, Tryz.ntmps25
  go_upto_region 1 with fail
  have hsz0 : w.heap.size + 2 ≤ ((w.alloc (.cells #[e0, e1, e2, e3, e4, e5, e6, e7] 36)).alloc (.cells #[d0, d1, d2, d3, d4, d5, d6, d7] 36)).heap.size := by simp
  generalize (w.alloc (.cells #[e0, e1, e2, e3, e4, e5, e6, e7] 36)).alloc (.cells #[d0, d1, d2, d3, d4, d5, d6, d7] 36) = w0 at *
  cases hF : foldB p
  · have hv := Lib.hid (eqvB_A (q := q) hF)
    obtain ⟨c0, c1, c2, c3, c4, c5, c6, c7⟩ := cells8 CP
    go_wp2_with fail
    refine (implFold_calls (Rd.mono t0 h)).mono ?_
    rintro e w1 ⟨cs1, rfl, o1, b1⟩
    obtain ⟨x0, x1, x2, x3, x4, x5, x6, x7, rfl⟩ := list8 (Rd.len o1.rd)
    have l1 := Rd.one o1.rd
    have st0 := sto Tryz.prog (l1 x0 (by simp))
    have st1 := sto Tryz.prog (l1 x1 (by simp))
    have st2 := sto Tryz.prog (l1 x2 (by simp))
    have st3 := sto Tryz.prog (l1 x3 (by simp))
    have st4 := sto Tryz.prog (l1 x4 (by simp))
    have st5 := sto Tryz.prog (l1 x5 (by simp))
    have st6 := sto Tryz.prog (l1 x6 (by simp))
    have st7 := sto Tryz.prog (l1 x7 (by simp))
    have t1 := (t0.step b1).alloc (t0.step b1).size (.cells #[x0, x1, x2, x3, x4, x5, x6, x7] 36)
    have CX := Cells.new w1 [x0, x1, x2, x3, x4, x5, x6, x7] 36
    have o1 := o1.alloc (.cells #[x0, x1, x2, x3, x4, x5, x6, x7] 36)
    have CP := (CP.later b1).alloc (.cells #[x0, x1, x2, x3, x4, x5, x6, x7] 36)
    have CQ := (CQ.later b1).alloc (.cells #[x0, x1, x2, x3, x4, x5, x6, x7] 36)
    have hb1 := b1.size
    clear l1 c0 c1 c2 c3 c4 c5 c6 c7
    go_upto_region 2 with fail
    have hs1 : w1.heap.size < (w1.alloc (.cells #[x0, x1, x2, x3, x4, x5, x6, x7] 36)).heap.size := by simp
    generalize w1.alloc (.cells #[x0, x1, x2, x3, x4, x5, x6, x7] 36) = wa at *
    obtain ⟨c0, c1, c2, c3, c4, c5, c6, c7⟩ := cells8 CQ
    go_wp2_with fail
    refine (implFold_calls (Rd.mono t1 g)).mono ?_
    rintro e w2 ⟨cs2, rfl, o2, b2⟩
    obtain ⟨z0, z1, z2, z3, z4, z5, z6, z7, rfl⟩ := list8 (Rd.len o2.rd)
    have l2 := Rd.one o2.rd
    clear st0 st1 st2 st3 st4 st5 st6 st7
    have st0 := sto Tryz.prog (l2 z0 (by simp))
    have st1 := sto Tryz.prog (l2 z1 (by simp))
    have st2 := sto Tryz.prog (l2 z2 (by simp))
    have st3 := sto Tryz.prog (l2 z3 (by simp))
    have st4 := sto Tryz.prog (l2 z4 (by simp))
    have st5 := sto Tryz.prog (l2 z5 (by simp))
    have st6 := sto Tryz.prog (l2 z6 (by simp))
    have st7 := sto Tryz.prog (l2 z7 (by simp))
    have t2 := (t1.step b2).alloc (t1.step b2).size (.cells #[z0, z1, z2, z3, z4, z5, z6, z7] 36)
    have CZ := Cells.new w2 [z0, z1, z2, z3, z4, z5, z6, z7] 36
    have o1 := (o1.later b2).alloc (.cells #[z0, z1, z2, z3, z4, z5, z6, z7] 36)
    have o2 := o2.alloc (.cells #[z0, z1, z2, z3, z4, z5, z6, z7] 36)
    have CX := (CX.later b2).alloc (.cells #[z0, z1, z2, z3, z4, z5, z6, z7] 36)
    have CP := (CP.later b2).alloc (.cells #[z0, z1, z2, z3, z4, z5, z6, z7] 36)
    have CQ := (CQ.later b2).alloc (.cells #[z0, z1, z2, z3, z4, z5, z6, z7] 36)
    have hb2 := b2.size
    clear l2 c0 c1 c2 c3 c4 c5 c6 c7
    go_upto_region 3 with fail
    have hs2 : w2.heap.size < (w2.alloc (.cells #[z0, z1, z2, z3, z4, z5, z6, z7] 36)).heap.size := by simp
    generalize w2.alloc (.cells #[z0, z1, z2, z3, z4, z5, z6, z7] 36) = we at *
    clear st0 st1 st2 st3 st4 st5 st6 st7
    refine wp_region_held_drew (S := fun w' => True) (by kernel_rfl) trivial (fun hHeld => ?_)
    refine takeD (i := 0) (v := .bool false) (some 19) rfl rfl (by kernel_rfl) (by kernel_rfl) (by kernel_rfl) (fun _ _ _ h => h) (Or.inl ⟨by rfl, fun w' hw' => ?_⟩) hHeld ?_
    · first | (go_simp; done) | (obtain ⟨⟨s0, s1, s2, s3, s4, s5, s6, s7⟩, r0, r1, r2, r3, r4, r5, r6, r7⟩ := hw'; go_simp; done)
    try simp only [Act.put, List.setIfInBounds_toArray, List.set_cons_zero, List.set_cons_succ]
    refine takeD (i := 1) (v := .bool false) (some 20) rfl rfl (by kernel_rfl) (by kernel_rfl) (by kernel_rfl) (fun _ _ _ h => h) (Or.inl ⟨by rfl, fun w' hw' => ?_⟩) hHeld ?_
    · first | (go_simp; done) | (obtain ⟨⟨s0, s1, s2, s3, s4, s5, s6, s7⟩, r0, r1, r2, r3, r4, r5, r6, r7⟩ := hw'; go_simp; done)
    try simp only [Act.put, List.setIfInBounds_toArray, List.set_cons_zero, List.set_cons_succ]
    refine takeD (i := 2) (v := undef) (some 21) rfl rfl (by kernel_rfl) (by kernel_rfl) (by kernel_rfl) (fun _ _ _ h => h) (Or.inr ⟨by rfl, rfl⟩) hHeld ?_
    try simp only [Act.put, List.setIfInBounds_toArray, List.set_cons_zero, List.set_cons_succ]
    refine takeD (i := 3) (v := .bool false) (some 22) rfl rfl (by kernel_rfl) (by kernel_rfl) (by kernel_rfl) (fun _ _ _ h => h) (Or.inl ⟨by rfl, fun w' hw' => ?_⟩) hHeld ?_
    · first | (go_simp; done) | (obtain ⟨⟨s0, s1, s2, s3, s4, s5, s6, s7⟩, r0, r1, r2, r3, r4, r5, r6, r7⟩ := hw'; go_simp; done)
    try simp only [Act.put, List.setIfInBounds_toArray, List.set_cons_zero, List.set_cons_succ]
    refine takeD (i := 4) (v := .bool false) (some 23) rfl rfl (by kernel_rfl) (by kernel_rfl) (by kernel_rfl) (fun _ _ _ h => h) (Or.inl ⟨by rfl, fun w' hw' => ?_⟩) hHeld ?_
    · first | (go_simp; done) | (obtain ⟨⟨s0, s1, s2, s3, s4, s5, s6, s7⟩, r0, r1, r2, r3, r4, r5, r6, r7⟩ := hw'; go_simp; done)
    try simp only [Act.put, List.setIfInBounds_toArray, List.set_cons_zero, List.set_cons_succ]
    refine takeD (i := 5) (v := undef) (some 24) rfl rfl (by kernel_rfl) (by kernel_rfl) (by kernel_rfl) (fun _ _ _ h => h) (Or.inr ⟨by rfl, rfl⟩) hHeld ?_
    try simp only [Act.put, List.setIfInBounds_toArray, List.set_cons_zero, List.set_cons_succ]
    refine takeD (i := 6) (v := undef) (some 25) rfl rfl (by kernel_rfl) (by kernel_rfl) (by kernel_rfl) (fun _ _ _ h => h) (Or.inr ⟨by rfl, rfl⟩) hHeld ?_
    try simp only [Act.put, List.setIfInBounds_toArray, List.set_cons_zero, List.set_cons_succ]
    refine takeD (i := 7) (v := undef) (some 26) rfl rfl (by kernel_rfl) (by kernel_rfl) (by kernel_rfl) (fun _ _ _ h => h) (Or.inr ⟨by rfl, rfl⟩) hHeld ?_
    try simp only [Act.put, List.setIfInBounds_toArray, List.set_cons_zero, List.set_cons_succ]
    refine takeD (i := 8) (v := undef) (some 27) rfl rfl (by kernel_rfl) (by kernel_rfl) (by kernel_rfl) (fun _ _ _ h => h) (Or.inr ⟨by rfl, rfl⟩) hHeld ?_
    try simp only [Act.put, List.setIfInBounds_toArray, List.set_cons_zero, List.set_cons_succ]
    refine takeD (i := 9) (v := undef) (some 28) rfl rfl (by kernel_rfl) (by kernel_rfl) (by kernel_rfl) (fun _ _ _ h => h) (Or.inr ⟨by rfl, rfl⟩) hHeld ?_
    try simp only [Act.put, List.setIfInBounds_toArray, List.set_cons_zero, List.set_cons_succ]
    refine takeD (i := 10) (v := undef) (some 29) rfl rfl (by kernel_rfl) (by kernel_rfl) (by kernel_rfl) (fun _ _ _ h => h) (Or.inr ⟨by rfl, rfl⟩) hHeld ?_
    try simp only [Act.put, List.setIfInBounds_toArray, List.set_cons_zero, List.set_cons_succ]
    refine takeD (i := 11) (v := undef) (some 30) rfl rfl (by kernel_rfl) (by kernel_rfl) (by kernel_rfl) (fun _ _ _ h => h) (Or.inr ⟨by rfl, rfl⟩) hHeld ?_
    try simp only [Act.put, List.setIfInBounds_toArray, List.set_cons_zero, List.set_cons_succ]
    refine takeD (i := 12) (v := .bool false) (some 31) rfl rfl (by kernel_rfl) (by kernel_rfl) (by kernel_rfl) (fun _ _ _ h => h) (Or.inl ⟨by rfl, fun w' hw' => ?_⟩) hHeld ?_
    · first | (go_simp; done) | (obtain ⟨⟨s0, s1, s2, s3, s4, s5, s6, s7⟩, r0, r1, r2, r3, r4, r5, r6, r7⟩ := hw'; go_simp; done)
    try simp only [Act.put, List.setIfInBounds_toArray, List.set_cons_zero, List.set_cons_succ]
    refine takeD (i := 13) (v := .bool false) (some 4) rfl rfl (by kernel_rfl) (by kernel_rfl) (by kernel_rfl) (fun _ _ _ h => h) (Or.inl ⟨by rfl, fun w' hw' => ?_⟩) hHeld ?_
    · first | (go_simp; done) | (obtain ⟨⟨s0, s1, s2, s3, s4, s5, s6, s7⟩, r0, r1, r2, r3, r4, r5, r6, r7⟩ := hw'; go_simp; done)
    try simp only [Act.put, List.setIfInBounds_toArray, List.set_cons_zero, List.set_cons_succ]
    refine wpAnyH_done (by kernel_rfl) ?_ _
    go_wp2
    go_ret
    exact ⟨ret_bool hv.out.symm, t2.drew⟩
  cases hG : foldB q
  · have hv := Lib.hid (eqvB_B (p := p) hG)
    obtain ⟨c0, c1, c2, c3, c4, c5, c6, c7⟩ := cells8 CP
    go_wp2_with fail
    refine (implFold_calls (Rd.mono t0 h)).mono ?_
    rintro e w1 ⟨cs1, rfl, o1, b1⟩
    obtain ⟨x0, x1, x2, x3, x4, x5, x6, x7, rfl⟩ := list8 (Rd.len o1.rd)
    have l1 := Rd.one o1.rd
    have st0 := sto Tryz.prog (l1 x0 (by simp))
    have st1 := sto Tryz.prog (l1 x1 (by simp))
    have st2 := sto Tryz.prog (l1 x2 (by simp))
    have st3 := sto Tryz.prog (l1 x3 (by simp))
    have st4 := sto Tryz.prog (l1 x4 (by simp))
    have st5 := sto Tryz.prog (l1 x5 (by simp))
    have st6 := sto Tryz.prog (l1 x6 (by simp))
    have st7 := sto Tryz.prog (l1 x7 (by simp))
    have t1 := (t0.step b1).alloc (t0.step b1).size (.cells #[x0, x1, x2, x3, x4, x5, x6, x7] 36)
    have CX := Cells.new w1 [x0, x1, x2, x3, x4, x5, x6, x7] 36
    have o1 := o1.alloc (.cells #[x0, x1, x2, x3, x4, x5, x6, x7] 36)
    have CP := (CP.later b1).alloc (.cells #[x0, x1, x2, x3, x4, x5, x6, x7] 36)
    have CQ := (CQ.later b1).alloc (.cells #[x0, x1, x2, x3, x4, x5, x6, x7] 36)
    have hb1 := b1.size
    clear l1 c0 c1 c2 c3 c4 c5 c6 c7
    go_upto_region 2 with fail
    have hs1 : w1.heap.size < (w1.alloc (.cells #[x0, x1, x2, x3, x4, x5, x6, x7] 36)).heap.size := by simp
    generalize w1.alloc (.cells #[x0, x1, x2, x3, x4, x5, x6, x7] 36) = wa at *
    obtain ⟨c0, c1, c2, c3, c4, c5, c6, c7⟩ := cells8 CQ
    go_wp2_with fail
    refine (implFold_calls (Rd.mono t1 g)).mono ?_
    rintro e w2 ⟨cs2, rfl, o2, b2⟩
    obtain ⟨z0, z1, z2, z3, z4, z5, z6, z7, rfl⟩ := list8 (Rd.len o2.rd)
    have l2 := Rd.one o2.rd
    clear st0 st1 st2 st3 st4 st5 st6 st7
    have st0 := sto Tryz.prog (l2 z0 (by simp))
    have st1 := sto Tryz.prog (l2 z1 (by simp))
    have st2 := sto Tryz.prog (l2 z2 (by simp))
    have st3 := sto Tryz.prog (l2 z3 (by simp))
    have st4 := sto Tryz.prog (l2 z4 (by simp))
    have st5 := sto Tryz.prog (l2 z5 (by simp))
    have st6 := sto Tryz.prog (l2 z6 (by simp))
    have st7 := sto Tryz.prog (l2 z7 (by simp))
    have t2 := (t1.step b2).alloc (t1.step b2).size (.cells #[z0, z1, z2, z3, z4, z5, z6, z7] 36)
    have CZ := Cells.new w2 [z0, z1, z2, z3, z4, z5, z6, z7] 36
    have o1 := (o1.later b2).alloc (.cells #[z0, z1, z2, z3, z4, z5, z6, z7] 36)
    have o2 := o2.alloc (.cells #[z0, z1, z2, z3, z4, z5, z6, z7] 36)
    have CX := (CX.later b2).alloc (.cells #[z0, z1, z2, z3, z4, z5, z6, z7] 36)
    have CP := (CP.later b2).alloc (.cells #[z0, z1, z2, z3, z4, z5, z6, z7] 36)
    have CQ := (CQ.later b2).alloc (.cells #[z0, z1, z2, z3, z4, z5, z6, z7] 36)
    have hb2 := b2.size
    clear l2 c0 c1 c2 c3 c4 c5 c6 c7
    go_upto_region 3 with fail
    have hs2 : w2.heap.size < (w2.alloc (.cells #[z0, z1, z2, z3, z4, z5, z6, z7] 36)).heap.size := by simp
    generalize w2.alloc (.cells #[z0, z1, z2, z3, z4, z5, z6, z7] 36) = we at *
    clear st0 st1 st2 st3 st4 st5 st6 st7
    refine wp_region_held_drew (S := fun w' => True) (by kernel_rfl) trivial (fun hHeld => ?_)
    refine takeD (i := 0) (v := .bool true) (some 19) rfl rfl (by kernel_rfl) (by kernel_rfl) (by kernel_rfl) (fun _ _ _ h => h) (Or.inl ⟨by rfl, fun w' hw' => ?_⟩) hHeld ?_
    · first | (go_simp; done) | (obtain ⟨⟨s0, s1, s2, s3, s4, s5, s6, s7⟩, r0, r1, r2, r3, r4, r5, r6, r7⟩ := hw'; go_simp; done)
    try simp only [Act.put, List.setIfInBounds_toArray, List.set_cons_zero, List.set_cons_succ]
    refine takeD (i := 1) (v := .bool true) (some 20) rfl rfl (by kernel_rfl) (by kernel_rfl) (by kernel_rfl) (fun _ _ _ h => h) (Or.inl ⟨by rfl, fun w' hw' => ?_⟩) hHeld ?_
    · first | (go_simp; done) | (obtain ⟨⟨s0, s1, s2, s3, s4, s5, s6, s7⟩, r0, r1, r2, r3, r4, r5, r6, r7⟩ := hw'; go_simp; done)
    try simp only [Act.put, List.setIfInBounds_toArray, List.set_cons_zero, List.set_cons_succ]
    refine takeD (i := 2) (v := .bool false) (some 21) rfl rfl (by kernel_rfl) (by kernel_rfl) (by kernel_rfl) (fun _ _ _ h => h) (Or.inl ⟨by rfl, fun w' hw' => ?_⟩) hHeld ?_
    · first | (go_simp; done) | (obtain ⟨⟨s0, s1, s2, s3, s4, s5, s6, s7⟩, r0, r1, r2, r3, r4, r5, r6, r7⟩ := hw'; go_simp; done)
    try simp only [Act.put, List.setIfInBounds_toArray, List.set_cons_zero, List.set_cons_succ]
    refine takeD (i := 3) (v := .bool false) (some 22) rfl rfl (by kernel_rfl) (by kernel_rfl) (by kernel_rfl) (fun _ _ _ h => h) (Or.inl ⟨by rfl, fun w' hw' => ?_⟩) hHeld ?_
    · first | (go_simp; done) | (obtain ⟨⟨s0, s1, s2, s3, s4, s5, s6, s7⟩, r0, r1, r2, r3, r4, r5, r6, r7⟩ := hw'; go_simp; done)
    try simp only [Act.put, List.setIfInBounds_toArray, List.set_cons_zero, List.set_cons_succ]
    refine takeD (i := 4) (v := .bool false) (some 23) rfl rfl (by kernel_rfl) (by kernel_rfl) (by kernel_rfl) (fun _ _ _ h => h) (Or.inl ⟨by rfl, fun w' hw' => ?_⟩) hHeld ?_
    · first | (go_simp; done) | (obtain ⟨⟨s0, s1, s2, s3, s4, s5, s6, s7⟩, r0, r1, r2, r3, r4, r5, r6, r7⟩ := hw'; go_simp; done)
    try simp only [Act.put, List.setIfInBounds_toArray, List.set_cons_zero, List.set_cons_succ]
    refine takeD (i := 5) (v := undef) (some 24) rfl rfl (by kernel_rfl) (by kernel_rfl) (by kernel_rfl) (fun _ _ _ h => h) (Or.inr ⟨by rfl, rfl⟩) hHeld ?_
    try simp only [Act.put, List.setIfInBounds_toArray, List.set_cons_zero, List.set_cons_succ]
    refine takeD (i := 6) (v := undef) (some 25) rfl rfl (by kernel_rfl) (by kernel_rfl) (by kernel_rfl) (fun _ _ _ h => h) (Or.inr ⟨by rfl, rfl⟩) hHeld ?_
    try simp only [Act.put, List.setIfInBounds_toArray, List.set_cons_zero, List.set_cons_succ]
    refine takeD (i := 7) (v := undef) (some 26) rfl rfl (by kernel_rfl) (by kernel_rfl) (by kernel_rfl) (fun _ _ _ h => h) (Or.inr ⟨by rfl, rfl⟩) hHeld ?_
    try simp only [Act.put, List.setIfInBounds_toArray, List.set_cons_zero, List.set_cons_succ]
    refine takeD (i := 8) (v := undef) (some 27) rfl rfl (by kernel_rfl) (by kernel_rfl) (by kernel_rfl) (fun _ _ _ h => h) (Or.inr ⟨by rfl, rfl⟩) hHeld ?_
    try simp only [Act.put, List.setIfInBounds_toArray, List.set_cons_zero, List.set_cons_succ]
    refine takeD (i := 9) (v := undef) (some 28) rfl rfl (by kernel_rfl) (by kernel_rfl) (by kernel_rfl) (fun _ _ _ h => h) (Or.inr ⟨by rfl, rfl⟩) hHeld ?_
    try simp only [Act.put, List.setIfInBounds_toArray, List.set_cons_zero, List.set_cons_succ]
    refine takeD (i := 10) (v := undef) (some 29) rfl rfl (by kernel_rfl) (by kernel_rfl) (by kernel_rfl) (fun _ _ _ h => h) (Or.inr ⟨by rfl, rfl⟩) hHeld ?_
    try simp only [Act.put, List.setIfInBounds_toArray, List.set_cons_zero, List.set_cons_succ]
    refine takeD (i := 11) (v := undef) (some 30) rfl rfl (by kernel_rfl) (by kernel_rfl) (by kernel_rfl) (fun _ _ _ h => h) (Or.inr ⟨by rfl, rfl⟩) hHeld ?_
    try simp only [Act.put, List.setIfInBounds_toArray, List.set_cons_zero, List.set_cons_succ]
    refine takeD (i := 12) (v := .bool false) (some 31) rfl rfl (by kernel_rfl) (by kernel_rfl) (by kernel_rfl) (fun _ _ _ h => h) (Or.inl ⟨by rfl, fun w' hw' => ?_⟩) hHeld ?_
    · first | (go_simp; done) | (obtain ⟨⟨s0, s1, s2, s3, s4, s5, s6, s7⟩, r0, r1, r2, r3, r4, r5, r6, r7⟩ := hw'; go_simp; done)
    try simp only [Act.put, List.setIfInBounds_toArray, List.set_cons_zero, List.set_cons_succ]
    refine takeD (i := 13) (v := .bool false) (some 4) rfl rfl (by kernel_rfl) (by kernel_rfl) (by kernel_rfl) (fun _ _ _ h => h) (Or.inl ⟨by rfl, fun w' hw' => ?_⟩) hHeld ?_
    · first | (go_simp; done) | (obtain ⟨⟨s0, s1, s2, s3, s4, s5, s6, s7⟩, r0, r1, r2, r3, r4, r5, r6, r7⟩ := hw'; go_simp; done)
    try simp only [Act.put, List.setIfInBounds_toArray, List.set_cons_zero, List.set_cons_succ]
    refine wpAnyH_done (by kernel_rfl) ?_ _
    go_wp2
    go_ret
    exact ⟨ret_bool hv.out.symm, t2.drew⟩
  have hv : Hid (eqvB p q = decide (ansN (foldD p) = ansN (foldD q))) := by show _ = _; rw [eqvB_C hF hG, ansN_iff hF hG]
  obtain ⟨c0, c1, c2, c3, c4, c5, c6, c7⟩ := cells8 CP
  go_wp2_with fail
  refine (implFold_calls (Rd.mono t0 h)).mono ?_
  rintro e w1 ⟨cs1, rfl, o1, b1⟩
  obtain ⟨x0, x1, x2, x3, x4, x5, x6, x7, rfl⟩ := list8 (Rd.len o1.rd)
  have l1 := Rd.one o1.rd
  have st0 := sto Tryz.prog (l1 x0 (by simp))
  have st1 := sto Tryz.prog (l1 x1 (by simp))
  have st2 := sto Tryz.prog (l1 x2 (by simp))
  have st3 := sto Tryz.prog (l1 x3 (by simp))
  have st4 := sto Tryz.prog (l1 x4 (by simp))
  have st5 := sto Tryz.prog (l1 x5 (by simp))
  have st6 := sto Tryz.prog (l1 x6 (by simp))
  have st7 := sto Tryz.prog (l1 x7 (by simp))
  have t1 := (t0.step b1).alloc (t0.step b1).size (.cells #[x0, x1, x2, x3, x4, x5, x6, x7] 36)
  have CX := Cells.new w1 [x0, x1, x2, x3, x4, x5, x6, x7] 36
  have o1 := o1.alloc (.cells #[x0, x1, x2, x3, x4, x5, x6, x7] 36)
  have CP := (CP.later b1).alloc (.cells #[x0, x1, x2, x3, x4, x5, x6, x7] 36)
  have CQ := (CQ.later b1).alloc (.cells #[x0, x1, x2, x3, x4, x5, x6, x7] 36)
  have hb1 := b1.size
  clear l1 c0 c1 c2 c3 c4 c5 c6 c7
  go_upto_region 2 with fail
  have hs1 : w1.heap.size < (w1.alloc (.cells #[x0, x1, x2, x3, x4, x5, x6, x7] 36)).heap.size := by simp
  generalize w1.alloc (.cells #[x0, x1, x2, x3, x4, x5, x6, x7] 36) = wa at *
  obtain ⟨c0, c1, c2, c3, c4, c5, c6, c7⟩ := cells8 CQ
  go_wp2_with fail
  refine (implFold_calls (Rd.mono t1 g)).mono ?_
  rintro e w2 ⟨cs2, rfl, o2, b2⟩
  obtain ⟨z0, z1, z2, z3, z4, z5, z6, z7, rfl⟩ := list8 (Rd.len o2.rd)
  have l2 := Rd.one o2.rd
  clear st0 st1 st2 st3 st4 st5 st6 st7
  have st0 := sto Tryz.prog (l2 z0 (by simp))
  have st1 := sto Tryz.prog (l2 z1 (by simp))
  have st2 := sto Tryz.prog (l2 z2 (by simp))
  have st3 := sto Tryz.prog (l2 z3 (by simp))
  have st4 := sto Tryz.prog (l2 z4 (by simp))
  have st5 := sto Tryz.prog (l2 z5 (by simp))
  have st6 := sto Tryz.prog (l2 z6 (by simp))
  have st7 := sto Tryz.prog (l2 z7 (by simp))
  have t2 := (t1.step b2).alloc (t1.step b2).size (.cells #[z0, z1, z2, z3, z4, z5, z6, z7] 36)
  have CZ := Cells.new w2 [z0, z1, z2, z3, z4, z5, z6, z7] 36
  have o1 := (o1.later b2).alloc (.cells #[z0, z1, z2, z3, z4, z5, z6, z7] 36)
  have o2 := o2.alloc (.cells #[z0, z1, z2, z3, z4, z5, z6, z7] 36)
  have CX := (CX.later b2).alloc (.cells #[z0, z1, z2, z3, z4, z5, z6, z7] 36)
  have CP := (CP.later b2).alloc (.cells #[z0, z1, z2, z3, z4, z5, z6, z7] 36)
  have CQ := (CQ.later b2).alloc (.cells #[z0, z1, z2, z3, z4, z5, z6, z7] 36)
  have hb2 := b2.size
  clear l2 c0 c1 c2 c3 c4 c5 c6 c7
  go_upto_region 3 with fail
  have hs2 : w2.heap.size < (w2.alloc (.cells #[z0, z1, z2, z3, z4, z5, z6, z7] 36)).heap.size := by simp
  generalize w2.alloc (.cells #[z0, z1, z2, z3, z4, z5, z6, z7] 36) = we at *
  clear st0 st1 st2 st3 st4 st5 st6 st7
  rw [foldR_yes hF] at o1
  rw [foldR_yes hG] at o2
  refine wp_region_held_drew (S := fun w' => (w'.cell? ⟨w1.heap.size, 0, none⟩ = some x0 ∧ w'.cell? ⟨w1.heap.size, 1, none⟩ = some x1 ∧ w'.cell? ⟨w1.heap.size, 2, none⟩ = some x2 ∧ w'.cell? ⟨w1.heap.size, 3, none⟩ = some x3 ∧ w'.cell? ⟨w1.heap.size, 4, none⟩ = some x4 ∧ w'.cell? ⟨w1.heap.size, 5, none⟩ = some x5 ∧ w'.cell? ⟨w1.heap.size, 6, none⟩ = some x6 ∧ w'.cell? ⟨w1.heap.size, 7, none⟩ = some x7) ∧ (w'.cell? ⟨w2.heap.size, 0, none⟩ = some z0 ∧ w'.cell? ⟨w2.heap.size, 1, none⟩ = some z1 ∧ w'.cell? ⟨w2.heap.size, 2, none⟩ = some z2 ∧ w'.cell? ⟨w2.heap.size, 3, none⟩ = some z3 ∧ w'.cell? ⟨w2.heap.size, 4, none⟩ = some z4 ∧ w'.cell? ⟨w2.heap.size, 5, none⟩ = some z5 ∧ w'.cell? ⟨w2.heap.size, 6, none⟩ = some z6 ∧ w'.cell? ⟨w2.heap.size, 7, none⟩ = some z7)) (by kernel_rfl) ⟨cells8 CX, cells8 CZ⟩ (fun hHeld => ?_)
  refine takeD (i := 0) (v := .bool true) (some 19) rfl rfl (by kernel_rfl) (by kernel_rfl) (by kernel_rfl) (fun _ _ _ h => h) (Or.inl ⟨by rfl, fun w' hw' => ?_⟩) hHeld ?_
  · first | (go_simp; done) | (obtain ⟨⟨s0, s1, s2, s3, s4, s5, s6, s7⟩, r0, r1, r2, r3, r4, r5, r6, r7⟩ := hw'; go_simp; done)
  try simp only [Act.put, List.setIfInBounds_toArray, List.set_cons_zero, List.set_cons_succ]
  refine takeD (i := 1) (v := .bool true) (some 20) rfl rfl (by kernel_rfl) (by kernel_rfl) (by kernel_rfl) (fun _ _ _ h => h) (Or.inl ⟨by rfl, fun w' hw' => ?_⟩) hHeld ?_
  · first | (go_simp; done) | (obtain ⟨⟨s0, s1, s2, s3, s4, s5, s6, s7⟩, r0, r1, r2, r3, r4, r5, r6, r7⟩ := hw'; go_simp; done)
  try simp only [Act.put, List.setIfInBounds_toArray, List.set_cons_zero, List.set_cons_succ]
  refine takeD (i := 2) (v := .bool true) (some 21) rfl rfl (by kernel_rfl) (by kernel_rfl) (by kernel_rfl) (fun _ _ _ h => h) (Or.inl ⟨by rfl, fun w' hw' => ?_⟩) hHeld ?_
  · first | (go_simp; done) | (obtain ⟨⟨s0, s1, s2, s3, s4, s5, s6, s7⟩, r0, r1, r2, r3, r4, r5, r6, r7⟩ := hw'; go_simp; done)
  try simp only [Act.put, List.setIfInBounds_toArray, List.set_cons_zero, List.set_cons_succ]
  refine takeD (i := 3) (v := .bool true) (some 22) rfl rfl (by kernel_rfl) (by kernel_rfl) (by kernel_rfl) (fun _ _ _ h => h) (Or.inl ⟨by rfl, fun w' hw' => ?_⟩) hHeld ?_
  · first | (go_simp; done) | (obtain ⟨⟨s0, s1, s2, s3, s4, s5, s6, s7⟩, r0, r1, r2, r3, r4, r5, r6, r7⟩ := hw'; go_simp; done)
  try simp only [Act.put, List.setIfInBounds_toArray, List.set_cons_zero, List.set_cons_succ]
  refine takeD (i := 4) (v := .bool true) (some 23) rfl rfl (by kernel_rfl) (by kernel_rfl) (by kernel_rfl) (fun _ _ _ h => h) (Or.inl ⟨by rfl, fun w' hw' => ?_⟩) hHeld ?_
  · first | (go_simp; done) | (obtain ⟨⟨s0, s1, s2, s3, s4, s5, s6, s7⟩, r0, r1, r2, r3, r4, r5, r6, r7⟩ := hw'; go_simp; done)
  try simp only [Act.put, List.setIfInBounds_toArray, List.set_cons_zero, List.set_cons_succ]
  refine takeD (i := 5) (v := .agg #[x0, x1, x2, x3, x4, x5, x6, x7]) (some 24) rfl rfl (by kernel_rfl) (by kernel_rfl) (by kernel_rfl) (fun _ _ _ h => h) (Or.inl ⟨by rfl, fun w' hw' => ?_⟩) hHeld ?_
  · first | (go_simp; done) | (obtain ⟨⟨s0, s1, s2, s3, s4, s5, s6, s7⟩, r0, r1, r2, r3, r4, r5, r6, r7⟩ := hw'; go_simp; done)
  try simp only [Act.put, List.setIfInBounds_toArray, List.set_cons_zero, List.set_cons_succ]
  refine takeD (i := 8) (v := .agg #[z0, z1, z2, z3, z4, z5, z6, z7]) (some 27) rfl rfl (by kernel_rfl) (by kernel_rfl) (by kernel_rfl) (fun _ _ _ h => h) (Or.inl ⟨by rfl, fun w' hw' => ?_⟩) hHeld ?_
  · first | (go_simp; done) | (obtain ⟨⟨s0, s1, s2, s3, s4, s5, s6, s7⟩, r0, r1, r2, r3, r4, r5, r6, r7⟩ := hw'; go_simp; done)
  try simp only [Act.put, List.setIfInBounds_toArray, List.set_cons_zero, List.set_cons_succ]
  refine wpAnyH_ready (rs := [6]) (by kernel_rfl) (by simp) ?_
  refine AllReadyH.cons rfl (fun K hK => ?_) AllReadyH.nil
  go_simp
  refine (answersSeq_calls x0 x1 x2 x3 x4 x5 x6 x7 _).mono ?_
  rintro e w3 ⟨rfl, h3⟩
  have b3 : Below we.heap.size we w3 := by rw [h3]; exact (Below.refl _ _).drew.alloc (Nat.le_refl _) _
  have CA : Cells w3 we.heap.size 0 [x0, x1, x2, x3, x4, x5, x6, x7] := by rw [h3]; exact Cells.new we.drew [x0, x1, x2, x3, x4, x5, x6, x7] 36
  clear h3
  refine hK.out _ _ ⟨cells8 (CX.later b3), cells8 (CZ.later b3)⟩ (fun hHeld => ?_)
  clear hK K
  try simp only [Act.put, List.setIfInBounds_toArray, List.set_cons_zero, List.set_cons_succ]
  refine wpAnyH_ready (rs := [7]) (by kernel_rfl) (by simp) ?_
  refine AllReadyH.cons rfl (fun K hK => ?_) AllReadyH.nil
  go_simp
  refine (collectM_calls w3 we.heap.size (o1.later b3).rd CA).mono ?_
  rintro e w4 ⟨v4, rfl, ho4, b4⟩
  have b34 := b3.step b4
  refine hK.out _ _ ⟨cells8 (CX.later b34), cells8 (CZ.later b34)⟩ (fun hHeld => ?_)
  clear hK K
  try simp only [Act.put, List.setIfInBounds_toArray, List.set_cons_zero, List.set_cons_succ]
  refine wpAnyH_ready (rs := [9]) (by kernel_rfl) (by simp) ?_
  refine AllReadyH.cons rfl (fun K hK => ?_) AllReadyH.nil
  go_simp
  refine (answersSeq_calls z0 z1 z2 z3 z4 z5 z6 z7 _).mono ?_
  rintro e w5 ⟨rfl, h5⟩
  have b5 : Below w4.heap.size w4 w5 := by rw [h5]; exact (Below.refl _ _).alloc (Nat.le_refl _) _
  have CB : Cells w5 w4.heap.size 0 [z0, z1, z2, z3, z4, z5, z6, z7] := by rw [h5]; exact Cells.new w4 [z0, z1, z2, z3, z4, z5, z6, z7] 36
  clear h5
  have b35 := b34.step b5
  refine hK.out _ _ ⟨cells8 (CX.later b35), cells8 (CZ.later b35)⟩ (fun hHeld => ?_)
  clear hK K
  try simp only [Act.put, List.setIfInBounds_toArray, List.set_cons_zero, List.set_cons_succ]
  refine wpAnyH_ready (rs := [10]) (by kernel_rfl) (by simp) ?_
  refine AllReadyH.cons rfl (fun K hK => ?_) AllReadyH.nil
  go_simp
  refine (collectM_calls w5 w4.heap.size (o2.later b35).rd CB).mono ?_
  rintro e w6 ⟨v6, rfl, ho6, b6⟩
  have b36 := b35.step b6
  refine hK.out _ _ ⟨cells8 (CX.later b36), cells8 (CZ.later b36)⟩ (fun hHeld => ?_)
  clear hK K
  try simp only [Act.put, List.setIfInBounds_toArray, List.set_cons_zero, List.set_cons_succ]
  refine wpAnyH_ready (rs := [11]) (by kernel_rfl) (by simp) ?_
  refine AllReadyH.cons rfl (fun K hK => ?_) AllReadyH.nil
  go_simp
  refine (slEqual_calls (ownM_kept (ownM_kept ho4 b5) b6) ho6).mono ?_
  rintro e w7 ⟨rfl, b7⟩
  have b37 := b36.step b7
  refine hK.out _ _ ⟨cells8 (CX.later b37), cells8 (CZ.later b37)⟩ (fun hHeld => ?_)
  clear hK K
  try simp only [Act.put, List.setIfInBounds_toArray, List.set_cons_zero, List.set_cons_succ]
  refine takeD (i := 12) (v := .bool (decide (ansN (foldD p) = ansN (foldD q)))) (some 31) rfl rfl (by kernel_rfl) (by kernel_rfl) (by kernel_rfl) (fun _ _ _ h => h) (Or.inl ⟨by rfl, fun w' hw' => ?_⟩) hHeld ?_
  · first | (go_simp; done) | (obtain ⟨⟨s0, s1, s2, s3, s4, s5, s6, s7⟩, r0, r1, r2, r3, r4, r5, r6, r7⟩ := hw'; go_simp; done)
  try simp only [Act.put, List.setIfInBounds_toArray, List.set_cons_zero, List.set_cons_succ]
  refine takeD (i := 13) (v := .bool (decide (ansN (foldD p) = ansN (foldD q)))) (some 4) rfl rfl (by kernel_rfl) (by kernel_rfl) (by kernel_rfl) (fun _ _ _ h => h) (Or.inl ⟨by rfl, fun w' hw' => ?_⟩) hHeld ?_
  · first | (go_simp; done) | (obtain ⟨⟨s0, s1, s2, s3, s4, s5, s6, s7⟩, r0, r1, r2, r3, r4, r5, r6, r7⟩ := hw'; go_simp; done)
  try simp only [Act.put, List.setIfInBounds_toArray, List.set_cons_zero, List.set_cons_succ]
  refine wpAnyH_done (by kernel_rfl) ?_ _
  go_wp2
  go_ret
  exact ⟨ret_bool hv.out.symm, t2.step b37⟩

set_option maxHeartbeats 4000000 in
theorem l05Same_calls {v v' : Value} {xs ys : List (List Int)} {w : World} (h : RdL w [v] xs) (h' : RdL w [v'] ys) :
    Calls Tryz.prog 70 #[v, v'] w fun e w' => e = .returned (.bool (decide (xs = ys))) ∧ Below w.heap.size w w' := by
  obtain ⟨a, cap, rfl, _, h⟩ := h.sl
  obtain ⟨a', cap', rfl, _, h'⟩ := h'.sl
  have hm := h.1
  by_cases hl : xs.length = ys.length
  · have hbn : ((xs.length : Int) != (ys.length : Int)) = false := by simp [hl]
    have HL := Lib.hid hl
    clear hl
    go_enter Tryz.func70, Tryz.ntmps70
    go_wp2
    clear hbn
    go_loopw [5] (fun i wr => ∃ k : Nat, k ≤ xs.length ∧ i = .int .i64 k ∧ Hid (xs.take k = ys.take k) ∧ Below w.heap.size w wr) (fun i _ => xs.length - (intOf i).toNat)
    case atStart => exact ⟨0, Nat.zero_le _, rfl, (rfl : ([] : List (List Int)) = []), Below.refl _ _⟩
    case round =>
      obtain ⟨k, hk, rfl, hE, hb⟩ := hrel
      by_cases hlt : k < xs.length
      · have hlt2 : k < ys.length := by have := HL.out; omega
        obtain ⟨b, off, rfl, hc⟩ := h.base (by omega)
        obtain ⟨b', off', rfl, hc'⟩ := h'.base (by omega)
        obtain ⟨ecs, hC, hR⟩ := hc k hlt
        obtain ⟨ecs', hC', hR'⟩ := hc' k hlt2
        have hR := Rd.mono hb hR
        have hR' := Rd.mono hb hR'
        have hC := hC.later hb
        have hC' := hC'.later hb
        obtain ⟨aa, ka, rfl, hra⟩ := hR
        obtain ⟨ab, kb, rfl, hrb⟩ := hR'
        have u0 := hC.c0
        have v0 := hC'.c0
        rw [show Rd.k (List Int) = 1 from rfl, Nat.mul_one] at u0 v0
        have hkI : (k : Int) < (ys.length : Int) := by omega
        have hIa := hra.2.2
        have hIb := hrb.2.2
        clear hC hC' hc hc'
        cases hq : eqB (nth xs k) (nth ys k)
        · have hv : Hid (decide (xs = ys) = false) := decide_eq_false fun e => by rw [e, eqB_self] at hq; cases hq
          go_wp2
          go_still_tail 10, (by kernel_rfl)
          go_wp2_with fail
          refine (l01Same_calls _ _ _ _ _ _ _ (hIa.later (Below.refl _ _).drew).ints (hIb.later (Below.refl _ _).drew).ints).mono ?_
          rintro e w2 ⟨he, b2⟩
          rw [hq] at he
          subst he
          have hbe : Below w.heap.size w w2 := (show Below w.heap.size w _ by first | exact hb.drew | exact below_drewN hb _).step b2
          go_wp2
          go_ret
          exact ⟨ret_bool hv.out.symm, hbe⟩
        · have hE' : Hid (xs.take (k + 1) = ys.take (k + 1)) := by show _ = _; rw [take_nth hlt, take_nth hlt2, hE.out, of_decide_eq_true hq]
          go_wp2
          go_still_tail 10, (by kernel_rfl)
          go_wp2_with fail
          refine (l01Same_calls _ _ _ _ _ _ _ (hIa.later (Below.refl _ _).drew).ints (hIb.later (Below.refl _ _).drew).ints).mono ?_
          rintro e w2 ⟨he, b2⟩
          rw [hq] at he
          subst he
          have hbe : Below w.heap.size w w2 := (show Below w.heap.size w _ by first | exact hb.drew | exact below_drewN hb _).step b2
          go_wp2
          go_roundw
          case rel => exact ⟨k + 1, by omega, by go_num, hE', hbe⟩
          case measure => simp [intOf]; omega
      · have hv : Hid (decide (xs = ys) = true) := decide_eq_true (by
          have h1 := hE.out
          rwa [List.take_of_length_le (by omega), List.take_of_length_le (by have := HL.out; omega)] at h1)
        go_wp2
        go_ret
        exact ⟨ret_bool hv.out.symm, hb⟩
  · have hbn : ((xs.length : Int) != (ys.length : Int)) = true := bne_iff_ne.2 (by omega)
    have hv : Hid (decide (xs = ys) = false) := decide_eq_false fun e => hl (by rw [e])
    clear hl
    go_enter Tryz.func70, Tryz.ntmps70
    go_wp2
    go_ret
    exact ⟨ret_bool hv.out.symm, Below.refl _ _⟩

set_option maxHeartbeats 8000000 in
theorem specEqual_calls {cs ds : List Value} {p q : ProgD} {w : World} (h : Rd.R w cs p) (g : Rd.R w ds q) :
    Calls Tryz.prog 24 #[.agg cs.toArray, .agg ds.toArray] w fun e w' => e = .returned (.bool (eqvB p q)) ∧ Below w.heap.size w w' := by
  obtain ⟨e0, e1, e2, e3, e4, e5, e6, e7, rfl⟩ := list8 (Rd.len h)
  obtain ⟨d0, d1, d2, d3, d4, d5, d6, d7, rfl⟩ := list8 (Rd.len g)
  have t0 : Below w.heap.size w ((w.alloc (.cells #[e0, e1, e2, e3, e4, e5, e6, e7] 36)).alloc (.cells #[d0, d1, d2, d3, d4, d5, d6, d7] 36)) := ((Below.refl _ _).alloc (by simp) _).alloc (by simp) _
  have CP := (Cells.new w [e0, e1, e2, e3, e4, e5, e6, e7] 36).alloc (.cells #[d0, d1, d2, d3, d4, d5, d6, d7] 36)
  have CQ := Cells.new (w.alloc (.cells #[e0, e1, e2, e3, e4, e5, e6, e7] 36)) [d0, d1, d2, d3, d4, d5, d6, d7] 36
  rw [World.size_alloc] at CQ
  go_enter Tryz.func24, Tryz.ntmps24
  go_upto_region 1 with fail
  have hsz0 : w.heap.size + 2 ≤ ((w.alloc (.cells #[e0, e1, e2, e3, e4, e5, e6, e7] 36)).alloc (.cells #[d0, d1, d2, d3, d4, d5, d6, d7] 36)).heap.size := by simp
  generalize (w.alloc (.cells #[e0, e1, e2, e3, e4, e5, e6, e7] 36)).alloc (.cells #[d0, d1, d2, d3, d4, d5, d6, d7] 36) = w0 at *
  cases hF : foldB p
  · have hv := Lib.hid (eqvB_A (q := q) hF)
    obtain ⟨c0, c1, c2, c3, c4, c5, c6, c7⟩ := cells8 CP
    go_wp2_with fail
    refine (specFold_calls (Rd.mono t0 h)).mono ?_
    rintro e w1 ⟨cs1, rfl, o1, b1⟩
    obtain ⟨x0, x1, x2, x3, x4, x5, x6, x7, rfl⟩ := list8 (Rd.len o1.rd)
    have l1 := Rd.one o1.rd
    have st0 := sto Tryz.prog (l1 x0 (by simp))
    have st1 := sto Tryz.prog (l1 x1 (by simp))
    have st2 := sto Tryz.prog (l1 x2 (by simp))
    have st3 := sto Tryz.prog (l1 x3 (by simp))
    have st4 := sto Tryz.prog (l1 x4 (by simp))
    have st5 := sto Tryz.prog (l1 x5 (by simp))
    have st6 := sto Tryz.prog (l1 x6 (by simp))
    have st7 := sto Tryz.prog (l1 x7 (by simp))
    have t1 := (t0.step b1).alloc (t0.step b1).size (.cells #[x0, x1, x2, x3, x4, x5, x6, x7] 36)
    have CX := Cells.new w1 [x0, x1, x2, x3, x4, x5, x6, x7] 36
    have o1 := o1.alloc (.cells #[x0, x1, x2, x3, x4, x5, x6, x7] 36)
    have CP := (CP.later b1).alloc (.cells #[x0, x1, x2, x3, x4, x5, x6, x7] 36)
    have CQ := (CQ.later b1).alloc (.cells #[x0, x1, x2, x3, x4, x5, x6, x7] 36)
    have hb1 := b1.size
    clear l1 c0 c1 c2 c3 c4 c5 c6 c7
    go_upto_region 2 with fail
    have hs1 : w1.heap.size < (w1.alloc (.cells #[x0, x1, x2, x3, x4, x5, x6, x7] 36)).heap.size := by simp
    generalize w1.alloc (.cells #[x0, x1, x2, x3, x4, x5, x6, x7] 36) = wa at *
    obtain ⟨c0, c1, c2, c3, c4, c5, c6, c7⟩ := cells8 CQ
    go_wp2_with fail
    refine (specFold_calls (Rd.mono t1 g)).mono ?_
    rintro e w2 ⟨cs2, rfl, o2, b2⟩
    obtain ⟨z0, z1, z2, z3, z4, z5, z6, z7, rfl⟩ := list8 (Rd.len o2.rd)
    have l2 := Rd.one o2.rd
    clear st0 st1 st2 st3 st4 st5 st6 st7
    have st0 := sto Tryz.prog (l2 z0 (by simp))
    have st1 := sto Tryz.prog (l2 z1 (by simp))
    have st2 := sto Tryz.prog (l2 z2 (by simp))
    have st3 := sto Tryz.prog (l2 z3 (by simp))
    have st4 := sto Tryz.prog (l2 z4 (by simp))
    have st5 := sto Tryz.prog (l2 z5 (by simp))
    have st6 := sto Tryz.prog (l2 z6 (by simp))
    have st7 := sto Tryz.prog (l2 z7 (by simp))
    have t2 := (t1.step b2).alloc (t1.step b2).size (.cells #[z0, z1, z2, z3, z4, z5, z6, z7] 36)
    have CZ := Cells.new w2 [z0, z1, z2, z3, z4, z5, z6, z7] 36
    have o1 := (o1.later b2).alloc (.cells #[z0, z1, z2, z3, z4, z5, z6, z7] 36)
    have o2 := o2.alloc (.cells #[z0, z1, z2, z3, z4, z5, z6, z7] 36)
    have CX := (CX.later b2).alloc (.cells #[z0, z1, z2, z3, z4, z5, z6, z7] 36)
    have CP := (CP.later b2).alloc (.cells #[z0, z1, z2, z3, z4, z5, z6, z7] 36)
    have CQ := (CQ.later b2).alloc (.cells #[z0, z1, z2, z3, z4, z5, z6, z7] 36)
    have hb2 := b2.size
    clear l2 c0 c1 c2 c3 c4 c5 c6 c7
    go_upto_region 3 with fail
    have hs2 : w2.heap.size < (w2.alloc (.cells #[z0, z1, z2, z3, z4, z5, z6, z7] 36)).heap.size := by simp
    generalize w2.alloc (.cells #[z0, z1, z2, z3, z4, z5, z6, z7] 36) = we at *
    clear st0 st1 st2 st3 st4 st5 st6 st7
    refine wp_region_held_drew (S := fun w' => True) (by kernel_rfl) trivial (fun hHeld => ?_)
    refine takeD (i := 0) (v := .bool false) (some 19) rfl rfl (by kernel_rfl) (by kernel_rfl) (by kernel_rfl) (fun _ _ _ h => h) (Or.inl ⟨by rfl, fun w' hw' => ?_⟩) hHeld ?_
    · first | (go_simp; done) | (obtain ⟨⟨s0, s1, s2, s3, s4, s5, s6, s7⟩, r0, r1, r2, r3, r4, r5, r6, r7⟩ := hw'; go_simp; done)
    try simp only [Act.put, List.setIfInBounds_toArray, List.set_cons_zero, List.set_cons_succ]
    refine takeD (i := 1) (v := .bool false) (some 20) rfl rfl (by kernel_rfl) (by kernel_rfl) (by kernel_rfl) (fun _ _ _ h => h) (Or.inl ⟨by rfl, fun w' hw' => ?_⟩) hHeld ?_
    · first | (go_simp; done) | (obtain ⟨⟨s0, s1, s2, s3, s4, s5, s6, s7⟩, r0, r1, r2, r3, r4, r5, r6, r7⟩ := hw'; go_simp; done)
    try simp only [Act.put, List.setIfInBounds_toArray, List.set_cons_zero, List.set_cons_succ]
    refine takeD (i := 2) (v := undef) (some 21) rfl rfl (by kernel_rfl) (by kernel_rfl) (by kernel_rfl) (fun _ _ _ h => h) (Or.inr ⟨by rfl, rfl⟩) hHeld ?_
    try simp only [Act.put, List.setIfInBounds_toArray, List.set_cons_zero, List.set_cons_succ]
    refine takeD (i := 3) (v := .bool false) (some 22) rfl rfl (by kernel_rfl) (by kernel_rfl) (by kernel_rfl) (fun _ _ _ h => h) (Or.inl ⟨by rfl, fun w' hw' => ?_⟩) hHeld ?_
    · first | (go_simp; done) | (obtain ⟨⟨s0, s1, s2, s3, s4, s5, s6, s7⟩, r0, r1, r2, r3, r4, r5, r6, r7⟩ := hw'; go_simp; done)
    try simp only [Act.put, List.setIfInBounds_toArray, List.set_cons_zero, List.set_cons_succ]
    refine takeD (i := 4) (v := .bool false) (some 23) rfl rfl (by kernel_rfl) (by kernel_rfl) (by kernel_rfl) (fun _ _ _ h => h) (Or.inl ⟨by rfl, fun w' hw' => ?_⟩) hHeld ?_
    · first | (go_simp; done) | (obtain ⟨⟨s0, s1, s2, s3, s4, s5, s6, s7⟩, r0, r1, r2, r3, r4, r5, r6, r7⟩ := hw'; go_simp; done)
    try simp only [Act.put, List.setIfInBounds_toArray, List.set_cons_zero, List.set_cons_succ]
    refine takeD (i := 5) (v := undef) (some 24) rfl rfl (by kernel_rfl) (by kernel_rfl) (by kernel_rfl) (fun _ _ _ h => h) (Or.inr ⟨by rfl, rfl⟩) hHeld ?_
    try simp only [Act.put, List.setIfInBounds_toArray, List.set_cons_zero, List.set_cons_succ]
    refine takeD (i := 6) (v := undef) (some 25) rfl rfl (by kernel_rfl) (by kernel_rfl) (by kernel_rfl) (fun _ _ _ h => h) (Or.inr ⟨by rfl, rfl⟩) hHeld ?_
    try simp only [Act.put, List.setIfInBounds_toArray, List.set_cons_zero, List.set_cons_succ]
    refine takeD (i := 7) (v := undef) (some 26) rfl rfl (by kernel_rfl) (by kernel_rfl) (by kernel_rfl) (fun _ _ _ h => h) (Or.inr ⟨by rfl, rfl⟩) hHeld ?_
    try simp only [Act.put, List.setIfInBounds_toArray, List.set_cons_zero, List.set_cons_succ]
    refine takeD (i := 8) (v := undef) (some 27) rfl rfl (by kernel_rfl) (by kernel_rfl) (by kernel_rfl) (fun _ _ _ h => h) (Or.inr ⟨by rfl, rfl⟩) hHeld ?_
    try simp only [Act.put, List.setIfInBounds_toArray, List.set_cons_zero, List.set_cons_succ]
    refine takeD (i := 9) (v := undef) (some 28) rfl rfl (by kernel_rfl) (by kernel_rfl) (by kernel_rfl) (fun _ _ _ h => h) (Or.inr ⟨by rfl, rfl⟩) hHeld ?_
    try simp only [Act.put, List.setIfInBounds_toArray, List.set_cons_zero, List.set_cons_succ]
    refine takeD (i := 10) (v := .bool false) (some 29) rfl rfl (by kernel_rfl) (by kernel_rfl) (by kernel_rfl) (fun _ _ _ h => h) (Or.inl ⟨by rfl, fun w' hw' => ?_⟩) hHeld ?_
    · first | (go_simp; done) | (obtain ⟨⟨s0, s1, s2, s3, s4, s5, s6, s7⟩, r0, r1, r2, r3, r4, r5, r6, r7⟩ := hw'; go_simp; done)
    try simp only [Act.put, List.setIfInBounds_toArray, List.set_cons_zero, List.set_cons_succ]
    refine takeD (i := 11) (v := .bool false) (some 4) rfl rfl (by kernel_rfl) (by kernel_rfl) (by kernel_rfl) (fun _ _ _ h => h) (Or.inl ⟨by rfl, fun w' hw' => ?_⟩) hHeld ?_
    · first | (go_simp; done) | (obtain ⟨⟨s0, s1, s2, s3, s4, s5, s6, s7⟩, r0, r1, r2, r3, r4, r5, r6, r7⟩ := hw'; go_simp; done)
    try simp only [Act.put, List.setIfInBounds_toArray, List.set_cons_zero, List.set_cons_succ]
    refine wpAnyH_done (by kernel_rfl) ?_ _
    go_wp2
    go_ret
    exact ⟨ret_bool hv.out.symm, t2.drew⟩
  cases hG : foldB q
  · have hv := Lib.hid (eqvB_B (p := p) hG)
    obtain ⟨c0, c1, c2, c3, c4, c5, c6, c7⟩ := cells8 CP
    go_wp2_with fail
    refine (specFold_calls (Rd.mono t0 h)).mono ?_
    rintro e w1 ⟨cs1, rfl, o1, b1⟩
    obtain ⟨x0, x1, x2, x3, x4, x5, x6, x7, rfl⟩ := list8 (Rd.len o1.rd)
    have l1 := Rd.one o1.rd
    have st0 := sto Tryz.prog (l1 x0 (by simp))
    have st1 := sto Tryz.prog (l1 x1 (by simp))
    have st2 := sto Tryz.prog (l1 x2 (by simp))
    have st3 := sto Tryz.prog (l1 x3 (by simp))
    have st4 := sto Tryz.prog (l1 x4 (by simp))
    have st5 := sto Tryz.prog (l1 x5 (by simp))
    have st6 := sto Tryz.prog (l1 x6 (by simp))
    have st7 := sto Tryz.prog (l1 x7 (by simp))
    have t1 := (t0.step b1).alloc (t0.step b1).size (.cells #[x0, x1, x2, x3, x4, x5, x6, x7] 36)
    have CX := Cells.new w1 [x0, x1, x2, x3, x4, x5, x6, x7] 36
    have o1 := o1.alloc (.cells #[x0, x1, x2, x3, x4, x5, x6, x7] 36)
    have CP := (CP.later b1).alloc (.cells #[x0, x1, x2, x3, x4, x5, x6, x7] 36)
    have CQ := (CQ.later b1).alloc (.cells #[x0, x1, x2, x3, x4, x5, x6, x7] 36)
    have hb1 := b1.size
    clear l1 c0 c1 c2 c3 c4 c5 c6 c7
    go_upto_region 2 with fail
    have hs1 : w1.heap.size < (w1.alloc (.cells #[x0, x1, x2, x3, x4, x5, x6, x7] 36)).heap.size := by simp
    generalize w1.alloc (.cells #[x0, x1, x2, x3, x4, x5, x6, x7] 36) = wa at *
    obtain ⟨c0, c1, c2, c3, c4, c5, c6, c7⟩ := cells8 CQ
    go_wp2_with fail
    refine (specFold_calls (Rd.mono t1 g)).mono ?_
    rintro e w2 ⟨cs2, rfl, o2, b2⟩
    obtain ⟨z0, z1, z2, z3, z4, z5, z6, z7, rfl⟩ := list8 (Rd.len o2.rd)
    have l2 := Rd.one o2.rd
    clear st0 st1 st2 st3 st4 st5 st6 st7
    have st0 := sto Tryz.prog (l2 z0 (by simp))
    have st1 := sto Tryz.prog (l2 z1 (by simp))
    have st2 := sto Tryz.prog (l2 z2 (by simp))
    have st3 := sto Tryz.prog (l2 z3 (by simp))
    have st4 := sto Tryz.prog (l2 z4 (by simp))
    have st5 := sto Tryz.prog (l2 z5 (by simp))
    have st6 := sto Tryz.prog (l2 z6 (by simp))
    have st7 := sto Tryz.prog (l2 z7 (by simp))
    have t2 := (t1.step b2).alloc (t1.step b2).size (.cells #[z0, z1, z2, z3, z4, z5, z6, z7] 36)
    have CZ := Cells.new w2 [z0, z1, z2, z3, z4, z5, z6, z7] 36
    have o1 := (o1.later b2).alloc (.cells #[z0, z1, z2, z3, z4, z5, z6, z7] 36)
    have o2 := o2.alloc (.cells #[z0, z1, z2, z3, z4, z5, z6, z7] 36)
    have CX := (CX.later b2).alloc (.cells #[z0, z1, z2, z3, z4, z5, z6, z7] 36)
    have CP := (CP.later b2).alloc (.cells #[z0, z1, z2, z3, z4, z5, z6, z7] 36)
    have CQ := (CQ.later b2).alloc (.cells #[z0, z1, z2, z3, z4, z5, z6, z7] 36)
    have hb2 := b2.size
    clear l2 c0 c1 c2 c3 c4 c5 c6 c7
    go_upto_region 3 with fail
    have hs2 : w2.heap.size < (w2.alloc (.cells #[z0, z1, z2, z3, z4, z5, z6, z7] 36)).heap.size := by simp
    generalize w2.alloc (.cells #[z0, z1, z2, z3, z4, z5, z6, z7] 36) = we at *
    clear st0 st1 st2 st3 st4 st5 st6 st7
    refine wp_region_held_drew (S := fun w' => True) (by kernel_rfl) trivial (fun hHeld => ?_)
    refine takeD (i := 0) (v := .bool true) (some 19) rfl rfl (by kernel_rfl) (by kernel_rfl) (by kernel_rfl) (fun _ _ _ h => h) (Or.inl ⟨by rfl, fun w' hw' => ?_⟩) hHeld ?_
    · first | (go_simp; done) | (obtain ⟨⟨s0, s1, s2, s3, s4, s5, s6, s7⟩, r0, r1, r2, r3, r4, r5, r6, r7⟩ := hw'; go_simp; done)
    try simp only [Act.put, List.setIfInBounds_toArray, List.set_cons_zero, List.set_cons_succ]
    refine takeD (i := 1) (v := .bool true) (some 20) rfl rfl (by kernel_rfl) (by kernel_rfl) (by kernel_rfl) (fun _ _ _ h => h) (Or.inl ⟨by rfl, fun w' hw' => ?_⟩) hHeld ?_
    · first | (go_simp; done) | (obtain ⟨⟨s0, s1, s2, s3, s4, s5, s6, s7⟩, r0, r1, r2, r3, r4, r5, r6, r7⟩ := hw'; go_simp; done)
    try simp only [Act.put, List.setIfInBounds_toArray, List.set_cons_zero, List.set_cons_succ]
    refine takeD (i := 2) (v := .bool false) (some 21) rfl rfl (by kernel_rfl) (by kernel_rfl) (by kernel_rfl) (fun _ _ _ h => h) (Or.inl ⟨by rfl, fun w' hw' => ?_⟩) hHeld ?_
    · first | (go_simp; done) | (obtain ⟨⟨s0, s1, s2, s3, s4, s5, s6, s7⟩, r0, r1, r2, r3, r4, r5, r6, r7⟩ := hw'; go_simp; done)
    try simp only [Act.put, List.setIfInBounds_toArray, List.set_cons_zero, List.set_cons_succ]
    refine takeD (i := 3) (v := .bool false) (some 22) rfl rfl (by kernel_rfl) (by kernel_rfl) (by kernel_rfl) (fun _ _ _ h => h) (Or.inl ⟨by rfl, fun w' hw' => ?_⟩) hHeld ?_
    · first | (go_simp; done) | (obtain ⟨⟨s0, s1, s2, s3, s4, s5, s6, s7⟩, r0, r1, r2, r3, r4, r5, r6, r7⟩ := hw'; go_simp; done)
    try simp only [Act.put, List.setIfInBounds_toArray, List.set_cons_zero, List.set_cons_succ]
    refine takeD (i := 4) (v := .bool false) (some 23) rfl rfl (by kernel_rfl) (by kernel_rfl) (by kernel_rfl) (fun _ _ _ h => h) (Or.inl ⟨by rfl, fun w' hw' => ?_⟩) hHeld ?_
    · first | (go_simp; done) | (obtain ⟨⟨s0, s1, s2, s3, s4, s5, s6, s7⟩, r0, r1, r2, r3, r4, r5, r6, r7⟩ := hw'; go_simp; done)
    try simp only [Act.put, List.setIfInBounds_toArray, List.set_cons_zero, List.set_cons_succ]
    refine takeD (i := 5) (v := undef) (some 24) rfl rfl (by kernel_rfl) (by kernel_rfl) (by kernel_rfl) (fun _ _ _ h => h) (Or.inr ⟨by rfl, rfl⟩) hHeld ?_
    try simp only [Act.put, List.setIfInBounds_toArray, List.set_cons_zero, List.set_cons_succ]
    refine takeD (i := 6) (v := undef) (some 25) rfl rfl (by kernel_rfl) (by kernel_rfl) (by kernel_rfl) (fun _ _ _ h => h) (Or.inr ⟨by rfl, rfl⟩) hHeld ?_
    try simp only [Act.put, List.setIfInBounds_toArray, List.set_cons_zero, List.set_cons_succ]
    refine takeD (i := 7) (v := undef) (some 26) rfl rfl (by kernel_rfl) (by kernel_rfl) (by kernel_rfl) (fun _ _ _ h => h) (Or.inr ⟨by rfl, rfl⟩) hHeld ?_
    try simp only [Act.put, List.setIfInBounds_toArray, List.set_cons_zero, List.set_cons_succ]
    refine takeD (i := 8) (v := undef) (some 27) rfl rfl (by kernel_rfl) (by kernel_rfl) (by kernel_rfl) (fun _ _ _ h => h) (Or.inr ⟨by rfl, rfl⟩) hHeld ?_
    try simp only [Act.put, List.setIfInBounds_toArray, List.set_cons_zero, List.set_cons_succ]
    refine takeD (i := 9) (v := undef) (some 28) rfl rfl (by kernel_rfl) (by kernel_rfl) (by kernel_rfl) (fun _ _ _ h => h) (Or.inr ⟨by rfl, rfl⟩) hHeld ?_
    try simp only [Act.put, List.setIfInBounds_toArray, List.set_cons_zero, List.set_cons_succ]
    refine takeD (i := 10) (v := .bool false) (some 29) rfl rfl (by kernel_rfl) (by kernel_rfl) (by kernel_rfl) (fun _ _ _ h => h) (Or.inl ⟨by rfl, fun w' hw' => ?_⟩) hHeld ?_
    · first | (go_simp; done) | (obtain ⟨⟨s0, s1, s2, s3, s4, s5, s6, s7⟩, r0, r1, r2, r3, r4, r5, r6, r7⟩ := hw'; go_simp; done)
    try simp only [Act.put, List.setIfInBounds_toArray, List.set_cons_zero, List.set_cons_succ]
    refine takeD (i := 11) (v := .bool false) (some 4) rfl rfl (by kernel_rfl) (by kernel_rfl) (by kernel_rfl) (fun _ _ _ h => h) (Or.inl ⟨by rfl, fun w' hw' => ?_⟩) hHeld ?_
    · first | (go_simp; done) | (obtain ⟨⟨s0, s1, s2, s3, s4, s5, s6, s7⟩, r0, r1, r2, r3, r4, r5, r6, r7⟩ := hw'; go_simp; done)
    try simp only [Act.put, List.setIfInBounds_toArray, List.set_cons_zero, List.set_cons_succ]
    refine wpAnyH_done (by kernel_rfl) ?_ _
    go_wp2
    go_ret
    exact ⟨ret_bool hv.out.symm, t2.drew⟩
  have hv := Lib.hid (eqvB_C hF hG)
  obtain ⟨c0, c1, c2, c3, c4, c5, c6, c7⟩ := cells8 CP
  go_wp2_with fail
  refine (specFold_calls (Rd.mono t0 h)).mono ?_
  rintro e w1 ⟨cs1, rfl, o1, b1⟩
  obtain ⟨x0, x1, x2, x3, x4, x5, x6, x7, rfl⟩ := list8 (Rd.len o1.rd)
  have l1 := Rd.one o1.rd
  have st0 := sto Tryz.prog (l1 x0 (by simp))
  have st1 := sto Tryz.prog (l1 x1 (by simp))
  have st2 := sto Tryz.prog (l1 x2 (by simp))
  have st3 := sto Tryz.prog (l1 x3 (by simp))
  have st4 := sto Tryz.prog (l1 x4 (by simp))
  have st5 := sto Tryz.prog (l1 x5 (by simp))
  have st6 := sto Tryz.prog (l1 x6 (by simp))
  have st7 := sto Tryz.prog (l1 x7 (by simp))
  have t1 := (t0.step b1).alloc (t0.step b1).size (.cells #[x0, x1, x2, x3, x4, x5, x6, x7] 36)
  have CX := Cells.new w1 [x0, x1, x2, x3, x4, x5, x6, x7] 36
  have o1 := o1.alloc (.cells #[x0, x1, x2, x3, x4, x5, x6, x7] 36)
  have CP := (CP.later b1).alloc (.cells #[x0, x1, x2, x3, x4, x5, x6, x7] 36)
  have CQ := (CQ.later b1).alloc (.cells #[x0, x1, x2, x3, x4, x5, x6, x7] 36)
  have hb1 := b1.size
  clear l1 c0 c1 c2 c3 c4 c5 c6 c7
  go_upto_region 2 with fail
  have hs1 : w1.heap.size < (w1.alloc (.cells #[x0, x1, x2, x3, x4, x5, x6, x7] 36)).heap.size := by simp
  generalize w1.alloc (.cells #[x0, x1, x2, x3, x4, x5, x6, x7] 36) = wa at *
  obtain ⟨c0, c1, c2, c3, c4, c5, c6, c7⟩ := cells8 CQ
  go_wp2_with fail
  refine (specFold_calls (Rd.mono t1 g)).mono ?_
  rintro e w2 ⟨cs2, rfl, o2, b2⟩
  obtain ⟨z0, z1, z2, z3, z4, z5, z6, z7, rfl⟩ := list8 (Rd.len o2.rd)
  have l2 := Rd.one o2.rd
  clear st0 st1 st2 st3 st4 st5 st6 st7
  have st0 := sto Tryz.prog (l2 z0 (by simp))
  have st1 := sto Tryz.prog (l2 z1 (by simp))
  have st2 := sto Tryz.prog (l2 z2 (by simp))
  have st3 := sto Tryz.prog (l2 z3 (by simp))
  have st4 := sto Tryz.prog (l2 z4 (by simp))
  have st5 := sto Tryz.prog (l2 z5 (by simp))
  have st6 := sto Tryz.prog (l2 z6 (by simp))
  have st7 := sto Tryz.prog (l2 z7 (by simp))
  have t2 := (t1.step b2).alloc (t1.step b2).size (.cells #[z0, z1, z2, z3, z4, z5, z6, z7] 36)
  have CZ := Cells.new w2 [z0, z1, z2, z3, z4, z5, z6, z7] 36
  have o1 := (o1.later b2).alloc (.cells #[z0, z1, z2, z3, z4, z5, z6, z7] 36)
  have o2 := o2.alloc (.cells #[z0, z1, z2, z3, z4, z5, z6, z7] 36)
  have CX := (CX.later b2).alloc (.cells #[z0, z1, z2, z3, z4, z5, z6, z7] 36)
  have CP := (CP.later b2).alloc (.cells #[z0, z1, z2, z3, z4, z5, z6, z7] 36)
  have CQ := (CQ.later b2).alloc (.cells #[z0, z1, z2, z3, z4, z5, z6, z7] 36)
  have hb2 := b2.size
  clear l2 c0 c1 c2 c3 c4 c5 c6 c7
  go_upto_region 3 with fail
  have hs2 : w2.heap.size < (w2.alloc (.cells #[z0, z1, z2, z3, z4, z5, z6, z7] 36)).heap.size := by simp
  generalize w2.alloc (.cells #[z0, z1, z2, z3, z4, z5, z6, z7] 36) = we at *
  clear st0 st1 st2 st3 st4 st5 st6 st7
  refine wp_region_held_drew (S := fun w' => (w'.cell? ⟨w.heap.size, 0, none⟩ = some e0 ∧ w'.cell? ⟨w.heap.size, 1, none⟩ = some e1 ∧ w'.cell? ⟨w.heap.size, 2, none⟩ = some e2 ∧ w'.cell? ⟨w.heap.size, 3, none⟩ = some e3 ∧ w'.cell? ⟨w.heap.size, 4, none⟩ = some e4 ∧ w'.cell? ⟨w.heap.size, 5, none⟩ = some e5 ∧ w'.cell? ⟨w.heap.size, 6, none⟩ = some e6 ∧ w'.cell? ⟨w.heap.size, 7, none⟩ = some e7) ∧ (w'.cell? ⟨w.heap.size + 1, 0, none⟩ = some d0 ∧ w'.cell? ⟨w.heap.size + 1, 1, none⟩ = some d1 ∧ w'.cell? ⟨w.heap.size + 1, 2, none⟩ = some d2 ∧ w'.cell? ⟨w.heap.size + 1, 3, none⟩ = some d3 ∧ w'.cell? ⟨w.heap.size + 1, 4, none⟩ = some d4 ∧ w'.cell? ⟨w.heap.size + 1, 5, none⟩ = some d5 ∧ w'.cell? ⟨w.heap.size + 1, 6, none⟩ = some d6 ∧ w'.cell? ⟨w.heap.size + 1, 7, none⟩ = some d7)) (by kernel_rfl) ⟨cells8 CP, cells8 CQ⟩ (fun hHeld => ?_)
  refine takeD (i := 0) (v := .bool true) (some 19) rfl rfl (by kernel_rfl) (by kernel_rfl) (by kernel_rfl) (fun _ _ _ h => h) (Or.inl ⟨by rfl, fun w' hw' => ?_⟩) hHeld ?_
  · first | (go_simp; done) | (obtain ⟨⟨s0, s1, s2, s3, s4, s5, s6, s7⟩, r0, r1, r2, r3, r4, r5, r6, r7⟩ := hw'; go_simp; done)
  try simp only [Act.put, List.setIfInBounds_toArray, List.set_cons_zero, List.set_cons_succ]
  refine takeD (i := 1) (v := .bool true) (some 20) rfl rfl (by kernel_rfl) (by kernel_rfl) (by kernel_rfl) (fun _ _ _ h => h) (Or.inl ⟨by rfl, fun w' hw' => ?_⟩) hHeld ?_
  · first | (go_simp; done) | (obtain ⟨⟨s0, s1, s2, s3, s4, s5, s6, s7⟩, r0, r1, r2, r3, r4, r5, r6, r7⟩ := hw'; go_simp; done)
  try simp only [Act.put, List.setIfInBounds_toArray, List.set_cons_zero, List.set_cons_succ]
  refine takeD (i := 2) (v := .bool true) (some 21) rfl rfl (by kernel_rfl) (by kernel_rfl) (by kernel_rfl) (fun _ _ _ h => h) (Or.inl ⟨by rfl, fun w' hw' => ?_⟩) hHeld ?_
  · first | (go_simp; done) | (obtain ⟨⟨s0, s1, s2, s3, s4, s5, s6, s7⟩, r0, r1, r2, r3, r4, r5, r6, r7⟩ := hw'; go_simp; done)
  try simp only [Act.put, List.setIfInBounds_toArray, List.set_cons_zero, List.set_cons_succ]
  refine takeD (i := 3) (v := .bool true) (some 22) rfl rfl (by kernel_rfl) (by kernel_rfl) (by kernel_rfl) (fun _ _ _ h => h) (Or.inl ⟨by rfl, fun w' hw' => ?_⟩) hHeld ?_
  · first | (go_simp; done) | (obtain ⟨⟨s0, s1, s2, s3, s4, s5, s6, s7⟩, r0, r1, r2, r3, r4, r5, r6, r7⟩ := hw'; go_simp; done)
  try simp only [Act.put, List.setIfInBounds_toArray, List.set_cons_zero, List.set_cons_succ]
  refine takeD (i := 4) (v := .bool true) (some 23) rfl rfl (by kernel_rfl) (by kernel_rfl) (by kernel_rfl) (fun _ _ _ h => h) (Or.inl ⟨by rfl, fun w' hw' => ?_⟩) hHeld ?_
  · first | (go_simp; done) | (obtain ⟨⟨s0, s1, s2, s3, s4, s5, s6, s7⟩, r0, r1, r2, r3, r4, r5, r6, r7⟩ := hw'; go_simp; done)
  try simp only [Act.put, List.setIfInBounds_toArray, List.set_cons_zero, List.set_cons_succ]
  refine takeD (i := 5) (v := .agg #[e0, e1, e2, e3, e4, e5, e6, e7]) (some 24) rfl rfl (by kernel_rfl) (by kernel_rfl) (by kernel_rfl) (fun _ _ _ h => h) (Or.inl ⟨by rfl, fun w' hw' => ?_⟩) hHeld ?_
  · first | (go_simp; done) | (obtain ⟨⟨s0, s1, s2, s3, s4, s5, s6, s7⟩, r0, r1, r2, r3, r4, r5, r6, r7⟩ := hw'; go_simp; done)
  try simp only [Act.put, List.setIfInBounds_toArray, List.set_cons_zero, List.set_cons_succ]
  refine takeD (i := 7) (v := .agg #[d0, d1, d2, d3, d4, d5, d6, d7]) (some 26) rfl rfl (by kernel_rfl) (by kernel_rfl) (by kernel_rfl) (fun _ _ _ h => h) (Or.inl ⟨by rfl, fun w' hw' => ?_⟩) hHeld ?_
  · first | (go_simp; done) | (obtain ⟨⟨s0, s1, s2, s3, s4, s5, s6, s7⟩, r0, r1, r2, r3, r4, r5, r6, r7⟩ := hw'; go_simp; done)
  try simp only [Act.put, List.setIfInBounds_toArray, List.set_cons_zero, List.set_cons_succ]
  refine wpAnyH_ready (rs := [6]) (by kernel_rfl) (by simp) ?_
  refine AllReadyH.cons rfl (fun K hK => ?_) AllReadyH.nil
  go_simp
  refine (specAnswers_calls (Rd.mono t2.drew h)).mono ?_
  rintro e w3 ⟨u3, rfl, ho3, b3⟩
  have b3 := (Below.refl we.heap.size we).drew.step b3
  refine hK.out _ _ ⟨cells8 (CP.later b3), cells8 (CQ.later b3)⟩ (fun hHeld => ?_)
  clear hK K
  try simp only [Act.put, List.setIfInBounds_toArray, List.set_cons_zero, List.set_cons_succ]
  refine wpAnyH_ready (rs := [8]) (by kernel_rfl) (by simp) ?_
  refine AllReadyH.cons rfl (fun K hK => ?_) AllReadyH.nil
  go_simp
  refine (specAnswers_calls (Rd.mono (t2.step b3) g)).mono ?_
  rintro e w4 ⟨u4, rfl, ho4, b4⟩
  have b34 := b3.step b4
  refine hK.out _ _ ⟨cells8 (CP.later b34), cells8 (CQ.later b34)⟩ (fun hHeld => ?_)
  clear hK K
  try simp only [Act.put, List.setIfInBounds_toArray, List.set_cons_zero, List.set_cons_succ]
  refine wpAnyH_ready (rs := [9]) (by kernel_rfl) (by simp) ?_
  refine AllReadyH.cons rfl (fun K hK => ?_) AllReadyH.nil
  go_simp
  refine (l05Same_calls (ho3.later b4).rd ho4.rd).mono ?_
  rintro e w5 ⟨rfl, b5⟩
  have b35 := b34.step b5
  refine hK.out _ _ ⟨cells8 (CP.later b35), cells8 (CQ.later b35)⟩ (fun hHeld => ?_)
  clear hK K
  try simp only [Act.put, List.setIfInBounds_toArray, List.set_cons_zero, List.set_cons_succ]
  refine takeD (i := 10) (v := .bool (decide (answersL p = answersL q))) (some 29) rfl rfl (by kernel_rfl) (by kernel_rfl) (by kernel_rfl) (fun _ _ _ h => h) (Or.inl ⟨by rfl, fun w' hw' => ?_⟩) hHeld ?_
  · first | (go_simp; done) | (obtain ⟨⟨s0, s1, s2, s3, s4, s5, s6, s7⟩, r0, r1, r2, r3, r4, r5, r6, r7⟩ := hw'; go_simp; done)
  try simp only [Act.put, List.setIfInBounds_toArray, List.set_cons_zero, List.set_cons_succ]
  refine takeD (i := 11) (v := .bool (decide (answersL p = answersL q))) (some 4) rfl rfl (by kernel_rfl) (by kernel_rfl) (by kernel_rfl) (fun _ _ _ h => h) (Or.inl ⟨by rfl, fun w' hw' => ?_⟩) hHeld ?_
  · first | (go_simp; done) | (obtain ⟨⟨s0, s1, s2, s3, s4, s5, s6, s7⟩, r0, r1, r2, r3, r4, r5, r6, r7⟩ := hw'; go_simp; done)
  try simp only [Act.put, List.setIfInBounds_toArray, List.set_cons_zero, List.set_cons_succ]
  refine wpAnyH_done (by kernel_rfl) ?_ _
  go_wp2
  go_ret
  exact ⟨ret_bool hv.out.symm, t2.step b35⟩

end Go.Proofs.YtleimijgpmoifaaGreat
