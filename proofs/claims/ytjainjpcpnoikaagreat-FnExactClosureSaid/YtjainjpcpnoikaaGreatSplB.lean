/-
  Splitting: what the program answers: splitBy, IsSplit, Closure. No condition of its own.
-/
import Derived.Test.YtjainjpcpnoikaaGreatSplI
import Derived.Test.YtjainjpcpnoikaaGreatAnsD
namespace Go.Proofs.YtjainjpcpnoikaaGreat
set_option linter.unusedVariables false
set_option linter.unusedSimpArgs false
open Go.RowKit Go.Shelf
set_option maxRecDepth 100000


theorem cells9S {w : World} {b : Nat} {c0 c1 c2 c3 c4 c5 c6 c7 c8 : Value} (h : Cells w b 0 [c0, c1, c2, c3, c4, c5, c6, c7, c8]) :
    w.cell? ⟨b, 0, none⟩ = some c0 ∧ w.cell? ⟨b, 1, none⟩ = some c1 ∧ w.cell? ⟨b, 2, none⟩ = some c2 ∧ w.cell? ⟨b, 3, none⟩ = some c3 ∧ w.cell? ⟨b, 4, none⟩ = some c4 ∧ w.cell? ⟨b, 5, none⟩ = some c5 ∧ w.cell? ⟨b, 6, none⟩ = some c6 ∧ w.cell? ⟨b, 7, none⟩ = some c7 ∧ w.cell? ⟨b, 8, none⟩ = some c8 :=
  ⟨h 0 _ rfl, by simpa using h 1 _ rfl, by simpa using h 2 _ rfl, by simpa using h 3 _ rfl, by simpa using h 4 _ rfl, by simpa using h 5 _ rfl, by simpa using h 6 _ rfl, by simpa using h 7 _ rfl, by simpa using h 8 _ rfl⟩
theorem cellsAtS {W : World} {b : Nat} {cs : List Value} {t : TypeId} (h : W.heap[b]? = some (.cells cs.toArray t (0, 0))) : Cells W b 0 cs := fun j v hv => by
  rw [Nat.zero_add, cell_of_row W b j _ _ _ h]; simpa using hv
/-- Is there a split to speak of? -/
def atB (p : ProgD) (us : List Int) : Bool := foldB p && setOkB us (foldD p).atoms
theorem atB_B {p : ProgD} {us : List Int} (h : foldB p = true) : atB p us = setOkB us (foldD p).atoms := by simp only [atB, h, Bool.true_and]
theorem atB_fold {p : ProgD} {us : List Int} (h : atB p us = true) : foldB p = true ∧ setOkB us (foldD p).atoms = true := by simpa only [atB, Bool.and_eq_true] using h
theorem splB_at {p : ProgD} {us : List Int} (h : atB p us = false) : splB p us = false := by
  unfold splB splQ
  rw [← Bool.and_assoc, show (foldB p && setOkB us (foldD p).atoms) = false from h, Bool.false_and]
theorem splB_eq {w : World} {cs : List Value} {p : ProgD} {us : List Int} (h : Rd.R w cs p) (hn : atB p us = true) : ((clL (foldD p).rules (maskOf us) : Int) == (maskOf us : Int)) = splB p us := by
  obtain ⟨hF, hS⟩ := atB_fold hn
  rw [splB_yes hF, splQ_B hS, ← spl_eq (progOk_len hS (progOk_atoms (foldR_ok hF))) fun r hr => fits_ruleOk (rules12 (foldR_ok hF) r hr)]
  rfl
set_option maxHeartbeats 4000000 in
theorem splitBy_no {cs : List Value} {p : ProgD} {w : World} {v : Value} {xs : List Int} (h : Rd.R w cs p) (gx : RdL w [v] xs) (hn : atB p xs = false) :
    Calls Tryz.prog 48 #[.agg cs.toArray, v] w fun e w' => e = .returned (.tuple #[.agg #[.int .i64 0, .slice none 0 0, .slice none 0 0, .bool false, .slice none 0 0, .slice none 0 0, .slice none 0 0, .slice none 0 0, .int .u16 0], .bool false]) ∧ Below w.heap.size w w' := by
  cases hF : foldB p
  · skip
    obtain ⟨p0, p1, p2, p3, p4, p5, p6, p7, rfl⟩ := list8 (Rd.len h)
    obtain ⟨ax, cx, rfl, _, hx⟩ := gx.sl
    have hxm := hx.1
    have t0 : Below w.heap.size w ((w.alloc (.cells #[p0, p1, p2, p3, p4, p5, p6, p7] 35)).alloc (.cells #[.int .i64 0, .slice none 0 0, .slice none 0 0, .bool false, .slice none 0 0, .slice none 0 0, .slice none 0 0, .slice none 0 0, .int .u16 0] 77)) := ((Below.refl _ _).alloc (by simp) _).alloc (by simp) _
    have hz := alloc_block (w.alloc (.cells #[p0, p1, p2, p3, p4, p5, p6, p7] 35)) #[.int .i64 0, .slice none 0 0, .slice none 0 0, .bool false, .slice none 0 0, .slice none 0 0, .slice none 0 0, .slice none 0 0, .int .u16 0] 77
    rw [World.size_alloc] at hz
    have hs0 : ((w.alloc (.cells #[p0, p1, p2, p3, p4, p5, p6, p7] 35)).alloc (.cells #[.int .i64 0, .slice none 0 0, .slice none 0 0, .bool false, .slice none 0 0, .slice none 0 0, .slice none 0 0, .slice none 0 0, .int .u16 0] 77)).heap.size = w.heap.size + 2 := by simp
    go_enter Tryz.func48, Tryz.ntmps48
    go_wp2_with fail
    refine (implFold_calls (Rd.mono t0 h)).mono ?_
    rintro e w1 ⟨cs1, he, o1, b1⟩
    rw [hF] at he
    subst he
    have t1 := t0.step b1
    have l1 := Rd.one o1.rd
    obtain ⟨x0, x1, x2, x3, x4, x5, x6, x7, rfl⟩ := list8 (Rd.len o1.rd)
    have st0 := sto Tryz.prog (l1 x0 (by simp))
    have st1 := sto Tryz.prog (l1 x1 (by simp))
    have st2 := sto Tryz.prog (l1 x2 (by simp))
    have st3 := sto Tryz.prog (l1 x3 (by simp))
    have st4 := sto Tryz.prog (l1 x4 (by simp))
    have st5 := sto Tryz.prog (l1 x5 (by simp))
    have st6 := sto Tryz.prog (l1 x6 (by simp))
    have st7 := sto Tryz.prog (l1 x7 (by simp))
    have o1 := o1.alloc (.cells #[x0, x1, x2, x3, x4, x5, x6, x7] 35)
    have CX1 := Cells.new w1 [x0, x1, x2, x3, x4, x5, x6, x7] 35
    have t1 := t1.alloc t1.size (.cells #[x0, x1, x2, x3, x4, x5, x6, x7] 35)
    clear l1
    have hz1 := (Below.heap_alloc w1 (.cells #[x0, x1, x2, x3, x4, x5, x6, x7] 35) (w.heap.size + 1) (by have := b1.size; omega)).trans ((b1.block _ (block_lt hz)).trans hz)
    have hbs : w.heap.size + 2 ≤ w1.heap.size := by have := b1.size; omega
    have hlz : w.heap.size + 1 < w1.heap.size := by omega
    go_upto_region 3 with fail
    clear st0 st1 st2 st3 st4 st5 st6 st7
    generalize w1.alloc (.cells #[x0, x1, x2, x3, x4, x5, x6, x7] 35) = wq at *
    have hfz := fun j => frozen_of_row wq (w.heap.size + 1) j _ _ hz1
    have hzl := block_lt hz1
    obtain ⟨z0, z1, z2, z3, z4, z5, z6, z7, z8⟩ := cells9S (cellsAtS (W := wq) (b := w.heap.size + 1) (cs := [.int .i64 0, .slice none 0 0, .slice none 0 0, .bool false, .slice none 0 0, .slice none 0 0, .slice none 0 0, .slice none 0 0, .int .u16 0]) hz1)
    clear hz1
    go_wp2
    refine bodyPost_ret (v := .tuple #[.agg #[.int .i64 0, .slice none 0 0, .slice none 0 0, .bool false, .slice none 0 0, .slice none 0 0, .slice none 0 0, .slice none 0 0, .int .u16 0], .bool false])
      (by simp [results, Tryz.results48, go_sem, z0, z1, z2, z3, z4, z5, z6, z7, z8]) rfl ?_
    refine ⟨rfl, ?_⟩
    repeat (refine Below.setCell ?_ (by simp; try omega) _)
    exact t1
  · have hS : setOkB xs (foldD p).atoms = false := by rw [← atB_B hF]; exact hn
    obtain ⟨p0, p1, p2, p3, p4, p5, p6, p7, rfl⟩ := list8 (Rd.len h)
    obtain ⟨ax, cx, rfl, _, hx⟩ := gx.sl
    have hxm := hx.1
    have t0 : Below w.heap.size w ((w.alloc (.cells #[p0, p1, p2, p3, p4, p5, p6, p7] 35)).alloc (.cells #[.int .i64 0, .slice none 0 0, .slice none 0 0, .bool false, .slice none 0 0, .slice none 0 0, .slice none 0 0, .slice none 0 0, .int .u16 0] 77)) := ((Below.refl _ _).alloc (by simp) _).alloc (by simp) _
    have hz := alloc_block (w.alloc (.cells #[p0, p1, p2, p3, p4, p5, p6, p7] 35)) #[.int .i64 0, .slice none 0 0, .slice none 0 0, .bool false, .slice none 0 0, .slice none 0 0, .slice none 0 0, .slice none 0 0, .int .u16 0] 77
    rw [World.size_alloc] at hz
    have hs0 : ((w.alloc (.cells #[p0, p1, p2, p3, p4, p5, p6, p7] 35)).alloc (.cells #[.int .i64 0, .slice none 0 0, .slice none 0 0, .bool false, .slice none 0 0, .slice none 0 0, .slice none 0 0, .slice none 0 0, .int .u16 0] 77)).heap.size = w.heap.size + 2 := by simp
    go_enter Tryz.func48, Tryz.ntmps48
    go_wp2_with fail
    refine (implFold_calls (Rd.mono t0 h)).mono ?_
    rintro e w1 ⟨cs1, he, o1, b1⟩
    rw [hF] at he
    subst he
    have t1 := t0.step b1
    have l1 := Rd.one o1.rd
    obtain ⟨x0, x1, x2, x3, x4, x5, x6, x7, rfl⟩ := list8 (Rd.len o1.rd)
    have st0 := sto Tryz.prog (l1 x0 (by simp))
    have st1 := sto Tryz.prog (l1 x1 (by simp))
    have st2 := sto Tryz.prog (l1 x2 (by simp))
    have st3 := sto Tryz.prog (l1 x3 (by simp))
    have st4 := sto Tryz.prog (l1 x4 (by simp))
    have st5 := sto Tryz.prog (l1 x5 (by simp))
    have st6 := sto Tryz.prog (l1 x6 (by simp))
    have st7 := sto Tryz.prog (l1 x7 (by simp))
    have o1 := o1.alloc (.cells #[x0, x1, x2, x3, x4, x5, x6, x7] 35)
    have CX1 := Cells.new w1 [x0, x1, x2, x3, x4, x5, x6, x7] 35
    have t1 := t1.alloc t1.size (.cells #[x0, x1, x2, x3, x4, x5, x6, x7] 35)
    clear l1
    have hz1 := (Below.heap_alloc w1 (.cells #[x0, x1, x2, x3, x4, x5, x6, x7] 35) (w.heap.size + 1) (by have := b1.size; omega)).trans ((b1.block _ (block_lt hz)).trans hz)
    have hbs : w.heap.size + 2 ≤ w1.heap.size := by have := b1.size; omega
    have hlz : w.heap.size + 1 < w1.heap.size := by omega
    rw [foldR_yes hF] at o1
    obtain ⟨y0, y1, y2, y3, y4, y5, y6, y7⟩ := cells8 CX1
    have oR := o1.rd
    obtain ⟨_, _, _, _, _, _, hl, _⟩ := oR
    simp only [List.cons.injEq, and_true] at hl
    obtain ⟨rfl, -⟩ := hl
    have hx1 := (hx.later t1).ints
    go_upto_region 3 with (go_at_call 102; refine (implSetOk_calls _ _ _ _ _ hx1).mono ?_; rintro e w' ⟨he, rfl⟩; rw [hS] at he; subst he)
    clear st0 st1 st2 st3 st4 st5 st6 st7 y0 y1 y2 y3 y4 y5 y6 y7 o1 CX1 hx1
    generalize w1.alloc (.cells #[.int .i64 (foldD p).atoms, x1, x2, x3, x4, x5, x6, x7] 35) = wq at *
    have hfz := fun j => frozen_of_row wq (w.heap.size + 1) j _ _ hz1
    have hzl := block_lt hz1
    obtain ⟨z0, z1, z2, z3, z4, z5, z6, z7, z8⟩ := cells9S (cellsAtS (W := wq) (b := w.heap.size + 1) (cs := [.int .i64 0, .slice none 0 0, .slice none 0 0, .bool false, .slice none 0 0, .slice none 0 0, .slice none 0 0, .slice none 0 0, .int .u16 0]) hz1)
    clear hz1
    go_wp2
    refine bodyPost_ret (v := .tuple #[.agg #[.int .i64 0, .slice none 0 0, .slice none 0 0, .bool false, .slice none 0 0, .slice none 0 0, .slice none 0 0, .slice none 0 0, .int .u16 0], .bool false])
      (by simp [results, Tryz.results48, go_sem, z0, z1, z2, z3, z4, z5, z6, z7, z8]) rfl ?_
    refine ⟨rfl, ?_⟩
    repeat (refine Below.setCell ?_ (by simp; try omega) _)
    exact t1

theorem cells_putS {W : World} {b g : Nat} {cs vs : List Value} (h : Cells W b 0 cs) (hne : b ≠ g) : Cells (put W g 0 vs) b 0 cs := fun j v hv => by
  have := h j v hv
  rw [← this]
  exact World.cell?_of_block (a := ⟨b, 0 + j, none⟩) ((put_chg g vs W 0).block b (by simpa using hne))
set_option maxHeartbeats 4000000 in
theorem splitBy_yes {cs : List Value} {p : ProgD} {w : World} {v : Value} {xs : List Int} (h : Rd.R w cs p) (gx : RdL w [v] xs) (hn : atB p xs = true) :
    Calls Tryz.prog 48 #[.agg cs.toArray, v] w fun e w' => ∃ x0 x1 x2 x3 x4 x5 x6 x7, e = .returned (.tuple #[.agg #[x0, x1, x2, x3, x4, x5, x6, x7, .int .u16 (maskOf xs : Int)], .bool (splB p xs)]) ∧ Own w.heap.size w' [x0, x1, x2, x3, x4, x5, x6, x7] (foldD p) ∧ Below w.heap.size w w' := by
  obtain ⟨hF, hS⟩ := atB_fold hn
  have hmx := maskOf_lt xs
  have hsp := Lib.hid (splB_eq h hn)
  obtain ⟨p0, p1, p2, p3, p4, p5, p6, p7, rfl⟩ := list8 (Rd.len h)
  obtain ⟨ax, cx, rfl, _, hx⟩ := gx.sl
  have hxm := hx.1
  have t0 : Below w.heap.size w ((w.alloc (.cells #[p0, p1, p2, p3, p4, p5, p6, p7] 35)).alloc (.cells #[.int .i64 0, .slice none 0 0, .slice none 0 0, .bool false, .slice none 0 0, .slice none 0 0, .slice none 0 0, .slice none 0 0, .int .u16 0] 77)) := ((Below.refl _ _).alloc (by simp) _).alloc (by simp) _
  have hz := alloc_block (w.alloc (.cells #[p0, p1, p2, p3, p4, p5, p6, p7] 35)) #[.int .i64 0, .slice none 0 0, .slice none 0 0, .bool false, .slice none 0 0, .slice none 0 0, .slice none 0 0, .slice none 0 0, .int .u16 0] 77
  rw [World.size_alloc] at hz
  have hs0 : ((w.alloc (.cells #[p0, p1, p2, p3, p4, p5, p6, p7] 35)).alloc (.cells #[.int .i64 0, .slice none 0 0, .slice none 0 0, .bool false, .slice none 0 0, .slice none 0 0, .slice none 0 0, .slice none 0 0, .int .u16 0] 77)).heap.size = w.heap.size + 2 := by simp
  go_enter Tryz.func48, Tryz.ntmps48
  go_wp2_with fail
  refine (implFold_calls (Rd.mono t0 h)).mono ?_
  rintro e w1 ⟨cs1, he, o1, b1⟩
  rw [hF] at he
  subst he
  have t1 := t0.step b1
  have l1 := Rd.one o1.rd
  obtain ⟨x0, x1, x2, x3, x4, x5, x6, x7, rfl⟩ := list8 (Rd.len o1.rd)
  have st0 := sto Tryz.prog (l1 x0 (by simp))
  have st1 := sto Tryz.prog (l1 x1 (by simp))
  have st2 := sto Tryz.prog (l1 x2 (by simp))
  have st3 := sto Tryz.prog (l1 x3 (by simp))
  have st4 := sto Tryz.prog (l1 x4 (by simp))
  have st5 := sto Tryz.prog (l1 x5 (by simp))
  have st6 := sto Tryz.prog (l1 x6 (by simp))
  have st7 := sto Tryz.prog (l1 x7 (by simp))
  have o1 := o1.alloc (.cells #[x0, x1, x2, x3, x4, x5, x6, x7] 35)
  have CX1 := Cells.new w1 [x0, x1, x2, x3, x4, x5, x6, x7] 35
  have t1 := t1.alloc t1.size (.cells #[x0, x1, x2, x3, x4, x5, x6, x7] 35)
  clear l1
  have hz1 := (Below.heap_alloc w1 (.cells #[x0, x1, x2, x3, x4, x5, x6, x7] 35) (w.heap.size + 1) (by have := b1.size; omega)).trans ((b1.block _ (block_lt hz)).trans hz)
  have hbs : w.heap.size + 2 ≤ w1.heap.size := by have := b1.size; omega
  have hlz : w.heap.size + 1 < w1.heap.size := by omega
  rw [foldR_yes hF] at o1
  obtain ⟨y0, y1, y2, y3, y4, y5, y6, y7⟩ := cells8 CX1
  have oR := o1.rd
  obtain ⟨_, _, _, _, _, _, hl, _⟩ := oR
  simp only [List.cons.injEq, and_true] at hl
  obtain ⟨rfl, -⟩ := hl
  have hx1 := (hx.later t1).ints
  go_upto_region 5 with (first | (go_at_call 102; refine (implSetOk_calls _ _ _ _ _ hx1).mono ?_; rintro e w' ⟨he, rfl⟩; rw [hS] at he; subst he) | (go_at_call 64; refine (atomsIn_calls _ _ _ _ hx1).mono ?_; rintro e w' ⟨rfl, rfl⟩))
  clear y0 y1 y2 y3 y4 y5 y6 y7
  have o2 := o1.drew
  have t2 := t1.drew
  have CX2 := CX1.drew
  have hz2 : (w1.alloc (.cells #[.int .i64 (foldD p).atoms, x1, x2, x3, x4, x5, x6, x7] 35)).drew.heap[w.heap.size + 1]? = _ := hz1
  have hzs : w1.heap.size < (w1.alloc (.cells #[.int .i64 (foldD p).atoms, x1, x2, x3, x4, x5, x6, x7] 35)).drew.heap.size := by show w1.heap.size < (w1.alloc _).heap.size; simp
  clear hx1 t1 CX1 hz1
  refine wp_region_held_drew (S := fun W' => W'.cell? ⟨w1.heap.size, 0, none⟩ = some (.int .i64 (foldD p).atoms) ∧ W'.cell? ⟨w1.heap.size, 1, none⟩ = some x1 ∧ W'.cell? ⟨w1.heap.size, 2, none⟩ = some x2 ∧ W'.cell? ⟨w1.heap.size, 3, none⟩ = some x3 ∧ W'.cell? ⟨w1.heap.size, 4, none⟩ = some x4 ∧ W'.cell? ⟨w1.heap.size, 5, none⟩ = some x5 ∧ W'.cell? ⟨w1.heap.size, 6, none⟩ = some x6 ∧ W'.cell? ⟨w1.heap.size, 7, none⟩ = some x7) (by kernel_rfl) (cells8 CX2) (fun hHeld => ?_)
  generalize (w1.alloc (.cells #[.int .i64 (foldD p).atoms, x1, x2, x3, x4, x5, x6, x7] 35)).drew = wq at *
  refine takeD (i := 0) (v := .agg #[.int .i64 (foldD p).atoms, x1, x2, x3, x4, x5, x6, x7]) (some 26) rfl rfl (by kernel_rfl) (by kernel_rfl) (by kernel_rfl) (fun _ _ _ h => h) (Or.inl ⟨by rfl, fun w' hw' => ?_⟩) hHeld ?_
  · first | (go_simp; done) | (obtain ⟨s0, s1, s2, s3, s4, s5, s6, s7⟩ := hw'; go_simp; done)
  try simp only [Act.put, List.setIfInBounds_toArray, List.set_cons_zero, List.set_cons_succ]
  refine takeD (i := 1) (v := .int .u16 (maskOf xs : Int)) (some 27) rfl rfl (by kernel_rfl) (by kernel_rfl) (by kernel_rfl) (fun _ _ _ h => h) (Or.inl ⟨by rfl, fun w' hw' => ?_⟩) hHeld ?_
  · first | (go_simp; done) | (obtain ⟨s0, s1, s2, s3, s4, s5, s6, s7⟩ := hw'; go_simp; done)
  try simp only [Act.put, List.setIfInBounds_toArray, List.set_cons_zero, List.set_cons_succ]
  refine takeD (i := 2) (v := .agg #[.int .i64 (foldD p).atoms, x1, x2, x3, x4, x5, x6, x7, .int .u16 (maskOf xs : Int)]) (some 28) rfl rfl (by kernel_rfl) (by kernel_rfl) (by kernel_rfl) (fun _ _ _ h => h) (Or.inl ⟨by rfl, fun w' hw' => ?_⟩) hHeld ?_
  · first | (go_simp; done) | (obtain ⟨s0, s1, s2, s3, s4, s5, s6, s7⟩ := hw'; go_simp; done)
  try simp only [Act.put, List.setIfInBounds_toArray, List.set_cons_zero, List.set_cons_succ]
  refine takeD (i := 3) (v := .agg #[.int .i64 (foldD p).atoms, x1, x2, x3, x4, x5, x6, x7]) (some 29) rfl rfl (by kernel_rfl) (by kernel_rfl) (by kernel_rfl) (fun _ _ _ h => h) (Or.inl ⟨by rfl, fun w' hw' => ?_⟩) hHeld ?_
  · first | (go_simp; done) | (obtain ⟨s0, s1, s2, s3, s4, s5, s6, s7⟩ := hw'; go_simp; done)
  try simp only [Act.put, List.setIfInBounds_toArray, List.set_cons_zero, List.set_cons_succ]
  refine takeD (i := 4) (v := .int .u16 (maskOf xs : Int)) (some 30) rfl rfl (by kernel_rfl) (by kernel_rfl) (by kernel_rfl) (fun _ _ _ h => h) (Or.inl ⟨by rfl, fun w' hw' => ?_⟩) hHeld ?_
  · first | (go_simp; done) | (obtain ⟨s0, s1, s2, s3, s4, s5, s6, s7⟩ := hw'; go_simp; done)
  try simp only [Act.put, List.setIfInBounds_toArray, List.set_cons_zero, List.set_cons_succ]
  refine takeD (i := 6) (v := .int .u16 (maskOf xs : Int)) (some 32) rfl rfl (by kernel_rfl) (by kernel_rfl) (by kernel_rfl) (fun _ _ _ h => h) (Or.inl ⟨by rfl, fun w' hw' => ?_⟩) hHeld ?_
  · first | (go_simp; done) | (obtain ⟨s0, s1, s2, s3, s4, s5, s6, s7⟩ := hw'; go_simp; done)
  try simp only [Act.put, List.setIfInBounds_toArray, List.set_cons_zero, List.set_cons_succ]
  refine wpAnyH_ready (rs := [5]) (by kernel_rfl) (by simp) ?_
  refine AllReadyH.cons rfl (fun K hK => ?_) AllReadyH.nil
  go_simp
  refine (closure_calls _ hmx o2.rd).mono ?_
  rintro e w2 ⟨rfl, b2⟩
  have CX2 := CX2.later b2
  have hz3 := (b2.block _ (block_lt hz2)).trans hz2
  have o3 := o2.later b2
  have t3 := t2.step b2
  have hsz := b2.size
  have hfz := fun j => frozen_of_row w2 (w.heap.size + 1) j _ _ hz3
  have hzl := block_lt hz3
  obtain ⟨z0, z1, z2, z3, z4, z5, z6, z7, z8⟩ := cells9S (cellsAtS (W := w2) (b := w.heap.size + 1) (cs := [.int .i64 0, .slice none 0 0, .slice none 0 0, .bool false, .slice none 0 0, .slice none 0 0, .slice none 0 0, .slice none 0 0, .int .u16 0]) hz3)
  generalize clL (foldD p).rules (maskOf xs) = C at *
  generalize hMe : maskOf xs = M at *
  replace hMe := Lib.hid hMe
  refine hK.out _ _ (cells8 CX2) (fun hHeld => ?_)
  clear hK K
  try simp only [Act.put, List.setIfInBounds_toArray, List.set_cons_zero, List.set_cons_succ]
  refine takeD (i := 7) (v := .bool ((C : Int) == (M : Int))) (some 33) rfl rfl (by kernel_rfl) (by kernel_rfl) (by kernel_rfl) (fun _ _ _ h => h) (Or.inl ⟨by rfl, fun w' hw' => ?_⟩) hHeld ?_
  · first | (go_simp; done) | (obtain ⟨s0, s1, s2, s3, s4, s5, s6, s7⟩ := hw'; go_simp; done)
  try simp only [Act.put, List.setIfInBounds_toArray, List.set_cons_zero, List.set_cons_succ]
  refine wpAnyH_ready (rs := [8]) (by kernel_rfl) (by simp) ?_
  refine AllReadyH.cons rfl (fun K hK => ?_) AllReadyH.nil
  go_simp
  refine hK.out _ _ (cells8 (cells_putS (g := w.heap.size + 1) (vs := [.int .i64 (foldD p).atoms, x1, x2, x3, x4, x5, x6, x7, .int .u16 (M : Int)]) CX2 (by omega))) (fun hHeld => ?_)
  clear hK K
  try simp only [Act.put, List.setIfInBounds_toArray, List.set_cons_zero, List.set_cons_succ]
  refine takeD (i := 9) (v := .bool ((C : Int) == (M : Int))) (some 5) rfl rfl (by kernel_rfl) (by kernel_rfl) (by kernel_rfl) (fun _ _ _ h => h) (Or.inl ⟨by rfl, fun w' hw' => ?_⟩) hHeld ?_
  · first | (go_simp; done) | (obtain ⟨s0, s1, s2, s3, s4, s5, s6, s7⟩ := hw'; go_simp; done)
  try simp only [Act.put, List.setIfInBounds_toArray, List.set_cons_zero, List.set_cons_succ]
  refine wpAnyH_done (by kernel_rfl) ?_ _
  go_wp2
  refine bodyPost_ret (v := .tuple #[.agg #[.int .i64 (foldD p).atoms, x1, x2, x3, x4, x5, x6, x7, .int .u16 (M : Int)], .bool ((C : Int) == (M : Int))])
    (by simp [results, Tryz.results48, go_sem, z0, z1, z2, z3, z4, z5, z6, z7, z8]) rfl ⟨.int .i64 (foldD p).atoms, x1, x2, x3, x4, x5, x6, x7, by rw [hMe.out, ← hsp.out], ?_, ?_⟩
  · obtain ⟨fp, hO, hfp⟩ := o3
    exact ⟨fp, Ow.kept (w' := put w2 (w.heap.size + 1) 0 [.int .i64 (foldD p).atoms, x1, x2, x3, x4, x5, x6, x7, .int .u16 (M : Int)]) hO fun f hf => (put_chg (w.heap.size + 1) _ w2 0).block f (by have := hfp f hf; simp; omega), fun f hf => by have := hfp f hf; omega⟩
  · repeat (refine Below.setCell ?_ (by simp; try omega) _)
    exact t3

end Go.Proofs.YtjainjpcpnoikaaGreat
