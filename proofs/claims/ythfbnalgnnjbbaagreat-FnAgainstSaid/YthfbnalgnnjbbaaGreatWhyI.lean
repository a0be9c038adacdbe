/-
  Why, Reasons, Against: what the program answers. No condition of its own.
-/
import Derived.Test.YthfbnalgnnjbbaaGreatUnfA
import Derived.Test.YthfbnalgnnjbbaaGreatUnf
import Derived.Test.YthfbnalgnnjbbaaGreatAppend
namespace Go.Proofs.YthfbnalgnnjbbaaGreat
set_option linter.unusedVariables false
set_option linter.unusedSimpArgs false
open Go.RowKit Go.Shelf
set_option maxRecDepth 100000

/-! ### WhyV -/

theorem cells9 {w : World} {b : Nat} {c0 c1 c2 c3 c4 c5 c6 c7 c8 : Value} (h : Cells w b 0 [c0, c1, c2, c3, c4, c5, c6, c7, c8]) :
    w.cell? ⟨b, 0, none⟩ = some c0 ∧ w.cell? ⟨b, 1, none⟩ = some c1 ∧ w.cell? ⟨b, 2, none⟩ = some c2 ∧ w.cell? ⟨b, 3, none⟩ = some c3 ∧ w.cell? ⟨b, 4, none⟩ = some c4 ∧ w.cell? ⟨b, 5, none⟩ = some c5 ∧ w.cell? ⟨b, 6, none⟩ = some c6 ∧ w.cell? ⟨b, 7, none⟩ = some c7 ∧ w.cell? ⟨b, 8, none⟩ = some c8 :=
  ⟨h 0 _ rfl, by simpa using h 1 _ rfl, by simpa using h 2 _ rfl, by simpa using h 3 _ rfl, by simpa using h 4 _ rfl, by simpa using h 5 _ rfl, by simpa using h 6 _ rfl, by simpa using h 7 _ rfl, by simpa using h 8 _ rfl⟩
theorem cells10 {w : World} {b : Nat} {c0 c1 c2 c3 c4 c5 c6 c7 c8 c9 : Value} (h : Cells w b 0 [c0, c1, c2, c3, c4, c5, c6, c7, c8, c9]) :
    w.cell? ⟨b, 0, none⟩ = some c0 ∧ w.cell? ⟨b, 1, none⟩ = some c1 ∧ w.cell? ⟨b, 2, none⟩ = some c2 ∧ w.cell? ⟨b, 3, none⟩ = some c3 ∧ w.cell? ⟨b, 4, none⟩ = some c4 ∧ w.cell? ⟨b, 5, none⟩ = some c5 ∧ w.cell? ⟨b, 6, none⟩ = some c6 ∧ w.cell? ⟨b, 7, none⟩ = some c7 ∧ w.cell? ⟨b, 8, none⟩ = some c8 ∧ w.cell? ⟨b, 9, none⟩ = some c9 :=
  ⟨h 0 _ rfl, by simpa using h 1 _ rfl, by simpa using h 2 _ rfl, by simpa using h 3 _ rfl, by simpa using h 4 _ rfl, by simpa using h 5 _ rfl, by simpa using h 6 _ rfl, by simpa using h 7 _ rfl, by simpa using h 8 _ rfl, by simpa using h 9 _ rfl⟩

/-- The mask of the atoms that are lacking. -/
def lackM (xs ts : List Int) : Nat := maskOf xs &&& (65535 - maskOf ts)

section
variable {x0 x1 x2 x3 x4 x5 x6 x7 : Value}

end


section
attribute [local go_sem] Oper.semAt_some

theorem pickTo_prefix (f : Int → Bool) : ∀ {n m : Nat}, n ≤ m → pickTo f n <+: pickTo f m
  | n, 0, h => by obtain rfl : n = 0 := by omega
                  exact List.prefix_refl _
  | n, m + 1, h => by
    rcases Nat.lt_or_ge m n with hk | hk
    · obtain rfl : n = m + 1 := by omega
      exact List.prefix_refl _
    · refine List.IsPrefix.trans (pickTo_prefix f hk) ?_
      cases hf : f ((m : Int) + 1)
      · rw [pickTo_no hf]; exact List.prefix_refl _
      · rw [pickTo_yes hf]; exact List.prefix_append _ _
/-- An atom of a mask. -/
abbrev AtomL (m : Nat) := { x : Int // (1 ≤ x ∧ x ≤ 12) ∧ hasM m x = true }


theorem cellsAtY {W : World} {b : Nat} {cs : List Value} {t : TypeId} (h : W.heap[b]? = some (.cells cs.toArray t (0, 0))) : Cells W b 0 cs := fun j v hv => by
  rw [Nat.zero_add, cell_of_row W b j _ _ _ h]; simpa using hv
/-- The next Reason as two numbers. -/
def nxV (o : Option (Int × Int)) : Int × Int := o.getD (0, 0)


end

set_option maxHeartbeats 4000000 in
theorem viewOf_no {cs : List Value} {p : ProgD} {w : World} {v : Value} {xs : List Int} (h : Rd.R w cs p) (gx : RdL w [v] xs) (hn : whyB p xs = false) :
    Calls Tryz.prog 92 #[.agg cs.toArray, v] w fun e w' => e = .returned (.tuple #[.agg #[.int .i64 0, .slice none 0 0, .slice none 0 0, .bool false, .slice none 0 0, .slice none 0 0, .slice none 0 0, .slice none 0 0, .int .u16 0], .bool false]) ∧ Below w.heap.size w w' := by
  cases hF : foldB p
  · skip
    obtain ⟨p0, p1, p2, p3, p4, p5, p6, p7, rfl⟩ := list8 (Rd.len h)
    obtain ⟨ax, cx, rfl, _, hx⟩ := gx.sl
    have hxm := hx.1
    have t0 : Below w.heap.size w ((w.alloc (.cells #[p0, p1, p2, p3, p4, p5, p6, p7] 30)).alloc (.cells #[.int .i64 0, .slice none 0 0, .slice none 0 0, .bool false, .slice none 0 0, .slice none 0 0, .slice none 0 0, .slice none 0 0, .int .u16 0] 109)) := ((Below.refl _ _).alloc (by simp) _).alloc (by simp) _
    have hz := alloc_block (w.alloc (.cells #[p0, p1, p2, p3, p4, p5, p6, p7] 30)) #[.int .i64 0, .slice none 0 0, .slice none 0 0, .bool false, .slice none 0 0, .slice none 0 0, .slice none 0 0, .slice none 0 0, .int .u16 0] 109
    rw [World.size_alloc] at hz
    have hs0 : ((w.alloc (.cells #[p0, p1, p2, p3, p4, p5, p6, p7] 30)).alloc (.cells #[.int .i64 0, .slice none 0 0, .slice none 0 0, .bool false, .slice none 0 0, .slice none 0 0, .slice none 0 0, .slice none 0 0, .int .u16 0] 109)).heap.size = w.heap.size + 2 := by simp
    go_enter Tryz.func92, Tryz.ntmps92
    go_wp2_with fail
    refine (implFold_calls (Rd.mono t0 h)).mono ?_
    rintro e w1 ⟨cs1, he, o1, b1⟩
    rw [hF] at he
    subst he
    have t1 := t0.step b1
    have l1 := Rd.one o1.rd
    obtain ⟨x0, x1, x2, x3, x4, x5, x6, x7, rfl⟩ := list8 (Rd.len o1.rd)
    have st0 := sto Tryz.prog (l1 x0 (by simp))
    have st1 := sto Tryz.prog (l1 x1 (by simp))
    have st2 := sto Tryz.prog (l1 x2 (by simp))
    have st3 := sto Tryz.prog (l1 x3 (by simp))
    have st4 := sto Tryz.prog (l1 x4 (by simp))
    have st5 := sto Tryz.prog (l1 x5 (by simp))
    have st6 := sto Tryz.prog (l1 x6 (by simp))
    have st7 := sto Tryz.prog (l1 x7 (by simp))
    have o1 := o1.alloc (.cells #[x0, x1, x2, x3, x4, x5, x6, x7] 30)
    have CX1 := Cells.new w1 [x0, x1, x2, x3, x4, x5, x6, x7] 30
    have t1 := t1.alloc t1.size (.cells #[x0, x1, x2, x3, x4, x5, x6, x7] 30)
    clear l1
    have hz1 := (Below.heap_alloc w1 (.cells #[x0, x1, x2, x3, x4, x5, x6, x7] 30) (w.heap.size + 1) (by have := b1.size; omega)).trans ((b1.block _ (block_lt hz)).trans hz)
    have hbs : w.heap.size + 2 ≤ w1.heap.size := by have := b1.size; omega
    have hlz : w.heap.size + 1 < w1.heap.size := by omega
    go_upto_region 3 with fail
    clear st0 st1 st2 st3 st4 st5 st6 st7
    generalize w1.alloc (.cells #[x0, x1, x2, x3, x4, x5, x6, x7] 30) = wq at *
    have hfz := fun j => frozen_of_row wq (w.heap.size + 1) j _ _ hz1
    have hzl := block_lt hz1
    obtain ⟨z0, z1, z2, z3, z4, z5, z6, z7, z8⟩ := cells9 (cellsAtY (W := wq) (b := w.heap.size + 1) (cs := [.int .i64 0, .slice none 0 0, .slice none 0 0, .bool false, .slice none 0 0, .slice none 0 0, .slice none 0 0, .slice none 0 0, .int .u16 0]) hz1)
    clear hz1
    go_wp2
    refine bodyPost_ret (v := .tuple #[.agg #[.int .i64 0, .slice none 0 0, .slice none 0 0, .bool false, .slice none 0 0, .slice none 0 0, .slice none 0 0, .slice none 0 0, .int .u16 0], .bool false])
      (by simp [results, Tryz.results92, go_sem, z0, z1, z2, z3, z4, z5, z6, z7, z8]) rfl ?_
    refine ⟨rfl, ?_⟩
    repeat (refine Below.setCell ?_ (by simp; try omega) _)
    exact t1
  · have hS : setOkB xs (foldD p).atoms = false := by rw [← whyB_B hF]; exact hn
    obtain ⟨p0, p1, p2, p3, p4, p5, p6, p7, rfl⟩ := list8 (Rd.len h)
    obtain ⟨ax, cx, rfl, _, hx⟩ := gx.sl
    have hxm := hx.1
    have t0 : Below w.heap.size w ((w.alloc (.cells #[p0, p1, p2, p3, p4, p5, p6, p7] 30)).alloc (.cells #[.int .i64 0, .slice none 0 0, .slice none 0 0, .bool false, .slice none 0 0, .slice none 0 0, .slice none 0 0, .slice none 0 0, .int .u16 0] 109)) := ((Below.refl _ _).alloc (by simp) _).alloc (by simp) _
    have hz := alloc_block (w.alloc (.cells #[p0, p1, p2, p3, p4, p5, p6, p7] 30)) #[.int .i64 0, .slice none 0 0, .slice none 0 0, .bool false, .slice none 0 0, .slice none 0 0, .slice none 0 0, .slice none 0 0, .int .u16 0] 109
    rw [World.size_alloc] at hz
    have hs0 : ((w.alloc (.cells #[p0, p1, p2, p3, p4, p5, p6, p7] 30)).alloc (.cells #[.int .i64 0, .slice none 0 0, .slice none 0 0, .bool false, .slice none 0 0, .slice none 0 0, .slice none 0 0, .slice none 0 0, .int .u16 0] 109)).heap.size = w.heap.size + 2 := by simp
    go_enter Tryz.func92, Tryz.ntmps92
    go_wp2_with fail
    refine (implFold_calls (Rd.mono t0 h)).mono ?_
    rintro e w1 ⟨cs1, he, o1, b1⟩
    rw [hF] at he
    subst he
    have t1 := t0.step b1
    have l1 := Rd.one o1.rd
    obtain ⟨x0, x1, x2, x3, x4, x5, x6, x7, rfl⟩ := list8 (Rd.len o1.rd)
    have st0 := sto Tryz.prog (l1 x0 (by simp))
    have st1 := sto Tryz.prog (l1 x1 (by simp))
    have st2 := sto Tryz.prog (l1 x2 (by simp))
    have st3 := sto Tryz.prog (l1 x3 (by simp))
    have st4 := sto Tryz.prog (l1 x4 (by simp))
    have st5 := sto Tryz.prog (l1 x5 (by simp))
    have st6 := sto Tryz.prog (l1 x6 (by simp))
    have st7 := sto Tryz.prog (l1 x7 (by simp))
    have o1 := o1.alloc (.cells #[x0, x1, x2, x3, x4, x5, x6, x7] 30)
    have CX1 := Cells.new w1 [x0, x1, x2, x3, x4, x5, x6, x7] 30
    have t1 := t1.alloc t1.size (.cells #[x0, x1, x2, x3, x4, x5, x6, x7] 30)
    clear l1
    have hz1 := (Below.heap_alloc w1 (.cells #[x0, x1, x2, x3, x4, x5, x6, x7] 30) (w.heap.size + 1) (by have := b1.size; omega)).trans ((b1.block _ (block_lt hz)).trans hz)
    have hbs : w.heap.size + 2 ≤ w1.heap.size := by have := b1.size; omega
    have hlz : w.heap.size + 1 < w1.heap.size := by omega
    rw [foldR_yes hF] at o1
    obtain ⟨y0, y1, y2, y3, y4, y5, y6, y7⟩ := cells8 CX1
    have oR := o1.rd
    obtain ⟨_, _, _, _, _, _, hl, _⟩ := oR
    simp only [List.cons.injEq, and_true] at hl
    obtain ⟨rfl, -⟩ := hl
    have hx1 := (hx.later t1).ints
    go_upto_region 3 with (go_at_call 79; refine (implSetOk_calls _ _ _ _ _ hx1).mono ?_; rintro e w' ⟨he, rfl⟩; rw [hS] at he; subst he)
    clear st0 st1 st2 st3 st4 st5 st6 st7 y0 y1 y2 y3 y4 y5 y6 y7 o1 CX1 hx1
    generalize w1.alloc (.cells #[.int .i64 (foldD p).atoms, x1, x2, x3, x4, x5, x6, x7] 30) = wq at *
    have hfz := fun j => frozen_of_row wq (w.heap.size + 1) j _ _ hz1
    have hzl := block_lt hz1
    obtain ⟨z0, z1, z2, z3, z4, z5, z6, z7, z8⟩ := cells9 (cellsAtY (W := wq) (b := w.heap.size + 1) (cs := [.int .i64 0, .slice none 0 0, .slice none 0 0, .bool false, .slice none 0 0, .slice none 0 0, .slice none 0 0, .slice none 0 0, .int .u16 0]) hz1)
    clear hz1
    go_wp2
    refine bodyPost_ret (v := .tuple #[.agg #[.int .i64 0, .slice none 0 0, .slice none 0 0, .bool false, .slice none 0 0, .slice none 0 0, .slice none 0 0, .slice none 0 0, .int .u16 0], .bool false])
      (by simp [results, Tryz.results92, go_sem, z0, z1, z2, z3, z4, z5, z6, z7, z8]) rfl ?_
    refine ⟨rfl, ?_⟩
    repeat (refine Below.setCell ?_ (by simp; try omega) _)
    exact t1

theorem cells_put {W : World} {b g : Nat} {cs vs : List Value} (h : Cells W b 0 cs) (hne : b ≠ g) : Cells (put W g 0 vs) b 0 cs := fun j v hv => by
  have := h j v hv
  rw [← this]
  exact World.cell?_of_block (a := ⟨b, 0 + j, none⟩) ((put_chg g vs W 0).block b (by simpa using hne))
set_option maxHeartbeats 4000000 in
theorem viewOf_yes {cs : List Value} {p : ProgD} {w : World} {v : Value} {xs : List Int} (h : Rd.R w cs p) (gx : RdL w [v] xs) (hn : whyB p xs = true) :
    Calls Tryz.prog 92 #[.agg cs.toArray, v] w fun e w' => ∃ x0 x1 x2 x3 x4 x5 x6 x7, e = .returned (.tuple #[.agg #[x0, x1, x2, x3, x4, x5, x6, x7, .int .u16 (maskOf xs : Int)], .bool true]) ∧ Own w.heap.size w' [x0, x1, x2, x3, x4, x5, x6, x7] (foldD p) ∧ Below w.heap.size w w' := by
  obtain ⟨hF, hS⟩ := whyB_fold hn
  have hmx := maskOf_lt xs
  obtain ⟨p0, p1, p2, p3, p4, p5, p6, p7, rfl⟩ := list8 (Rd.len h)
  obtain ⟨ax, cx, rfl, _, hx⟩ := gx.sl
  have hxm := hx.1
  have t0 : Below w.heap.size w ((w.alloc (.cells #[p0, p1, p2, p3, p4, p5, p6, p7] 30)).alloc (.cells #[.int .i64 0, .slice none 0 0, .slice none 0 0, .bool false, .slice none 0 0, .slice none 0 0, .slice none 0 0, .slice none 0 0, .int .u16 0] 109)) := ((Below.refl _ _).alloc (by simp) _).alloc (by simp) _
  have hz := alloc_block (w.alloc (.cells #[p0, p1, p2, p3, p4, p5, p6, p7] 30)) #[.int .i64 0, .slice none 0 0, .slice none 0 0, .bool false, .slice none 0 0, .slice none 0 0, .slice none 0 0, .slice none 0 0, .int .u16 0] 109
  rw [World.size_alloc] at hz
  have hs0 : ((w.alloc (.cells #[p0, p1, p2, p3, p4, p5, p6, p7] 30)).alloc (.cells #[.int .i64 0, .slice none 0 0, .slice none 0 0, .bool false, .slice none 0 0, .slice none 0 0, .slice none 0 0, .slice none 0 0, .int .u16 0] 109)).heap.size = w.heap.size + 2 := by simp
  go_enter Tryz.func92, Tryz.ntmps92
  go_wp2_with fail
  refine (implFold_calls (Rd.mono t0 h)).mono ?_
  rintro e w1 ⟨cs1, he, o1, b1⟩
  rw [hF] at he
  subst he
  have t1 := t0.step b1
  have l1 := Rd.one o1.rd
  obtain ⟨x0, x1, x2, x3, x4, x5, x6, x7, rfl⟩ := list8 (Rd.len o1.rd)
  have st0 := sto Tryz.prog (l1 x0 (by simp))
  have st1 := sto Tryz.prog (l1 x1 (by simp))
  have st2 := sto Tryz.prog (l1 x2 (by simp))
  have st3 := sto Tryz.prog (l1 x3 (by simp))
  have st4 := sto Tryz.prog (l1 x4 (by simp))
  have st5 := sto Tryz.prog (l1 x5 (by simp))
  have st6 := sto Tryz.prog (l1 x6 (by simp))
  have st7 := sto Tryz.prog (l1 x7 (by simp))
  have o1 := o1.alloc (.cells #[x0, x1, x2, x3, x4, x5, x6, x7] 30)
  have CX1 := Cells.new w1 [x0, x1, x2, x3, x4, x5, x6, x7] 30
  have t1 := t1.alloc t1.size (.cells #[x0, x1, x2, x3, x4, x5, x6, x7] 30)
  clear l1
  have hz1 := (Below.heap_alloc w1 (.cells #[x0, x1, x2, x3, x4, x5, x6, x7] 30) (w.heap.size + 1) (by have := b1.size; omega)).trans ((b1.block _ (block_lt hz)).trans hz)
  have hbs : w.heap.size + 2 ≤ w1.heap.size := by have := b1.size; omega
  have hlz : w.heap.size + 1 < w1.heap.size := by omega
  rw [foldR_yes hF] at o1
  obtain ⟨y0, y1, y2, y3, y4, y5, y6, y7⟩ := cells8 CX1
  have oR := o1.rd
  obtain ⟨_, _, _, _, _, _, hl, _⟩ := oR
  simp only [List.cons.injEq, and_true] at hl
  obtain ⟨rfl, -⟩ := hl
  have hx1 := (hx.later t1).ints
  go_upto_region 4 with (go_at_call 79; refine (implSetOk_calls _ _ _ _ _ hx1).mono ?_; rintro e w' ⟨he, rfl⟩; rw [hS] at he; subst he)
  clear y0 y1 y2 y3 y4 y5 y6 y7
  have hx2 := (hx.later t1.drew).ints
  have o2 := o1.drew
  have t2 := t1.drew
  have CX2 := CX1.drew
  have hz2 : (w1.alloc (.cells #[.int .i64 (foldD p).atoms, x1, x2, x3, x4, x5, x6, x7] 30)).drew.heap[w.heap.size + 1]? = _ := hz1
  have hzs : w1.heap.size < (w1.alloc (.cells #[.int .i64 (foldD p).atoms, x1, x2, x3, x4, x5, x6, x7] 30)).drew.heap.size := by show w1.heap.size < (w1.alloc _).heap.size; simp
  clear hx1 t1 CX1 hz1
  have hfz := fun j => frozen_of_row _ (w.heap.size + 1) j _ _ hz2
  have hzl := block_lt hz2
  obtain ⟨z0, z1, z2, z3, z4, z5, z6, z7, z8⟩ := cells9 (cellsAtY (W := _) (b := w.heap.size + 1) (cs := [.int .i64 0, .slice none 0 0, .slice none 0 0, .bool false, .slice none 0 0, .slice none 0 0, .slice none 0 0, .slice none 0 0, .int .u16 0]) hz2)
  refine wp_region_held_drew (S := fun W' => W'.cell? ⟨w1.heap.size, 0, none⟩ = some (.int .i64 (foldD p).atoms) ∧ W'.cell? ⟨w1.heap.size, 1, none⟩ = some x1 ∧ W'.cell? ⟨w1.heap.size, 2, none⟩ = some x2 ∧ W'.cell? ⟨w1.heap.size, 3, none⟩ = some x3 ∧ W'.cell? ⟨w1.heap.size, 4, none⟩ = some x4 ∧ W'.cell? ⟨w1.heap.size, 5, none⟩ = some x5 ∧ W'.cell? ⟨w1.heap.size, 6, none⟩ = some x6 ∧ W'.cell? ⟨w1.heap.size, 7, none⟩ = some x7) (by kernel_rfl) (cells8 CX2) (fun hHeld => ?_)
  generalize (w1.alloc (.cells #[.int .i64 (foldD p).atoms, x1, x2, x3, x4, x5, x6, x7] 30)).drew = wq at *
  refine takeD (i := 0) (v := .agg #[.int .i64 (foldD p).atoms, x1, x2, x3, x4, x5, x6, x7]) (some 23) rfl rfl (by kernel_rfl) (by kernel_rfl) (by kernel_rfl) (fun _ _ _ h => h) (Or.inl ⟨by rfl, fun w' hw' => ?_⟩) hHeld ?_
  · first | (go_simp; done) | (obtain ⟨s0, s1, s2, s3, s4, s5, s6, s7, s8, s9, s10, s11⟩ := hw'; go_simp; done) | (obtain ⟨s0, s1, s2, s3, s4, s5, s6, s7⟩ := hw'; go_simp; done) | (obtain ⟨s0, s1⟩ := hw'; go_simp; done)
  try simp only [Act.put, List.setIfInBounds_toArray, List.set_cons_zero, List.set_cons_succ]
  refine takeD (i := 1) (v := .slice ax xs.length cx) (some 24) rfl rfl (by kernel_rfl) (by kernel_rfl) (by kernel_rfl) (fun _ _ _ h => h) (Or.inl ⟨by rfl, fun w' hw' => ?_⟩) hHeld ?_
  · first | (go_simp; done) | (obtain ⟨s0, s1, s2, s3, s4, s5, s6, s7, s8, s9, s10, s11⟩ := hw'; go_simp; done) | (obtain ⟨s0, s1, s2, s3, s4, s5, s6, s7⟩ := hw'; go_simp; done) | (obtain ⟨s0, s1⟩ := hw'; go_simp; done)
  try simp only [Act.put, List.setIfInBounds_toArray, List.set_cons_zero, List.set_cons_succ]
  refine wpAnyH_ready (rs := [2]) (by kernel_rfl) (by simp) ?_
  refine AllReadyH.cons rfl (fun K hK => ?_) AllReadyH.nil
  go_simp
  refine (atomsIn_calls _ _ _ _ hx2).mono ?_
  rintro e w' ⟨rfl, rfl⟩
  refine hK.out _ _ (cells8 CX2) (fun hHeld => ?_)
  clear hK K
  try simp only [Act.put, List.setIfInBounds_toArray, List.set_cons_zero, List.set_cons_succ]
  refine takeD (i := 3) (v := .agg #[.int .i64 (foldD p).atoms, x1, x2, x3, x4, x5, x6, x7, .int .u16 (maskOf xs : Int)]) (some 26) rfl rfl (by kernel_rfl) (by kernel_rfl) (by kernel_rfl) (fun _ _ _ h => h) (Or.inl ⟨by rfl, fun w' hw' => ?_⟩) hHeld ?_
  · first | (go_simp; done) | (obtain ⟨s0, s1, s2, s3, s4, s5, s6, s7, s8, s9, s10, s11⟩ := hw'; go_simp; done) | (obtain ⟨s0, s1, s2, s3, s4, s5, s6, s7⟩ := hw'; go_simp; done) | (obtain ⟨s0, s1⟩ := hw'; go_simp; done)
  try simp only [Act.put, List.setIfInBounds_toArray, List.set_cons_zero, List.set_cons_succ]
  refine wpAnyH_ready (rs := [4]) (by kernel_rfl) (by simp) ?_
  refine AllReadyH.cons rfl (fun K hK => ?_) AllReadyH.nil
  go_simp
  refine hK.out _ _ (cells8 (cells_put (g := w.heap.size + 1) (vs := [.int .i64 (foldD p).atoms, x1, x2, x3, x4, x5, x6, x7, .int .u16 (maskOf xs : Int)]) CX2 (by omega))) (fun hHeld => ?_)
  clear hK K
  try simp only [Act.put, List.setIfInBounds_toArray, List.set_cons_zero, List.set_cons_succ]
  refine takeD (i := 5) (v := .bool true) (some 5) rfl rfl (by kernel_rfl) (by kernel_rfl) (by kernel_rfl) (fun _ _ _ h => h) (Or.inl ⟨by rfl, fun w' hw' => ?_⟩) hHeld ?_
  · first | (go_simp; done) | (obtain ⟨s0, s1, s2, s3, s4, s5, s6, s7, s8, s9, s10, s11⟩ := hw'; go_simp; done) | (obtain ⟨s0, s1, s2, s3, s4, s5, s6, s7⟩ := hw'; go_simp; done) | (obtain ⟨s0, s1⟩ := hw'; go_simp; done)
  try simp only [Act.put, List.setIfInBounds_toArray, List.set_cons_zero, List.set_cons_succ]
  refine wpAnyH_done (by kernel_rfl) ?_ _
  go_wp2
  refine bodyPost_ret (v := .tuple #[.agg #[.int .i64 (foldD p).atoms, x1, x2, x3, x4, x5, x6, x7, .int .u16 (maskOf xs : Int)], .bool true])
    (by simp [results, Tryz.results92, go_sem, z0, z1, z2, z3, z4, z5, z6, z7, z8]) rfl ⟨_, _, _, _, _, _, _, _, rfl, ?_, ?_⟩
  · 
    obtain ⟨fp, hO, hfp⟩ := o2
    exact ⟨fp, Ow.kept (w' := put wq (w.heap.size + 1) 0 [.int .i64 (foldD p).atoms, x1, x2, x3, x4, x5, x6, x7, .int .u16 (maskOf xs : Int)]) hO fun f hf => (put_chg (w.heap.size + 1) _ wq 0).block f (by have := hfp f hf; simp; omega), fun f hf => by have := hfp f hf; omega⟩
  · repeat (refine Below.setCell ?_ (by simp; try omega) _)
    exact t2

/-! ### WhyF -/
def lenS : Value → Nat
  | .slice _ n _ => n
  | _ => 0




/-! ### WhyA -/
section
variable {x0 x1 x2 x3 x4 x5 x6 x7 : Value}
theorem vBroken_calls {q : ProgD} {w : World} (xs : List Int) (h : Rd.R w [x0, x1, x2, x3, x4, x5, x6, x7] q) (hok : progOkB q = true) :
    Calls Tryz.prog 97 #[.agg #[x0, x1, x2, x3, x4, x5, x6, x7, .int .u16 (maskOf xs : Int)]] w fun e w' => ∃ u, e = .returned u ∧ OwnI w.heap.size w' u (brkTo q.rules xs q.rules.length) ∧ Below w.heap.size w w' := by
  have tb := (Below.refl w.heap.size w).alloc (Nat.le_refl _) (.cells #[x0, x1, x2, x3, x4, x5, x6, x7, .int .u16 (maskOf xs : Int)] 119)
  obtain ⟨y0, y1, y2, y3, y4, y5, y6, y7, y8⟩ := cells9 (Cells.new w [x0, x1, x2, x3, x4, x5, x6, x7, .int .u16 (maskOf xs : Int)] 119)
  have hR := Rd.mono tb h
  go_enter Tryz.func97, Tryz.ntmps97
  go_wp2_with (go_at_call 182; refine (brokenP_calls xs hR hok).mono ?_; rintro e w2 ⟨u, rfl, ho, b2⟩)
  go_ret
  exact ⟨_, rfl, ho.mono tb.size, tb.step b2⟩
theorem vUnf_calls {q : ProgD} {w : World} (xs : List Int) (k : Int) (h : Rd.R w [x0, x1, x2, x3, x4, x5, x6, x7] q) (hok : progOkB q = true) :
    Calls Tryz.prog 98 #[.agg #[x0, x1, x2, x3, x4, x5, x6, x7, .int .u16 (maskOf xs : Int), .int .u16 k]] w fun e w' => ∃ m : Nat, e = .returned (.int .u16 (m : Int)) ∧ (m < 4096 ∧ mset m = unfQ q xs) ∧ Below w.heap.size w w' := by
  have tb := (Below.refl w.heap.size w).alloc (Nat.le_refl _) (.cells #[x0, x1, x2, x3, x4, x5, x6, x7, .int .u16 (maskOf xs : Int), .int .u16 k] 113)
  obtain ⟨y0, y1, y2, y3, y4, y5, y6, y7, y8, y9⟩ := cells10 (Cells.new w [x0, x1, x2, x3, x4, x5, x6, x7, .int .u16 (maskOf xs : Int), .int .u16 k] 113)
  have hR := Rd.mono tb h
  go_enter Tryz.func98, Tryz.ntmps98
  go_wp2_with (go_at_call 74; refine (unfP_calls xs hR hok).mono ?_; rintro e w2 ⟨m, rfl, ho, b2⟩)
  go_ret
  exact ⟨_, rfl, ho, tb.step b2⟩
end

theorem own_single (w : World) (x : Int) (hx : Fits x) : OwnI w.heap.size (w.alloc (.cells #[.int .i64 x] 3)) (.slice (some ⟨w.heap.size, 0, none⟩) 1 1) [x] :=
  ⟨World.ownsRow_lit (e := 3) (size := 1) (base := w.heap.size) w #[.int .i64 x] 1 (Nat.le_refl _) (by simp [maxLen]) (by simp), by simp, by simpa using hx⟩
set_option maxHeartbeats 4000000 in
theorem implAgainst_calls {cs : List Value} {p : ProgD} {w : World} {v : Value} {xs : List Int} (h : Rd.R w cs p) (gx : RdL w [v] xs) :
    Calls Tryz.prog 30 #[.agg cs.toArray, v] w fun e w' => ∃ u, e = .returned (.tuple #[.int .i64 (agaN p xs), u]) ∧ OwnI w.heap.size w' u (agaL p xs) ∧ Below w.heap.size w w' := by
  obtain ⟨p0, p1, p2, p3, p4, p5, p6, p7, rfl⟩ := list8 (Rd.len h)
  have t0 : Below w.heap.size w (w.alloc (.cells #[p0, p1, p2, p3, p4, p5, p6, p7] 30)) := (Below.refl _ _).alloc (by simp) _
  cases hW : whyB p xs
  · obtain ⟨h1, h2⟩ := aga_A hW
    have H1 := Lib.hid h1
    have H2 := Lib.hid h2
    clear h1 h2
    go_enter Tryz.func30, Tryz.ntmps30
    go_wp2_with fail
    refine (viewOf_no (Rd.mono t0 h) (Rd.mono (α := List Int) t0 gx) hW).mono ?_
    rintro e w1 ⟨rfl, b1⟩
    go_wp2
    go_ret2
    exact ⟨.slice none 0 0, by rw [H1.out]; rfl, by rw [H2.out]; exact OwnI.nil _ _, (t0.step b1).alloc (t0.step b1).size _⟩
  · have hF := (whyB_fold hW).1
    have hok : progOkB (foldD p) = true := foldR_ok hF
    have HBR := Lib.hid (brkR_yes (xs := xs) hF)
    have HUR := Lib.hid (unfR_yes (xs := xs) hF)
    have hbl := brkTo_len (foldD p).rules xs (foldD p).rules.length
    have hb60 := (progOk_rules hok).1
    go_enter Tryz.func30, Tryz.ntmps30
    go_wp2_with fail
    refine (viewOf_yes (Rd.mono t0 h) (Rd.mono (α := List Int) t0 gx) hW).mono ?_
    rintro e w1 ⟨x0, x1, x2, x3, x4, x5, x6, x7, rfl, o1, b1⟩
    have hRd := o1.rd
    have l1 := Rd.one hRd
    have st0 := sto Tryz.prog (l1 x0 (by simp))
    have st1 := sto Tryz.prog (l1 x1 (by simp))
    have st2 := sto Tryz.prog (l1 x2 (by simp))
    have st3 := sto Tryz.prog (l1 x3 (by simp))
    have st4 := sto Tryz.prog (l1 x4 (by simp))
    have st5 := sto Tryz.prog (l1 x5 (by simp))
    have st6 := sto Tryz.prog (l1 x6 (by simp))
    have st7 := sto Tryz.prog (l1 x7 (by simp))
    have t1 := t0.step b1
    have CV := Cells.new w1 [x0, x1, x2, x3, x4, x5, x6, x7, .int .u16 (maskOf xs : Int)] 109
    obtain ⟨y0, y1, y2, y3, y4, y5, y6, y7, y8⟩ := cells9 CV
    have bV := (Below.refl w1.heap.size w1).alloc (Nat.le_refl _) (.cells #[x0, x1, x2, x3, x4, x5, x6, x7, .int .u16 (maskOf xs : Int)] 109)
    go_wp2_with fail
    refine (vBroken_calls xs (Rd.mono bV hRd) hok).mono ?_
    rintro e w2 ⟨u2, rfl, ho2, b2⟩
    clear st0 st1 st2 st3 st4 st5 st6 st7 y0 y1 y2 y3 y4 y5 y6 y7 y8
    obtain ⟨y0, y1, y2, y3, y4, y5, y6, y7, y8⟩ := cells9 (CV.later b2)
    have t2 := (t1.step bV).step b2
    have hR2 := Rd.mono (bV.step b2) hRd
    obtain ⟨a2, k2, rfl, hI2, _⟩ := ho2.open
    rw [← HBR.out] at ho2 hI2 hbl
    rw [← HBR.out]
    have hbl6 : (brkR p xs).length ≤ 60 := by omega
    clear hbl CV
    by_cases hz : (brkR p xs).length = 0
    · have hzl : (brkR p xs).length ≤ 0 := by omega
      have hzi : ¬ (0 : Int) < ((brkR p xs).length : Int) := by omega
      have HUQ := Lib.hid HUR.out
      go_wp2_with fail
      refine (vUnf_calls xs 0 hR2 hok).mono ?_
      rintro e w3 ⟨m, rfl, ⟨hm, hl⟩, b3⟩
      rw [← HUR.out] at hl
      have t3 := t2.step b3
      by_cases hmz : m = 0
      · subst hmz
        rw [mset_zero] at hl
        obtain ⟨h1, h2⟩ := aga_D hW hz (by rw [← hl]; rfl)
        have H1 := Lib.hid h1
        have H2 := Lib.hid h2
        clear h1 h2 hl hz
        go_wp2
        go_ret2
        exact ⟨.slice none 0 0, by rw [H1.out]; rfl, by rw [H2.out]; exact OwnI.nil _ _, t3⟩
      · have hne : (unfR p xs).length ≠ 0 := fun e => hmz (by
          have e2 : mset m = [] := by rw [hl]; exact List.eq_nil_of_length_eq_zero e
          have e3 := mask_mset hm
          rw [e2] at e3
          exact e3.symm)
        obtain ⟨h1, h2⟩ := aga_C hW hz hne
        have H1 := Lib.hid h1
        have H2 := Lib.hid h2
        have hmi : ((m : Int) != 0) = true := bne_iff_ne.2 (by omega)
        have hmi' : ((m : Int) == 0) = false := beq_eq_false_iff_ne.2 (by omega)
        have HL := Lib.hid hl
        clear h1 h2 hl hz hne
        go_wp2_with (go_at_call 76; refine (list_calls m _ hm).mono ?_; rintro e w4 ⟨u4, rfl, ho4, b4⟩)
        go_ret2
        refine ⟨u4, by rw [H1.out]; rfl, ?_, t3.step b4⟩
        rw [H2.out, ← HL.out]
        exact ho4.mono t3.size
    · obtain ⟨h1, h2⟩ := aga_B hW hz
      have H1 := Lib.hid h1
      have H2 := Lib.hid h2
      have hzl : 0 < (brkR p xs).length := by omega
      have hzi : (0 : Int) < ((brkR p xs).length : Int) := by omega
      obtain ⟨b, off, rfl, hcc⟩ := hI2.2.2 0 hzl
      have hfx := hI2.2.1 _ (el_mem hzl)
      rw [Nat.add_zero] at hcc
      clear h1 h2 hz y0 y1 y2 y3 y4 y5 y6 y7 y8
      go_upto_region 6 with fail
      have hcd : w2.drew.cell? ⟨b, off, none⟩ = some (.int .i64 (el (brkR p xs) 0)) := hcc
      have t2d := t2.drew
      refine wp_region_held_drew (S := fun W' => W'.cell? ⟨b, off, none⟩ = some (.int .i64 (el (brkR p xs) 0))) (by kernel_rfl) hcd (fun hHeld => ?_)
      generalize w2.drew = wq at *
      refine takeD (i := 0) (v := .slice (some ⟨b, off, none⟩) (brkR p xs).length k2) (some 24) rfl rfl (by kernel_rfl) (by kernel_rfl) (by kernel_rfl) (fun _ _ _ h => h) (Or.inl ⟨by rfl, fun w' hw' => ?_⟩) hHeld ?_
      · first | (go_simp; done) | (obtain ⟨s0, s1⟩ := hw'; go_simp; done)
      try simp only [Act.put, List.setIfInBounds_toArray, List.set_cons_zero, List.set_cons_succ]
      refine takeD (i := 1) (v := .pointer (some ⟨b, off, none⟩)) (some 25) rfl rfl (by kernel_rfl) (by kernel_rfl) (by kernel_rfl) (fun _ _ _ h => h) (Or.inl ⟨by rfl, fun w' hw' => ?_⟩) hHeld ?_
      · first | (go_simp; done) | (obtain ⟨s0, s1⟩ := hw'; go_simp; done)
      try simp only [Act.put, List.setIfInBounds_toArray, List.set_cons_zero, List.set_cons_succ]
      refine takeD (i := 2) (v := .int .i64 (el (brkR p xs) 0)) (some 26) rfl rfl (by kernel_rfl) (by kernel_rfl) (by kernel_rfl) (fun _ _ _ h => h) (Or.inl ⟨by rfl, fun w' hw' => ?_⟩) hHeld ?_
      · first | (go_simp; done) | (obtain ⟨s0, s1⟩ := hw'; go_simp; done)
      try simp only [Act.put, List.setIfInBounds_toArray, List.set_cons_zero, List.set_cons_succ]
      refine takeD (i := 4) (v := .int .i64 1) (some 4) rfl rfl (by kernel_rfl) (by kernel_rfl) (by kernel_rfl) (fun _ _ _ h => h) (Or.inl ⟨by rfl, fun w' hw' => ?_⟩) hHeld ?_
      · first | (go_simp; done) | (obtain ⟨s0, s1⟩ := hw'; go_simp; done)
      try simp only [Act.put, List.setIfInBounds_toArray, List.set_cons_zero, List.set_cons_succ]
      refine wpAnyH_ready (rs := [3]) (by kernel_rfl) (by simp) ?_
      refine AllReadyH.cons rfl (fun K hK => ?_) AllReadyH.nil
      go_simp
      refine hK.out _ _ (cell_kept ((Below.refl wq.heap.size wq).alloc (Nat.le_refl _) _) hcd) (fun hHeld => ?_)
      clear hK K
      try simp only [Act.put, List.setIfInBounds_toArray, List.set_cons_zero, List.set_cons_succ]
      refine takeD (i := 5) (v := .slice (some ⟨wq.heap.size, 0, none⟩) 1 1) (some 5) rfl rfl (by kernel_rfl) (by kernel_rfl) (by kernel_rfl) (fun _ _ _ h => h) (Or.inl ⟨by rfl, fun w' hw' => ?_⟩) hHeld ?_
      · first | (go_simp; done) | (obtain ⟨s0, s1⟩ := hw'; go_simp; done)
      try simp only [Act.put, List.setIfInBounds_toArray, List.set_cons_zero, List.set_cons_succ]
      refine wpAnyH_done (by kernel_rfl) ?_ _
      go_wp2
      go_ret2
      refine ⟨.slice (some ⟨wq.heap.size, 0, none⟩) 1 1, by rw [H1.out]; rfl, ?_, t2d.alloc t2d.size _⟩
      rw [H2.out]
      exact (own_single wq _ hfx).mono t2d.size

end Go.Proofs.YthfbnalgnnjbbaaGreat
