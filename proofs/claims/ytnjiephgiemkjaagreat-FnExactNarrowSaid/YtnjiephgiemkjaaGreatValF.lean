/-
  Lists of values of a program: what is asked of them. No condition of its own.
-/
import Derived.Test.YtnjiephgiemkjaaGreatVal
import Derived.Test.YtnjiephgiemkjaaGreatAnsD
import Derived.Test.YtnjiephgiemkjaaGreatFoldI
import Derived.Test.YtnjiephgiemkjaaGreatFoldS
namespace Go.Proofs.YtnjiephgiemkjaaGreat
set_option linter.unusedVariables false
set_option linter.unusedSimpArgs false
open Go.RowKit
set_option maxRecDepth 100000
set_option linter.unusedVariables false
set_option linter.unusedSimpArgs false


theorem Own.putV {α : Type} [Ow α] {lo : Nat} {w : World} {cs : List Value} {x : α} (h : Own lo w cs x) {g : Nat} (hg : g < lo) (o : Nat) (vs : List Value) : Own lo (put w g o vs) cs x := by
  obtain ⟨fp, h, hl⟩ := h
  exact ⟨fp, Ow.kept h fun b hb => (put_chg g vs w o).block b (by have := hl b hb; simp; omega), hl⟩
def valB2 (v : Int) : Bool := btwB v 0 2
/-- Is it a list of values of a program? -/
def valsOkR (p : ProgD) (vs : List Int) : Bool := foldB p && (decide ((vs.length : Int) = (foldD p).atoms) && vs.all valB2)
theorem valsOk_A {p : ProgD} {vs : List Int} (h : foldB p = false) : valsOkR p vs = false := by simp [valsOkR, h]
theorem valsOk_B {p : ProgD} {vs : List Int} (h : ¬ (vs.length : Int) = (foldD p).atoms) : valsOkR p vs = false := by simp only [valsOkR, decide_eq_false h, Bool.false_and, Bool.and_false]
theorem valsOk_C {p : ProgD} {vs : List Int} (h : foldB p = true) (hl : (vs.length : Int) = (foldD p).atoms) : valsOkR p vs = vs.all valB2 := by simp only [valsOkR, h, decide_eq_true hl, Bool.true_and]
theorem vals_no {vs : List Int} {k : Nat} (h : k < vs.length) (hv : valB2 (el vs k) = false) : vs.all valB2 = false := by
  rw [List.all_eq_false]; exact ⟨el vs k, el_mem h, by rw [hv]; exact Bool.false_ne_true⟩
theorem vals_step {vs : List Int} {k : Nat} (h : k < vs.length) (h0 : (vs.take k).all valB2 = true) (hv : valB2 (el vs k) = true) : (vs.take (k + 1)).all valB2 = true := by
  rw [take_el h, List.all_append, h0]; simp [hv]
theorem vals_end {vs : List Int} {k : Nat} (h : vs.length ≤ k) (h0 : (vs.take k).all valB2 = true) : vs.all valB2 = true := by rwa [List.take_of_length_le h] at h0
/-- What Fold makes of a program, for a list of its values. -/
def valsP (p : ProgD) (vs : List Int) : ProgD := if valsOkR p vs then foldD p else default
theorem valsP_no {p : ProgD} {vs : List Int} (h : valsOkR p vs = false) : valsP p vs = default := by simp [valsP, h]
theorem valsP_yes {p : ProgD} {vs : List Int} (h : valsOkR p vs = true) : valsP p vs = foldD p := by simp [valsP, h]

set_option maxHeartbeats 2000000 in
theorem specValsOk_calls {cs : List Value} {p : ProgD} {w : World} {v : Value} {vs : List Int} (h : Rd.R w cs p) (gx : RdL w [v] vs) :
    Calls Tryz.prog 55 #[.agg cs.toArray, v] w fun e w' => e = .returned (.bool (valsOkR p vs)) ∧ Below w.heap.size w w' := by
  obtain ⟨p0, p1, p2, p3, p4, p5, p6, p7, rfl⟩ := list8 (Rd.len h)
  obtain ⟨ax, cx, rfl, _, hx⟩ := gx.sl
  have t0 : Below w.heap.size w (w.alloc (.cells #[p0, p1, p2, p3, p4, p5, p6, p7] 37)) := (Below.refl _ _).alloc (by simp) _
  have hm := hx.1
  go_enter Tryz.func55, Tryz.ntmps55
  go_wp2_with fail
  refine (specFold_calls (Rd.mono t0 h)).mono ?_
  rintro e w1 ⟨cs1, he, o1, b1⟩
  cases hF : foldB p
  · have hv := Lib.hid (valsOk_A (vs := vs) hF)
    rw [hF] at he
    subst he
    have t1 := t0.step b1
    have l1 := Rd.one o1.rd
    obtain ⟨x0, x1, x2, x3, x4, x5, x6, x7, rfl⟩ := list8 (Rd.len o1.rd)
    have st0 := sto Tryz.prog (l1 x0 (by simp))
    have st1 := sto Tryz.prog (l1 x1 (by simp))
    have st2 := sto Tryz.prog (l1 x2 (by simp))
    have st3 := sto Tryz.prog (l1 x3 (by simp))
    have st4 := sto Tryz.prog (l1 x4 (by simp))
    have st5 := sto Tryz.prog (l1 x5 (by simp))
    have st6 := sto Tryz.prog (l1 x6 (by simp))
    have st7 := sto Tryz.prog (l1 x7 (by simp))
    have o1 := o1.alloc (.cells #[x0, x1, x2, x3, x4, x5, x6, x7] 37)
    have CX1 := Cells.new w1 [x0, x1, x2, x3, x4, x5, x6, x7] 37
    have t1 := t1.alloc t1.size (.cells #[x0, x1, x2, x3, x4, x5, x6, x7] 37)
    clear l1
    go_wp2
    go_ret
    exact ⟨ret_bool hv.out.symm, t1⟩
  · rw [hF] at he
    rw [foldR_yes hF] at o1
    subst he
    have t1 := t0.step b1
    have l1 := Rd.one o1.rd
    obtain ⟨x0, x1, x2, x3, x4, x5, x6, x7, rfl⟩ := list8 (Rd.len o1.rd)
    have st0 := sto Tryz.prog (l1 x0 (by simp))
    have st1 := sto Tryz.prog (l1 x1 (by simp))
    have st2 := sto Tryz.prog (l1 x2 (by simp))
    have st3 := sto Tryz.prog (l1 x3 (by simp))
    have st4 := sto Tryz.prog (l1 x4 (by simp))
    have st5 := sto Tryz.prog (l1 x5 (by simp))
    have st6 := sto Tryz.prog (l1 x6 (by simp))
    have st7 := sto Tryz.prog (l1 x7 (by simp))
    have o1 := o1.alloc (.cells #[x0, x1, x2, x3, x4, x5, x6, x7] 37)
    have CX1 := Cells.new w1 [x0, x1, x2, x3, x4, x5, x6, x7] 37
    have t1 := t1.alloc t1.size (.cells #[x0, x1, x2, x3, x4, x5, x6, x7] 37)
    clear l1
    have oR := o1.rd
    obtain ⟨_, _, _, _, _, _, hl, hfa, g1, _⟩ := oR
    simp only [List.cons.injEq, and_true] at hl
    obtain ⟨rfl, rfl, -⟩ := hl
    obtain ⟨y0, y1, y2, y3, y4, y5, y6, y7⟩ := cells8 CX1
    have hxi := (hx.later t1).ints
    clear g1 o1 CX1
    by_cases hl : (vs.length : Int) = (foldD p).atoms
    · have hv := Lib.hid (valsOk_C hF hl)
      have hlb : ((vs.length : Int) != (foldD p).atoms) = false := by simpa using hl
      clear hl hF
      go_wp2
      go_loop [7] (fun i => ∃ k : Nat, k ≤ vs.length ∧ i = .int .i64 k ∧ Hid ((vs.take k).all valB2 = true)) (fun i => vs.length - (intOf i).toNat)
      case atStart => exact ⟨0, Nat.zero_le _, rfl, by simp [Hid]⟩
      case round =>
        obtain ⟨k, hk, rfl, H0⟩ := hrel
        by_cases hlt : k < vs.length
        · obtain ⟨b, off, rfl, hc⟩ := hxi.at (by omega)
          have hck := hc k hlt
          cases hx2 : valB2 (el vs k)
          · have hn := Lib.hid (vals_no hlt hx2)
            go_wp2_with (go_at_call 98; refine (between_calls _ _ _ _).mono ?_; rintro e w' ⟨he, rfl⟩; rw [show btwB (el vs k) 0 2 = false from hx2] at he; subst he)
            go_ret
            exact ⟨ret_bool (by rw [hv.out, hn.out]), t1⟩
          · have hs := Lib.hid (vals_step hlt H0.out hx2)
            go_wp2_with (go_at_call 98; refine (between_calls _ _ _ _).mono ?_; rintro e w' ⟨he, rfl⟩; rw [show btwB (el vs k) 0 2 = true from hx2] at he; subst he)
            go_round
            case rel => exact ⟨k + 1, by omega, by go_num, hs⟩
            case measure => simp [intOf]; omega
        · have hn := Lib.hid (vals_end (show vs.length ≤ k by omega) H0.out)
          go_wp2
          go_ret
          exact ⟨ret_bool (by rw [hv.out, hn.out]), t1⟩
    · have hv := Lib.hid (valsOk_B hl)
      have hlb : ((vs.length : Int) != (foldD p).atoms) = true := by simpa using hl
      clear hl hF
      go_wp2
      go_ret
      exact ⟨ret_bool hv.out.symm, t1⟩

set_option maxHeartbeats 4000000 in
theorem foldedFor_calls {cs : List Value} {p : ProgD} {w : World} {v : Value} {vs : List Int} (h : Rd.R w cs p) (gx : RdL w [v] vs) :
    Calls Tryz.prog 99 #[.agg cs.toArray, v] w fun e w' => ∃ cs', e = .returned (.tuple #[.agg cs'.toArray, .bool (valsOkR p vs)]) ∧ Own w.heap.size w' cs' (valsP p vs) ∧ Below w.heap.size w w' := by
  obtain ⟨p0, p1, p2, p3, p4, p5, p6, p7, rfl⟩ := list8 (Rd.len h)
  obtain ⟨ax, cx, rfl, _, hx⟩ := gx.sl
  have hm := hx.1
  have t0 : Below w.heap.size w ((w.alloc (.cells #[p0, p1, p2, p3, p4, p5, p6, p7] 37)).alloc (.cells #[.int .i64 0, .slice none 0 0, .slice none 0 0, .bool false, .slice none 0 0, .slice none 0 0, .slice none 0 0, .slice none 0 0] 37)) := ((Below.refl _ _).alloc (by simp) _).alloc (by simp) _
  have hb0 := alloc_block (w.alloc (.cells #[p0, p1, p2, p3, p4, p5, p6, p7] 37)) #[.int .i64 0, .slice none 0 0, .slice none 0 0, .bool false, .slice none 0 0, .slice none 0 0, .slice none 0 0, .slice none 0 0] 37
  rw [World.size_alloc] at hb0
  have hzs : ((w.alloc (.cells #[p0, p1, p2, p3, p4, p5, p6, p7] 37)).alloc (.cells #[.int .i64 0, .slice none 0 0, .slice none 0 0, .bool false, .slice none 0 0, .slice none 0 0, .slice none 0 0, .slice none 0 0] 37)).heap.size = w.heap.size + 2 := by simp
  go_enter Tryz.func99, Tryz.ntmps99
  go_wp2_with fail
  refine (implFold_calls (Rd.mono t0 h)).mono ?_
  rintro e w1 ⟨cs1, he, o1, b1⟩
  rw [hzs] at o1
  have hb1 := (b1.block (w.heap.size + 1) (by rw [hzs]; omega)).trans hb0
  have hz1 : w.heap.size + 2 ≤ w1.heap.size := by have := b1.size; omega
  cases hF : foldB p
  · have hP : Hid (valsOkR p vs = false) := valsOk_A hF
    rw [hF] at he
    subst he
    have t1 := t0.step b1
    have l1 := Rd.one o1.rd
    obtain ⟨x0, x1, x2, x3, x4, x5, x6, x7, rfl⟩ := list8 (Rd.len o1.rd)
    have st0 := sto Tryz.prog (l1 x0 (by simp))
    have st1 := sto Tryz.prog (l1 x1 (by simp))
    have st2 := sto Tryz.prog (l1 x2 (by simp))
    have st3 := sto Tryz.prog (l1 x3 (by simp))
    have st4 := sto Tryz.prog (l1 x4 (by simp))
    have st5 := sto Tryz.prog (l1 x5 (by simp))
    have st6 := sto Tryz.prog (l1 x6 (by simp))
    have st7 := sto Tryz.prog (l1 x7 (by simp))
    have o1 := o1.alloc (.cells #[x0, x1, x2, x3, x4, x5, x6, x7] 37)
    have CX1 := Cells.new w1 [x0, x1, x2, x3, x4, x5, x6, x7] 37
    have t1 := t1.alloc t1.size (.cells #[x0, x1, x2, x3, x4, x5, x6, x7] 37)
    clear l1
    have hb2 := (Below.heap_alloc w1 (.cells #[x0, x1, x2, x3, x4, x5, x6, x7] 37) (w.heap.size + 1) (by omega)).trans hb1
    obtain ⟨z0, z1, z2, z3, z4, z5, z6, z7⟩ := cells8 (bx_cells hb2)
    have hfz := fun j => frozen_of_row _ (w.heap.size + 1) j _ _ hb2
    clear o1 CX1 hb0 hb1 b1
    go_wp2
    exact bodyPost_ret (v := .tuple #[.agg #[.int .i64 0, .slice none 0 0, .slice none 0 0, .bool false, .slice none 0 0, .slice none 0 0, .slice none 0 0, .slice none 0 0], .bool false])
      (by simp [results, Tryz.results99, go_sem, z0, z1, z2, z3, z4, z5, z6, z7]) rfl ⟨_, by rw [hP.out], by rw [valsP_no hP.out]; exact own_zero _ _, by
      repeat (refine Below.setCell ?_ (by simp; try omega) _)
      exact t1⟩
  · rw [foldR_yes hF] at o1
    rw [hF] at he
    subst he
    have t1 := t0.step b1
    have l1 := Rd.one o1.rd
    obtain ⟨x0, x1, x2, x3, x4, x5, x6, x7, rfl⟩ := list8 (Rd.len o1.rd)
    have st0 := sto Tryz.prog (l1 x0 (by simp))
    have st1 := sto Tryz.prog (l1 x1 (by simp))
    have st2 := sto Tryz.prog (l1 x2 (by simp))
    have st3 := sto Tryz.prog (l1 x3 (by simp))
    have st4 := sto Tryz.prog (l1 x4 (by simp))
    have st5 := sto Tryz.prog (l1 x5 (by simp))
    have st6 := sto Tryz.prog (l1 x6 (by simp))
    have st7 := sto Tryz.prog (l1 x7 (by simp))
    have o1 := o1.alloc (.cells #[x0, x1, x2, x3, x4, x5, x6, x7] 37)
    have CX1 := Cells.new w1 [x0, x1, x2, x3, x4, x5, x6, x7] 37
    have t1 := t1.alloc t1.size (.cells #[x0, x1, x2, x3, x4, x5, x6, x7] 37)
    clear l1
    have oR := o1.rd
    obtain ⟨_, _, _, _, _, _, hl, hfa, g1, _⟩ := oR
    simp only [List.cons.injEq, and_true] at hl
    obtain ⟨rfl, rfl, -⟩ := hl
    obtain ⟨y0, y1, y2, y3, y4, y5, y6, y7⟩ := cells8 CX1
    have hz2 := World.size_alloc w1 (.cells #[.int .i64 (foldD p).atoms, x1, x2, x3, x4, x5, x6, x7] 37)
    have hb2 := (Below.heap_alloc w1 (.cells #[.int .i64 (foldD p).atoms, x1, x2, x3, x4, x5, x6, x7] 37) (w.heap.size + 1) (by omega)).trans hb1
    obtain ⟨z0, z1, z2, z3, z4, z5, z6, z7⟩ := cells8 (bx_cells hb2)
    have hfz := fun j => frozen_of_row _ (w.heap.size + 1) j _ _ hb2
    have hxi := (hx.later t1).ints
    have o3 := Lib.hid o1
    clear g1 o1 CX1 hb0 hb1 b1
    by_cases hl : (vs.length : Int) = (foldD p).atoms
    · have hv := Lib.hid (valsOk_C hF hl)
      have hlb : ((vs.length : Int) != (foldD p).atoms) = false := by simpa using hl
      clear hl hF
      go_wp2
      go_loop [27] (fun i => ∃ k : Nat, k ≤ vs.length ∧ i = .int .i64 k ∧ Hid ((vs.take k).all valB2 = true)) (fun i => vs.length - (intOf i).toNat)
      case atStart => exact ⟨0, Nat.zero_le _, rfl, by simp [Hid]⟩
      case round =>
        obtain ⟨k, hk, rfl, H0⟩ := hrel
        by_cases hlt : k < vs.length
        · obtain ⟨b, off, rfl, hc⟩ := hxi.at (by omega)
          have hck := hc k hlt
          cases hx2 : valB2 (el vs k)
          · have hP : Hid (valsOkR p vs = false) := by show _ = _; rw [hv.out, vals_no hlt hx2]
            go_wp2_with (go_at_call 121; refine (within_calls _ _ _ _).mono ?_; rintro e w' ⟨he, rfl⟩; rw [show btwB (el vs k) 0 2 = false from hx2] at he; subst he)
            exact bodyPost_ret (v := .tuple #[.agg #[.int .i64 0, .slice none 0 0, .slice none 0 0, .bool false, .slice none 0 0, .slice none 0 0, .slice none 0 0, .slice none 0 0], .bool false])
              (by simp [results, Tryz.results99, go_sem, z0, z1, z2, z3, z4, z5, z6, z7]) rfl ⟨_, by rw [hP.out], by rw [valsP_no hP.out]; exact own_zero _ _, by
              repeat (refine Below.setCell ?_ (by simp; try omega) _)
              exact t1⟩
          · have hs := Lib.hid (vals_step hlt H0.out hx2)
            go_wp2_with (go_at_call 121; refine (within_calls _ _ _ _).mono ?_; rintro e w' ⟨he, rfl⟩; rw [show btwB (el vs k) 0 2 = true from hx2] at he; subst he)
            go_round
            case rel => exact ⟨k + 1, by omega, by go_num, hs⟩
            case measure => simp [intOf]; omega
        · have hP : Hid (valsOkR p vs = true) := by show _ = _; rw [hv.out, vals_end (show vs.length ≤ k by omega) H0.out]
          go_wp2
          refine bodyPost_ret (v := .tuple #[.agg #[.int .i64 (foldD p).atoms, x1, x2, x3, x4, x5, x6, x7], .bool true])
            (by simp [results, Tryz.results99, go_sem, z0, z1, z2, z3, z4, z5, z6, z7]) rfl ⟨_, by rw [hP.out], ?_, ?_⟩
          · rw [valsP_yes hP.out]
            exact (o3.out.putV (g := w.heap.size + 1) (by omega) 0 [.int .i64 (foldD p).atoms, x1, x2, x3, x4, x5, x6, x7]).mono (by omega)
          · exact t1.trans ((put_chg (w.heap.size + 1) [.int .i64 (foldD p).atoms, x1, x2, x3, x4, x5, x6, x7] _ 0).below fun g hg => by simp at hg; omega)
    · have hP : Hid (valsOkR p vs = false) := valsOk_B hl
      have hlb : ((vs.length : Int) != (foldD p).atoms) = true := by simpa using hl
      clear hl hF
      go_wp2
      exact bodyPost_ret (v := .tuple #[.agg #[.int .i64 0, .slice none 0 0, .slice none 0 0, .bool false, .slice none 0 0, .slice none 0 0, .slice none 0 0, .slice none 0 0], .bool false])
        (by simp [results, Tryz.results99, go_sem, z0, z1, z2, z3, z4, z5, z6, z7]) rfl ⟨_, by rw [hP.out], by rw [valsP_no hP.out]; exact own_zero _ _, by
        repeat (refine Below.setCell ?_ (by simp; try omega) _)
        exact t1⟩

set_option maxHeartbeats 2000000 in
theorem implValsOk_calls {cs : List Value} {p : ProgD} {w : World} {v : Value} {vs : List Int} (h : Rd.R w cs p) (gx : RdL w [v] vs) :
    Calls Tryz.prog 60 #[.agg cs.toArray, v] w fun e w' => e = .returned (.bool (valsOkR p vs)) ∧ Below w.heap.size w w' := by
  obtain ⟨p0, p1, p2, p3, p4, p5, p6, p7, rfl⟩ := list8 (Rd.len h)
  obtain ⟨ax, cx, rfl, _, hx⟩ := gx.sl
  have t0 : Below w.heap.size w (w.alloc (.cells #[p0, p1, p2, p3, p4, p5, p6, p7] 37)) := (Below.refl _ _).alloc (by simp) _
  go_enter Tryz.func60, Tryz.ntmps60
  go_wp2_with fail
  refine (foldedFor_calls (Rd.mono t0 h) (Rd.mono (α := List Int) t0 gx)).mono ?_
  rintro e w1 ⟨cs1, rfl, o1, b1⟩
  have t1 := t0.step b1
  have l1 := Rd.one o1.rd
  obtain ⟨x0, x1, x2, x3, x4, x5, x6, x7, rfl⟩ := list8 (Rd.len o1.rd)
  have st0 := sto Tryz.prog (l1 x0 (by simp))
  have st1 := sto Tryz.prog (l1 x1 (by simp))
  have st2 := sto Tryz.prog (l1 x2 (by simp))
  have st3 := sto Tryz.prog (l1 x3 (by simp))
  have st4 := sto Tryz.prog (l1 x4 (by simp))
  have st5 := sto Tryz.prog (l1 x5 (by simp))
  have st6 := sto Tryz.prog (l1 x6 (by simp))
  have st7 := sto Tryz.prog (l1 x7 (by simp))
  have o1 := o1.alloc (.cells #[x0, x1, x2, x3, x4, x5, x6, x7] 37)
  have CX1 := Cells.new w1 [x0, x1, x2, x3, x4, x5, x6, x7] 37
  have t1 := t1.alloc t1.size (.cells #[x0, x1, x2, x3, x4, x5, x6, x7] 37)
  clear l1
  go_wp2
  go_ret
  exact ⟨rfl, t1⟩


end Go.Proofs.YtnjiephgiemkjaaGreat
