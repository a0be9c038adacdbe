/-
 The model's copies of rules and programs. No condition of its own.
-/
import Derived.Test.YthikhkeofcjdfaaGreatCopyProg
namespace Go.Proofs.YthikhkeofcjdfaaGreat
set_option linter.unusedVariables false
set_option linter.unusedSimpArgs false
open Go.RowKit
set_option maxRecDepth 100000

theorem Cells.blw {B : Nat} {w w' : World} {b o : Nat} {cs : List Value} (h : Cells w b o cs) (hb : Below B w w') (hl : b < B) : Cells w' b o cs := h.kept (hb.block b hl)

set_option maxHeartbeats 1000000 in
theorem l02Rule_calls {cs : List Value} {x : RuleD} {w : World} (h : Rd.R w cs x) (s1 : x.heads.length ≤ 1048576) (s4 : x.body.length ≤ 1048576) :
  Calls Tryz.prog 178 #[.agg cs.toArray] w fun e w' => ∃ cs', e = .returned (.agg cs'.toArray) ∧ Own w.heap.size w' cs' x ∧ Below w.heap.size w w' := by
 obtain ⟨i1, hi1, hz10, hz11, hz12⟩ := info_parts info_cloneInt
 obtain ⟨i2, hi2, hz20, hz21, hz22⟩ := info_parts info_cloneWLit
 obtain ⟨c1, c4, rfl, hf, h1, h4⟩ := h
 have HF := Lib.hid hf
 have o1 := sto Tryz.prog h1.one1
 have o4 := sto Tryz.prog h4.one1
 clear hf
 have t0 : Below w.heap.size w (((w.alloc (.cells #[.bool x.choice, c1, .bool x.weight, .int .i64 x.bound, c4] 34)).alloc (.cells #[.bool false, .slice none 0 0, .bool false, .int .i64 0, .slice none 0 0] 34)).alloc (.cells #[] 3)) :=
  (((Below.refl _ _).alloc (by simp) _).alloc (by simp) _).alloc (by simp; omega) _
 have X0 := ((Cells.new w [.bool x.choice, c1, .bool x.weight, .int .i64 x.bound, c4] 34).alloc (.cells #[.bool false, .slice none 0 0, .bool false, .int .i64 0, .slice none 0 0] 34)).alloc (.cells #[] 3)
 have hb0 := alloc_block (w.alloc (.cells #[.bool x.choice, c1, .bool x.weight, .int .i64 x.bound, c4] 34)) #[.bool false, .slice none 0 0, .bool false, .int .i64 0, .slice none 0 0] 34
 rw [World.size_alloc] at hb0
 have hb0 := (Below.heap_alloc _ (.cells #[] 3) (w.heap.size + 1) (by simp)).trans hb0
 have hoA : OwnF (α := Int) (w.heap.size + 1 + 1) 3 (((w.alloc (.cells #[.bool x.choice, c1, .bool x.weight, .int .i64 x.bound, c4] 34)).alloc (.cells #[.bool false, .slice none 0 0, .bool false, .int .i64 0, .slice none 0 0] 34)).alloc (.cells #[] 3)) (.slice (some ⟨w.heap.size + 1 + 1, 0, none⟩) 0 0) [] := by
  have := OwnF.new (α := Int) (B := w.heap.size + 1 + 1) (e := 3) ((w.alloc (.cells #[.bool x.choice, c1, .bool x.weight, .int .i64 x.bound, c4] 34)).alloc (.cells #[.bool false, .slice none 0 0, .bool false, .int .i64 0, .slice none 0 0] 34)) (by simp)
  rwa [World.size_alloc, World.size_alloc] at this
 go_enter Tryz.func178, Tryz.ntmps178
 go_wp2_with (at_builtin; refine wpList_append_flat (α := Int) rfl _ _ 26 rfl i1 (.int .i64 0) 8 Tryz.underlying26 hi1 hz10 hz11 hz12 rfl rfl hoA rfl (Rd.mono (α := List Int) t0 h1) ?p1 ?p2 ?p3 ?_)
 case p1 => simp; omega
 case p2 => simp; omega
 case p3 => simp
 intro v1 w1 ho1 hb1 _
 have ho1 : OwnF (α := Int) (w.heap.size + 1 + 1) 3 w1 v1 x.heads := ho1
 have k1 := ho1.own.shut
 obtain ⟨a1, n1, rfl, _⟩ := retO k1.own
 have hz0 : w.heap.size + 1 + 1 + 1 ≤ w1.heap.size := by have := hb1.size; simpa using this
 have X1 := X0.blw hb1 (by omega)
 have hbr1 := (hb1.block (w.heap.size + 1) (by omega)).trans hb0
 obtain ⟨x0, x1, x2, x3, x4⟩ := cells5 X1
 have hq := alloc_block w #[.bool x.choice, c1, .bool x.weight, .int .i64 x.bound, c4] 34
 have hq := (Below.heap_alloc (w.alloc (.cells #[.bool x.choice, c1, .bool x.weight, .int .i64 x.bound, c4] 34)) (.cells #[.bool false, .slice none 0 0, .bool false, .int .i64 0, .slice none 0 0] 34) w.heap.size (by simp)).trans hq
 have hq := (Below.heap_alloc _ (.cells #[] 3) w.heap.size (by simp; omega)).trans hq
 have hq := (hb1.block w.heap.size (by omega)).trans hq
 have hfz0 := fun j => frozen_of_row w1 w.heap.size j _ _ hq
 have hy0 : w.heap.size < w1.heap.size := by omega
 have hy1 : w.heap.size + 1 < w1.heap.size := by omega
 have t1 : Below w.heap.size w w1 := t0.trans (hb1.mono (by omega))
 have k1 := k1.far (p := ⟨w.heap.size, 1, none⟩) (.inl (by show w.heap.size < _; omega)) (.slice a1 x.heads.length n1)
 have X1' := (X1.set (i := 1) (v := .slice a1 x.heads.length n1) (by simp)).alloc (.cells #[] 94)
 have t1' : Below w.heap.size w ((w1.setCell ⟨w.heap.size, 1, none⟩ (.slice a1 x.heads.length n1)).alloc (.cells #[] 94)) := (Below.setCell t1 (by show w.heap.size ≤ w.heap.size; omega) _).alloc (by simp; omega) _
 have k1 := k1.alloc (.cells #[] 94)
 have hbr1' := (Below.heap_alloc (w1.setCell ⟨w.heap.size, 1, none⟩ (.slice a1 x.heads.length n1)) (.cells #[] 94) (w.heap.size + 1) (by simp; omega)).trans ((Below.heap_setCell _ _ _ _ (by show _ ≠ w.heap.size; omega)).trans hbr1)
 have hoB : OwnF (α := Int × Int) w1.heap.size 94 ((w1.setCell ⟨w.heap.size, 1, none⟩ (.slice a1 x.heads.length n1)).alloc (.cells #[] 94)) (.slice (some ⟨w1.heap.size, 0, none⟩) 0 0) [] := by
  have := OwnF.new (α := Int × Int) (B := w1.heap.size) (e := 94) (w1.setCell ⟨w.heap.size, 1, none⟩ (.slice a1 x.heads.length n1)) (by simp)
  simpa using this
 clear X0 hb0 hoA
 go_wp2_with (at_builtin; refine wpList_append_flat (α := Int × Int) rfl _ _ 32 rfl i2 (.agg #[.int .i64 0, .int .i64 0]) 16 Tryz.underlying32 hi2 hz20 hz21 hz22 rfl rfl hoB rfl (Rd.mono (α := List (Int × Int)) t1' h4) ?p1 ?p2 ?p3 ?_)
 case p1 => simp; omega
 case p2 => simp; omega
 case p3 => simp
 intro v2 w2 ho2 hb2 _
 have ho2 : OwnF (α := Int × Int) w1.heap.size 94 w2 v2 x.body := ho2
 have k2 := ho2.own.shut
 obtain ⟨a2, n2, rfl, _⟩ := retO k2.own
 have hz2 : w1.heap.size + 1 ≤ w2.heap.size := by have := hb2.size; simpa using this
 have X2 := X1'.blw hb2 (by omega)
 have hbr2 := (hb2.block (w.heap.size + 1) (by omega)).trans hbr1'
 have hfz2 := fun j => frozen_of_row w2 (w.heap.size + 1) j _ _ hbr2
 have k1 : OwnIn (w.heap.size + 1 + 1) w1.heap.size w2 [.slice a1 x.heads.length n1] x.heads := by
  obtain ⟨fp, o, l⟩ := k1
  exact ⟨fp, Ow.kept (α := List Int) o fun g hg => hb2.block g (l g hg).2, l⟩
 have hq2 := heap_setCell_same w1 w.heap.size 1 _ _ (.slice a1 x.heads.length n1) hq
 have hq2 := (Below.heap_alloc _ (.cells #[] 94) w.heap.size (by simp; omega)).trans hq2
 have hq2 := (hb2.block w.heap.size (by omega)).trans hq2
 have hfz1 := fun j => frozen_of_row w2 w.heap.size j _ _ hq2
 have CZ : Cells w2 (w.heap.size + 1) 0 [.bool false, .slice none 0 0, .bool false, .int .i64 0, .slice none 0 0] := fun j v hv => by
  rw [Nat.zero_add, cell_of_row w2 (w.heap.size + 1) j _ _ _ hbr2]; simpa using hv
 have t2 : Below w.heap.size w w2 := t1'.trans (hb2.mono (by omega))
 have hy2 : w.heap.size + 1 < w2.heap.size := by omega
 obtain ⟨z0, z1, z2, z3, z4⟩ := cells5 CZ
 clear x0 x1 x2 x3 x4
 obtain ⟨x0, x1, x2, x3, x4⟩ := cells5 X2
 go_wp2
 exact bodyPost_ret (v := .agg #[.bool x.choice, .slice a1 x.heads.length n1, .bool x.weight, .int .i64 x.bound, .slice a2 x.body.length n2]) (by simp [results, Tryz.results178, go_sem, z0, z1, z2, z3, z4]) rfl ⟨_, rfl,
  own_rule (a := w.heap.size + 1 + 1) (b := w1.heap.size) (c := w1.heap.size) (d := w2.heap.size) (by
   repeat (refine OwnIn.far ?_ (.inl (by simp; try omega)) _)
   exact k1) (by
   repeat (refine OwnIn.far ?_ (.inl (by simp; try omega)) _)
   exact k2) (Nat.le_refl _) (by omega) (by omega) HF.out, by
  repeat (refine Below.setCell ?_ (by simp; try omega) _)
  exact t2⟩

end Go.Proofs.YthikhkeofcjdfaaGreat
