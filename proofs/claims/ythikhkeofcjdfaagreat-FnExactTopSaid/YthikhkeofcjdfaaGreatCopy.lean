/-
 The program's copies of lists, rules and programs. No condition of its own.
-/
import Derived.Test.YthikhkeofcjdfaaGreatOwnR
import Derived.Test.YthikhkeofcjdfaaGreatLawsTo
namespace Go.Proofs.YthikhkeofcjdfaaGreat
set_option linter.unusedVariables false
set_option linter.unusedSimpArgs false
open Go.RowKit
set_option maxRecDepth 100000

theorem OwnF.new {α : Type} [Fl α] {B : Nat} {e : TypeId} (w : World) (h : B ≤ w.heap.size) : OwnF B e (w.alloc (.cells #[] e)) (.slice (some ⟨w.heap.size, 0, none⟩) 0 0) ([] : List α) :=
 ⟨World.ownsRow_lit w #[] 0 h (by simp [maxLen]) (by simp), by simp⟩
theorem Cells.set {w : World} {b : Nat} {cs : List Value} {i : Nat} {v : Value} (h : Cells w b 0 cs) (hi : i < cs.length) : Cells (w.setCell ⟨b, i, none⟩ v) b 0 (cs.set i v) := by
 intro j u hu
 rw [Nat.zero_add]
 by_cases e : i = j
 ·subst e
  rw [List.getElem?_set_self hi] at hu
  have h1 := h i _ (List.getElem?_eq_getElem hi)
  rw [Nat.zero_add] at h1
  rw [World.cell?_setCell_same _ _ _ h1]
  exact hu
 ·rw [List.getElem?_set_ne e] at hu
  rw [World.cell?_setCell_other _ _ _ _ (fun h => e (by cases h; rfl))]
  have h1 := h j u hu
  rwa [Nat.zero_add] at h1
theorem OwnR.block {α : Type} [Ow α] {B : Nat} {e : TypeId} {w : World} {v : Value} {xs : List α} (h : OwnR B e w v xs) (hn : 0 < xs.length) : ∃ p, v.ownBlock = some p := by
 obtain ⟨ys, fps, ⟨_, h1⟩, _⟩ := h
 rcases h1 with ⟨rfl, hn'⟩ | ⟨g, cap, cur, rfl, _⟩
 ·omega
 ·exact ⟨g, rfl⟩
theorem row_none {α : Type} [Rd α] {w : World} {xs : List α} (h : Row w none xs) : xs = [] := by
 cases xs with
 | nil => rfl
 | cons y r => obtain ⟨b, off, _, ha, _⟩ := h.2 0 (by simp); cases ha

theorem equalIn_nil {P : Program} (w : World) (d : Nat) {t e : TypeId} (h : P.underlying t = some (.slice e)) (n c n' c' : Nat) : (Op.equalIn (d + 1) t (.slice none n c) (.slice none n' c')).run P w = .ok true w := by
 simp [Op.equalIn, run_underlying h]
theorem equalIn_some {P : Program} (w : World) (d : Nat) {t e : TypeId} (h : P.underlying t = some (.slice e)) (a : Addr) (n c n' c' : Nat) : (Op.equalIn (d + 1) t (.slice (some a) n c) (.slice none n' c')).run P w = .ok false w := by
 simp [Op.equalIn, run_underlying h]
theorem eql_nil {P : Program} {t e : TypeId} (h : P.underlying t = some (.slice e)) (n c n' c' : Nat) (w : World) : (binOp .eql t (.slice none n c) (.slice none n' c')).run P w = .ok (.bool true) w := by
 have := equalIn_nil w 9999 h n c n' c'
 simp only [binOp]
 simp [Op.equal, Op.maxDepth, this]
theorem eql_some {P : Program} {t e : TypeId} (h : P.underlying t = some (.slice e)) (a : Addr) (n c n' c' : Nat) (w : World) : (binOp .eql t (.slice (some a) n c) (.slice none n' c')).run P w = .ok (.bool false) w := by
 have := equalIn_some w 9999 h a n c n' c'
 simp only [binOp]
 simp [Op.equal, Op.maxDepth, this]

theorem info_cloneInt : (Tryz.prog.info? 3).map (fun i => (i.zero, i.size, i.bytes)) = some (some (.int .i64 0), 1, 8) := by kernel_rfl
set_option maxHeartbeats 1000000 in
theorem cloneInt_calls {v : Value} {xs : List (Int)} {w : World} (h : RdL w [v] xs) (hl : xs.length ≤ 1048576) :
  Calls Tryz.prog 156 #[v] w fun e w' => ∃ v', e = .returned v' ∧ Own w.heap.size w' [v'] xs ∧ Below w.heap.size w w' := by
 have g := h
 have en := eql_nil Tryz.underlying26
 have es := eql_some Tryz.underlying26
 obtain ⟨a, cap, rfl, _, hr⟩ := h.sl
 obtain ⟨i0, hi, hz0, hz1, hz2⟩ := info_parts info_cloneInt
 cases a with
 | none =>
  have hn := row_none hr
  subst hn
  go_enter Tryz.func156, Tryz.ntmps156
  go_wp2
  go_ret
  exact ⟨_, rfl, Own.nilL _ _ _ _ (by omega), Below.refl _ _⟩
 | some p =>
  have tA := (Below.refl w.heap.size w).alloc (Nat.le_refl _) (.cells #[] 3)
  have hoA : OwnF (α := Int) w.heap.size 3 (w.alloc (.cells #[] 3)) (.slice (some ⟨w.heap.size, 0, none⟩) 0 0) [] := OwnF.new w (Nat.le_refl _)
  clear hr
  go_enter Tryz.func156, Tryz.ntmps156
  go_wp2_with (at_builtin; refine wpList_append_flat (α := Int) rfl _ _ 26 rfl i0 (.int .i64 0) 8 Tryz.underlying26 hi hz0 hz1 hz2 rfl rfl hoA rfl (Rd.mono (α := List (Int)) tA g) (by simp; omega) (by simp; omega) (by simp) ?_; intro v1 w1 ho1 hb1 _)
  rw [List.nil_append] at ho1
  go_ret
  exact ⟨_, rfl, ho1.own, tA.trans hb1⟩


theorem info_cloneWLit : (Tryz.prog.info? 94).map (fun i => (i.zero, i.size, i.bytes)) = some (some (.agg #[.int .i64 0, .int .i64 0]), 2, 16) := by kernel_rfl
set_option maxHeartbeats 1000000 in
theorem cloneWLit_calls {v : Value} {xs : List (Int × Int)} {w : World} (h : RdL w [v] xs) (hl : xs.length ≤ 1048576) :
  Calls Tryz.prog 160 #[v] w fun e w' => ∃ v', e = .returned v' ∧ Own w.heap.size w' [v'] xs ∧ Below w.heap.size w w' := by
 have g := h
 have en := eql_nil Tryz.underlying32
 have es := eql_some Tryz.underlying32
 obtain ⟨a, cap, rfl, _, hr⟩ := h.sl
 obtain ⟨i0, hi, hz0, hz1, hz2⟩ := info_parts info_cloneWLit
 cases a with
 | none =>
  have hn := row_none hr
  subst hn
  go_enter Tryz.func160, Tryz.ntmps160
  go_wp2
  go_ret
  exact ⟨_, rfl, Own.nilL _ _ _ _ (by omega), Below.refl _ _⟩
 | some p =>
  have tA := (Below.refl w.heap.size w).alloc (Nat.le_refl _) (.cells #[] 94)
  have hoA : OwnF (α := Int × Int) w.heap.size 94 (w.alloc (.cells #[] 94)) (.slice (some ⟨w.heap.size, 0, none⟩) 0 0) [] := OwnF.new w (Nat.le_refl _)
  clear hr
  go_enter Tryz.func160, Tryz.ntmps160
  go_wp2_with (at_builtin; refine wpList_append_flat (α := Int × Int) rfl _ _ 32 rfl i0 (.agg #[.int .i64 0, .int .i64 0]) 16 Tryz.underlying32 hi hz0 hz1 hz2 rfl rfl hoA rfl (Rd.mono (α := List (Int × Int)) tA g) (by simp; omega) (by simp; omega) (by simp) ?_; intro v1 w1 ho1 hb1 _)
  rw [List.nil_append] at ho1
  go_ret
  exact ⟨_, rfl, ho1.own, tA.trans hb1⟩


theorem info_cloneExt : (Tryz.prog.info? 132).map (fun i => (i.zero, i.size, i.bytes)) = some (some (.agg #[.int .i64 0, .int .i64 0]), 2, 16) := by kernel_rfl
set_option maxHeartbeats 1000000 in
theorem cloneExt_calls {v : Value} {xs : List (Int × Int)} {w : World} (h : RdL w [v] xs) (hl : xs.length ≤ 1048576) :
  Calls Tryz.prog 159 #[v] w fun e w' => ∃ v', e = .returned v' ∧ Own w.heap.size w' [v'] xs ∧ Below w.heap.size w w' := by
 have g := h
 have en := eql_nil Tryz.underlying28
 have es := eql_some Tryz.underlying28
 obtain ⟨a, cap, rfl, _, hr⟩ := h.sl
 obtain ⟨i0, hi, hz0, hz1, hz2⟩ := info_parts info_cloneExt
 cases a with
 | none =>
  have hn := row_none hr
  subst hn
  go_enter Tryz.func159, Tryz.ntmps159
  go_wp2
  go_ret
  exact ⟨_, rfl, Own.nilL _ _ _ _ (by omega), Below.refl _ _⟩
 | some p =>
  have tA := (Below.refl w.heap.size w).alloc (Nat.le_refl _) (.cells #[] 132)
  have hoA : OwnF (α := Int × Int) w.heap.size 132 (w.alloc (.cells #[] 132)) (.slice (some ⟨w.heap.size, 0, none⟩) 0 0) [] := OwnF.new w (Nat.le_refl _)
  clear hr
  go_enter Tryz.func159, Tryz.ntmps159
  go_wp2_with (at_builtin; refine wpList_append_flat (α := Int × Int) rfl _ _ 28 rfl i0 (.agg #[.int .i64 0, .int .i64 0]) 16 Tryz.underlying28 hi hz0 hz1 hz2 rfl rfl hoA rfl (Rd.mono (α := List (Int × Int)) tA g) (by simp; omega) (by simp; omega) (by simp) ?_; intro v1 w1 ho1 hb1 _)
  rw [List.nil_append] at ho1
  go_ret
  exact ⟨_, rfl, ho1.own, tA.trans hb1⟩


set_option maxHeartbeats 400000 in
theorem ruleCopied_calls {cs : List Value} {x : RuleD} {w : World} (h : Rd.R w cs x) (s1 : x.heads.length ≤ 1048576) (s4 : x.body.length ≤ 1048576) :
  Calls Tryz.prog 71 #[.agg cs.toArray] w fun e w' => ∃ cs', e = .returned (.agg cs'.toArray) ∧ Own w.heap.size w' cs' x ∧ Below w.heap.size w w' := by
 obtain ⟨c1, c4, rfl, hf, h1, h4⟩ := h
 have HF := Lib.hid hf
 have o1 := sto Tryz.prog h1.one1
 have o4 := sto Tryz.prog h4.one1
 clear hf
 go_enter Tryz.func71, Tryz.ntmps71
 go_wp2_with fail
 have t0 : Below w.heap.size w ((w.alloc (.cells #[.bool x.choice, c1, .bool x.weight, .int .i64 x.bound, c4] 34)).alloc (.cells #[.bool false, .slice none 0 0, .bool false, .int .i64 0, .slice none 0 0] 34)) :=
  ((Below.refl _ _).alloc (by simp) _).alloc (by simp) _
 have CX := (Cells.new w [.bool x.choice, c1, .bool x.weight, .int .i64 x.bound, c4] 34).alloc (.cells #[.bool false, .slice none 0 0, .bool false, .int .i64 0, .slice none 0 0] 34)
 refine (cloneInt_calls (Rd.mono (α := List Int) t0 h1) s1).mono ?_
 rintro e w1 ⟨v1, rfl, k1, b1⟩
 obtain ⟨hcA, hf1⟩ := bcell b1
 have hc1 := fun o => hcA (w.heap.size + 1) o (by simp)
 clear hcA
 have X1 := CX.later b1
 obtain ⟨x0, x1, x2, x3, x4⟩ := cells5 X1
 have hz1 : w.heap.size + 1 < w1.heap.size := by have := b1.size; simp at this; omega
 have hy1 : w.heap.size < w1.heap.size := by omega
 obtain ⟨a1, n1, rfl, _⟩ := retO k1
 have k1' := k1.shut.mono (show w.heap.size + 1 + 1 ≤ _ by simp) (Nat.le_refl _)
 have t1 : Below w.heap.size w (w1.setCell ⟨w.heap.size, 1, none⟩ (.slice a1 x.heads.length n1)) := Below.setCell (t0.step b1) (by simp) _
 have k2 : OwnIn (w.heap.size + 1 + 1) w1.heap.size (w1.setCell ⟨w.heap.size, 1, none⟩ (.slice a1 x.heads.length n1)) [.slice a1 x.heads.length n1] x.heads := k1'.far (.inl (by simp; try omega)) _
 go_wp2_with fail
 clear x0 x1 x2 x3 x4
 refine (cloneWLit_calls (Rd.mono (α := List (Int × Int)) t1 h4) s4).mono ?_
 rintro e w2 ⟨v2, rfl, m2, b2⟩
 obtain ⟨hcB, hf2⟩ := bcell b2
 have hc2 := fun o => hcB (w.heap.size + 1) o (by simp; try omega)
 clear hcB
 have X2 := (X1.set (i := 1) (v := .slice a1 x.heads.length n1) (by simp)).later b2
 obtain ⟨x0, x1, x2, x3, x4⟩ := cells5 X2
 have hz2 : w.heap.size + 1 < w2.heap.size := by have := b2.size; simp at this; omega
 have hy2 : w.heap.size < w2.heap.size := by omega
 obtain ⟨a2, n2, rfl, _⟩ := retO m2
 have k3 := k2.later b2
 have m3 := m2.shut.mono (show w1.heap.size ≤ _ by simp) (Nat.le_refl _)
 have t2 := t1.step b2
 go_wp2
 exact bodyPost_ret (v := .agg #[.bool x.choice, .slice a1 x.heads.length n1, .bool x.weight, .int .i64 x.bound, .slice a2 x.body.length n2]) (by simp [results, Tryz.results71, go_sem, hc2, hf2, hy2, hz2, hc1, hf1, hy1, hz1]) rfl ⟨_, rfl,
  own_rule (a := w.heap.size + 1 + 1) (b := w1.heap.size) (c := w1.heap.size) (d := w2.heap.size) (by
   repeat (refine OwnIn.far ?_ (.inl (by simp; try omega)) _)
   exact k3) (by
   repeat (refine OwnIn.far ?_ (.inl (by simp; try omega)) _)
   exact m3) (Nat.le_refl _) (by omega) (by omega) HF.out, by
  repeat (refine Below.setCell ?_ (by simp; try omega) _)
  exact t2⟩

theorem levelCopied_calls {cs : List Value} {x : LevelD} {w : World} (h : Rd.R w cs x) (s1 : x.lits.length ≤ 1048576) :
  Calls Tryz.prog 155 #[.agg cs.toArray] w fun e w' => ∃ cs', e = .returned (.agg cs'.toArray) ∧ Own w.heap.size w' cs' x ∧ Below w.heap.size w w' := by
 obtain ⟨c1, rfl, hf, h1⟩ := h
 have HF := Lib.hid hf
 have o1 := sto Tryz.prog h1.one1
 clear hf
 go_enter Tryz.func155, Tryz.ntmps155
 go_wp2_with fail
 have CX := (Cells.new w [.int .i64 x.p, c1] 182).alloc (.cells #[.int .i64 0, .slice none 0 0] 182)
 have t0 : Below w.heap.size w ((w.alloc (.cells #[.int .i64 x.p, c1] 182)).alloc (.cells #[.int .i64 0, .slice none 0 0] 182)) :=
  ((Below.refl _ _).alloc (by simp) _).alloc (by simp) _
 refine (cloneWLit_calls (Rd.mono (α := List (Int × Int)) t0 h1) s1).mono ?_
 rintro e w1 ⟨v1, rfl, k1, b1⟩
 obtain ⟨hcA, hf1⟩ := bcell b1
 have hc1 := fun o => hcA (w.heap.size + 1) o (by simp)
 clear hcA
 have X1 := CX.later b1
 obtain ⟨x0, x1⟩ := cells2 X1
 have hz1 : w.heap.size + 1 < w1.heap.size := by have := b1.size; simp at this; omega
 have hy1 : w.heap.size < w1.heap.size := by omega
 obtain ⟨a1, n1, rfl, _⟩ := retO k1
 have k1' := k1.shut.mono (show w.heap.size + 1 + 1 ≤ _ by simp) (Nat.le_refl _)
 have t1 := t0.step b1
 go_wp2
 exact bodyPost_ret (v := .agg #[.int .i64 x.p, .slice a1 x.lits.length n1]) (by simp [results, Tryz.results155, go_sem, hc1, hf1, hy1, hz1]) rfl ⟨_, rfl,
  own_level (OwnIn.own (OwnIn.mono (lo := w.heap.size + 1 + 1) (hi := w1.heap.size) (hi' := w1.heap.size) (by
   repeat (refine OwnIn.far ?_ (.inl (by simp; try omega)) _)
   exact k1') (by omega) (Nat.le_refl _))) HF.out, by
  repeat (refine Below.setCell ?_ (by simp; try omega) _)
  exact t1⟩


theorem showCopied_calls {cs : List Value} {x : ShowD} {w : World} (h : Rd.R w cs x) (s1 : x.cond.length ≤ 1048576) :
  Calls Tryz.prog 158 #[.agg cs.toArray] w fun e w' => ∃ cs', e = .returned (.agg cs'.toArray) ∧ Own w.heap.size w' cs' x ∧ Below w.heap.size w w' := by
 obtain ⟨c1, rfl, hf, h1⟩ := h
 have HF := Lib.hid hf
 have o1 := sto Tryz.prog h1.one1
 clear hf
 go_enter Tryz.func158, Tryz.ntmps158
 go_wp2_with fail
 have CX := (Cells.new w [.string x.text, c1] 185).alloc (.cells #[.string ByteArray.empty, .slice none 0 0] 185)
 have t0 : Below w.heap.size w ((w.alloc (.cells #[.string x.text, c1] 185)).alloc (.cells #[.string ByteArray.empty, .slice none 0 0] 185)) :=
  ((Below.refl _ _).alloc (by simp) _).alloc (by simp) _
 refine (cloneInt_calls (Rd.mono (α := List (Int)) t0 h1) s1).mono ?_
 rintro e w1 ⟨v1, rfl, k1, b1⟩
 obtain ⟨hcA, hf1⟩ := bcell b1
 have hc1 := fun o => hcA (w.heap.size + 1) o (by simp)
 clear hcA
 have X1 := CX.later b1
 obtain ⟨x0, x1⟩ := cells2 X1
 have hz1 : w.heap.size + 1 < w1.heap.size := by have := b1.size; simp at this; omega
 have hy1 : w.heap.size < w1.heap.size := by omega
 obtain ⟨a1, n1, rfl, _⟩ := retO k1
 have k1' := k1.shut.mono (show w.heap.size + 1 + 1 ≤ _ by simp) (Nat.le_refl _)
 have t1 := t0.step b1
 go_wp2
 exact bodyPost_ret (v := .agg #[.string x.text, .slice a1 x.cond.length n1]) (by simp [results, Tryz.results158, go_sem, hc1, hf1, hy1, hz1]) rfl ⟨_, rfl,
  own_show (OwnIn.own (OwnIn.mono (lo := w.heap.size + 1 + 1) (hi := w1.heap.size) (hi' := w1.heap.size) (by
   repeat (refine OwnIn.far ?_ (.inl (by simp; try omega)) _)
   exact k1') (by omega) (Nat.le_refl _))) HF.out, by
  repeat (refine Below.setCell ?_ (by simp; try omega) _)
  exact t1⟩


theorem info_copiesRule : (Tryz.prog.info? 34).map (fun i => (i.zero, i.size, i.bytes)) = some (some (.agg #[.bool false, .slice none 0 0, .bool false, .int .i64 0, .slice none 0 0]), 5, 72) := by kernel_rfl
set_option maxHeartbeats 1000000 in
theorem copiesRule_calls {v : Value} {xs : List (RuleD)} {w : World} (h : RdL w [v] xs) (hl : xs.length ≤ 1048576) (hel : ∀ x ∈ xs, x.heads.length ≤ 1048576 ∧ x.body.length ≤ 1048576) :
  Calls Tryz.prog 70 #[v, .func (.func 71) #[] #[]] w fun e w' => ∃ v', e = .returned v' ∧ OwnR w.heap.size 34 w' v' xs ∧ (∃ p, v'.ownBlock = some p) ∧ Below w.heap.size w w' := by
 obtain ⟨a, cap, rfl, _, h⟩ := h.sl
 obtain ⟨i0, hi, hz0, hz1, hz2⟩ := info_parts info_copiesRule
 have HE := Lib.hid hel
 have hlen : (xs.length : Int) ≤ 1048576 := by omega
 clear hel
 go_enter Tryz.func70, Tryz.ntmps70
 go_wp2_with (at_make; refine wpList_make_own _ rfl _ _ 24 rfl w.heap.size 34 i0 (.agg #[.bool false, .slice none 0 0, .bool false, .int .i64 0, .slice none 0 0]) 5 Tryz.underlying24 hi hz0 hz1 _ _ _ xs.length rfl rfl rfl ?c1 ?c2 ?c3 ?_)
 case c1 => rw [hz2]; omega
 case c2 => unfold maxLen; omega
 case c3 => exact Nat.le_refl _
 intro w1 hown hgrow
 have ho1 : OwnR (α := RuleD) w.heap.size 34 w1 (.slice (some ⟨w.heap.size, 0, none⟩) 0 xs.length) [] := OwnR.start hown
 have hb1 : Below w.heap.size w w1 := (Below.refl _ _).grown hgrow (Nat.le_refl _) (fun k hk => by cases hk)
 clear hown hgrow
 go_wp2
 go_loopw [5, 7, 13] (fun v _ i wr => ∃ k : Nat, k ≤ xs.length ∧ i = .int .i64 k ∧ OwnR w.heap.size 34 wr v (xs.take k) ∧ (∃ p, v.ownBlock = some p) ∧ Below w.heap.size w wr) (fun _ _ i _ => xs.length - (intOf i).toNat)
 case atStart => exact ⟨0, Nat.zero_le _, rfl, by rw [List.take_zero]; exact ho1, ⟨_, rfl⟩, hb1⟩
 case round =>
  obtain ⟨k, hk, rfl, ho, hp, hb⟩ := hrel
  clear ho1 hb1
  have hsz := hb.size
  by_cases hlt : k < xs.length
  ·obtain ⟨b, off, rfl, hc⟩ := h.base (by omega)
   obtain ⟨ecs, hC, hR⟩ := hc k hlt
   have hR := Rd.mono hb hR
   have hC := hC.later hb
   have hone := Rd.one hR
   obtain ⟨e0, e1, e2, e3, e4, rfl⟩ := list5 (Rd.len hR)
   have v0 : wr.cell? ⟨b, off + k * 5, none⟩ = some e0 := hC.c0
   have s0 := sto Tryz.prog (hone e0 (by simp))
   have v1 : wr.cell? ⟨b, off + k * 5+ 1, none⟩ = some e1 := hC.c1
   have s1 := sto Tryz.prog (hone e1 (by simp))
   have v2 : wr.cell? ⟨b, off + k * 5+ 2, none⟩ = some e2 := hC.c2
   have s2 := sto Tryz.prog (hone e2 (by simp))
   have v3 : wr.cell? ⟨b, off + k * 5+ 3, none⟩ = some e3 := hC.c3
   have s3 := sto Tryz.prog (hone e3 (by simp))
   have v4 : wr.cell? ⟨b, off + k * 5+ 4, none⟩ = some e4 := hC.c4
   have s4 := sto Tryz.prog (hone e4 (by simp))
   have hsm := HE.out _ (nth_mem hlt)
   have hR2 := Rd.mono ((Below.refl wr.heap.size wr).alloc (Nat.le_refl _) (.cells #[e0, e1, e2, e3, e4] 34)) hR
   have hbA := hb.alloc hsz (.cells #[e0, e1, e2, e3, e4] 34)
   have hoA := ho.later ((Below.refl wr.heap.size wr).alloc (Nat.le_refl _) (.cells #[e0, e1, e2, e3, e4] 34))
   have htk := Lib.hid (take_nth hlt)
   have htl : (xs.take k).length = k := by rw [List.length_take]; omega
   clear hC hc h
   go_wp2_with fail
   refine ((fun hR hs => ruleCopied_calls hR hs.1 hs.2) hR2 hsm).mono ?_
   rintro e w2 ⟨cs', rfl, ho2, hb2⟩
   have hlen2 := Rd.len ho2.rd
   obtain ⟨f0, f1, f2, f3, f4, rfl⟩ := list5 hlen2
   have hCn := Cells.new w2 [f0, f1, f2, f3, f4] 34
   have ho2' := ho2.alloc (.cells #[f0, f1, f2, f3, f4] 34)
   have hb3 := (Below.refl _ _).step hb2
   have hb3 := hb3.alloc hb2.size (.cells #[f0, f1, f2, f3, f4] 34)
   have hbN := (hbA.step hb2).alloc (by have := hb2.size; have := hbA.size; omega) (.cells #[f0, f1, f2, f3, f4] 34)
   go_wp2_with (at_builtin; refine wpList_append_one (α := RuleD) rfl _ _ rfl i0 (.agg #[.bool false, .slice none 0 0, .bool false, .int .i64 0, .slice none 0 0]) 72 Tryz.underlying24 hi hz0 hz1 hz2 rfl (by decide) rfl rfl hoA (Nat.le_refl _) hb3 hCn ho2' (by rw [htl]; omega) (by omega) hbA.size ?_; intro v3 w3 ho3 hb4 hg4)
   go_roundw
   case rel => exact ⟨k + 1, by omega, by go_num, by rw [htk.out]; exact ho3, ho3.block (by simp), hbN.trans hb4⟩
   case measure => simp [intOf]; omega
  ·have hkx : Hid (xs.take k = xs) := List.take_of_length_le (by omega)
   rw [hkx.out] at ho
   clear hkx
   go_wp2
   go_ret
   exact ⟨_, rfl, ho, hp, hb⟩


theorem info_copiesLevel : (Tryz.prog.info? 182).map (fun i => (i.zero, i.size, i.bytes)) = some (some (.agg #[.int .i64 0, .slice none 0 0]), 2, 32) := by kernel_rfl
set_option maxHeartbeats 1000000 in
theorem copiesLevel_calls {v : Value} {xs : List (LevelD)} {w : World} (h : RdL w [v] xs) (hl : xs.length ≤ 1048576) (hel : ∀ x ∈ xs, x.lits.length ≤ 1048576) :
  Calls Tryz.prog 154 #[v, .func (.func 155) #[] #[]] w fun e w' => ∃ v', e = .returned v' ∧ OwnR w.heap.size 182 w' v' xs ∧ (∃ p, v'.ownBlock = some p) ∧ Below w.heap.size w w' := by
 obtain ⟨a, cap, rfl, _, h⟩ := h.sl
 obtain ⟨i0, hi, hz0, hz1, hz2⟩ := info_parts info_copiesLevel
 have HE := Lib.hid hel
 have hlen : (xs.length : Int) ≤ 1048576 := by omega
 clear hel
 go_enter Tryz.func154, Tryz.ntmps154
 go_wp2_with (at_make; refine wpList_make_own _ rfl _ _ 25 rfl w.heap.size 182 i0 (.agg #[.int .i64 0, .slice none 0 0]) 2 Tryz.underlying25 hi hz0 hz1 _ _ _ xs.length rfl rfl rfl ?c1 ?c2 ?c3 ?_)
 case c1 => rw [hz2]; omega
 case c2 => unfold maxLen; omega
 case c3 => exact Nat.le_refl _
 intro w1 hown hgrow
 have ho1 : OwnR (α := LevelD) w.heap.size 182 w1 (.slice (some ⟨w.heap.size, 0, none⟩) 0 xs.length) [] := OwnR.start hown
 have hb1 : Below w.heap.size w w1 := (Below.refl _ _).grown hgrow (Nat.le_refl _) (fun k hk => by cases hk)
 clear hown hgrow
 go_wp2
 go_loopw [5, 7, 13] (fun v _ i wr => ∃ k : Nat, k ≤ xs.length ∧ i = .int .i64 k ∧ OwnR w.heap.size 182 wr v (xs.take k) ∧ (∃ p, v.ownBlock = some p) ∧ Below w.heap.size w wr) (fun _ _ i _ => xs.length - (intOf i).toNat)
 case atStart => exact ⟨0, Nat.zero_le _, rfl, by rw [List.take_zero]; exact ho1, ⟨_, rfl⟩, hb1⟩
 case round =>
  obtain ⟨k, hk, rfl, ho, hp, hb⟩ := hrel
  clear ho1 hb1
  have hsz := hb.size
  by_cases hlt : k < xs.length
  ·obtain ⟨b, off, rfl, hc⟩ := h.base (by omega)
   obtain ⟨ecs, hC, hR⟩ := hc k hlt
   have hR := Rd.mono hb hR
   have hC := hC.later hb
   have hone := Rd.one hR
   obtain ⟨e0, e1, rfl⟩ := list2 (Rd.len hR)
   have v0 : wr.cell? ⟨b, off + k * 2, none⟩ = some e0 := hC.c0
   have s0 := sto Tryz.prog (hone e0 (by simp))
   have v1 : wr.cell? ⟨b, off + k * 2+ 1, none⟩ = some e1 := hC.c1
   have s1 := sto Tryz.prog (hone e1 (by simp))
   have hsm := HE.out _ (nth_mem hlt)
   have hR2 := Rd.mono ((Below.refl wr.heap.size wr).alloc (Nat.le_refl _) (.cells #[e0, e1] 182)) hR
   have hbA := hb.alloc hsz (.cells #[e0, e1] 182)
   have hoA := ho.later ((Below.refl wr.heap.size wr).alloc (Nat.le_refl _) (.cells #[e0, e1] 182))
   have htk := Lib.hid (take_nth hlt)
   have htl : (xs.take k).length = k := by rw [List.length_take]; omega
   clear hC hc h
   go_wp2_with fail
   refine ((fun hR hs => levelCopied_calls hR hs) hR2 hsm).mono ?_
   rintro e w2 ⟨cs', rfl, ho2, hb2⟩
   have hlen2 := Rd.len ho2.rd
   obtain ⟨f0, f1, rfl⟩ := list2 hlen2
   have hCn := Cells.new w2 [f0, f1] 182
   have ho2' := ho2.alloc (.cells #[f0, f1] 182)
   have hb3 := (Below.refl _ _).step hb2
   have hb3 := hb3.alloc hb2.size (.cells #[f0, f1] 182)
   have hbN := (hbA.step hb2).alloc (by have := hb2.size; have := hbA.size; omega) (.cells #[f0, f1] 182)
   go_wp2_with (at_builtin; refine wpList_append_one (α := LevelD) rfl _ _ rfl i0 (.agg #[.int .i64 0, .slice none 0 0]) 32 Tryz.underlying25 hi hz0 hz1 hz2 rfl (by decide) rfl rfl hoA (Nat.le_refl _) hb3 hCn ho2' (by rw [htl]; omega) (by omega) hbA.size ?_; intro v3 w3 ho3 hb4 hg4)
   go_roundw
   case rel => exact ⟨k + 1, by omega, by go_num, by rw [htk.out]; exact ho3, ho3.block (by simp), hbN.trans hb4⟩
   case measure => simp [intOf]; omega
  ·have hkx : Hid (xs.take k = xs) := List.take_of_length_le (by omega)
   rw [hkx.out] at ho
   clear hkx
   go_wp2
   go_ret
   exact ⟨_, rfl, ho, hp, hb⟩


theorem info_copiesShow : (Tryz.prog.info? 185).map (fun i => (i.zero, i.size, i.bytes)) = some (some (.agg #[.string ByteArray.empty, .slice none 0 0]), 2, 40) := by kernel_rfl
set_option maxHeartbeats 1000000 in
theorem copiesShow_calls {v : Value} {xs : List (ShowD)} {w : World} (h : RdL w [v] xs) (hl : xs.length ≤ 1048576) (hel : ∀ x ∈ xs, x.cond.length ≤ 1048576) :
  Calls Tryz.prog 157 #[v, .func (.func 158) #[] #[]] w fun e w' => ∃ v', e = .returned v' ∧ OwnR w.heap.size 185 w' v' xs ∧ (∃ p, v'.ownBlock = some p) ∧ Below w.heap.size w w' := by
 obtain ⟨a, cap, rfl, _, h⟩ := h.sl
 obtain ⟨i0, hi, hz0, hz1, hz2⟩ := info_parts info_copiesShow
 have HE := Lib.hid hel
 have hlen : (xs.length : Int) ≤ 1048576 := by omega
 clear hel
 go_enter Tryz.func157, Tryz.ntmps157
 go_wp2_with (at_make; refine wpList_make_own _ rfl _ _ 27 rfl w.heap.size 185 i0 (.agg #[.string ByteArray.empty, .slice none 0 0]) 2 Tryz.underlying27 hi hz0 hz1 _ _ _ xs.length rfl rfl rfl ?c1 ?c2 ?c3 ?_)
 case c1 => rw [hz2]; omega
 case c2 => unfold maxLen; omega
 case c3 => exact Nat.le_refl _
 intro w1 hown hgrow
 have ho1 : OwnR (α := ShowD) w.heap.size 185 w1 (.slice (some ⟨w.heap.size, 0, none⟩) 0 xs.length) [] := OwnR.start hown
 have hb1 : Below w.heap.size w w1 := (Below.refl _ _).grown hgrow (Nat.le_refl _) (fun k hk => by cases hk)
 clear hown hgrow
 go_wp2
 go_loopw [5, 7, 13] (fun v _ i wr => ∃ k : Nat, k ≤ xs.length ∧ i = .int .i64 k ∧ OwnR w.heap.size 185 wr v (xs.take k) ∧ (∃ p, v.ownBlock = some p) ∧ Below w.heap.size w wr) (fun _ _ i _ => xs.length - (intOf i).toNat)
 case atStart => exact ⟨0, Nat.zero_le _, rfl, by rw [List.take_zero]; exact ho1, ⟨_, rfl⟩, hb1⟩
 case round =>
  obtain ⟨k, hk, rfl, ho, hp, hb⟩ := hrel
  clear ho1 hb1
  have hsz := hb.size
  by_cases hlt : k < xs.length
  ·obtain ⟨b, off, rfl, hc⟩ := h.base (by omega)
   obtain ⟨ecs, hC, hR⟩ := hc k hlt
   have hR := Rd.mono hb hR
   have hC := hC.later hb
   have hone := Rd.one hR
   obtain ⟨e0, e1, rfl⟩ := list2 (Rd.len hR)
   have v0 : wr.cell? ⟨b, off + k * 2, none⟩ = some e0 := hC.c0
   have s0 := sto Tryz.prog (hone e0 (by simp))
   have v1 : wr.cell? ⟨b, off + k * 2+ 1, none⟩ = some e1 := hC.c1
   have s1 := sto Tryz.prog (hone e1 (by simp))
   have hsm := HE.out _ (nth_mem hlt)
   have hR2 := Rd.mono ((Below.refl wr.heap.size wr).alloc (Nat.le_refl _) (.cells #[e0, e1] 185)) hR
   have hbA := hb.alloc hsz (.cells #[e0, e1] 185)
   have hoA := ho.later ((Below.refl wr.heap.size wr).alloc (Nat.le_refl _) (.cells #[e0, e1] 185))
   have htk := Lib.hid (take_nth hlt)
   have htl : (xs.take k).length = k := by rw [List.length_take]; omega
   clear hC hc h
   go_wp2_with fail
   refine ((fun hR hs => showCopied_calls hR hs) hR2 hsm).mono ?_
   rintro e w2 ⟨cs', rfl, ho2, hb2⟩
   have hlen2 := Rd.len ho2.rd
   obtain ⟨f0, f1, rfl⟩ := list2 hlen2
   have hCn := Cells.new w2 [f0, f1] 185
   have ho2' := ho2.alloc (.cells #[f0, f1] 185)
   have hb3 := (Below.refl _ _).step hb2
   have hb3 := hb3.alloc hb2.size (.cells #[f0, f1] 185)
   have hbN := (hbA.step hb2).alloc (by have := hb2.size; have := hbA.size; omega) (.cells #[f0, f1] 185)
   go_wp2_with (at_builtin; refine wpList_append_one (α := ShowD) rfl _ _ rfl i0 (.agg #[.string ByteArray.empty, .slice none 0 0]) 40 Tryz.underlying27 hi hz0 hz1 hz2 rfl (by decide) rfl rfl hoA (Nat.le_refl _) hb3 hCn ho2' (by rw [htl]; omega) (by omega) hbA.size ?_; intro v3 w3 ho3 hb4 hg4)
   go_roundw
   case rel => exact ⟨k + 1, by omega, by go_num, by rw [htk.out]; exact ho3, ho3.block (by simp), hbN.trans hb4⟩
   case measure => simp [intOf]; omega
  ·have hkx : Hid (xs.take k = xs) := List.take_of_length_le (by omega)
   rw [hkx.out] at ho
   clear hkx
   go_wp2
   go_ret
   exact ⟨_, rfl, ho, hp, hb⟩


end Go.Proofs.YthikhkeofcjdfaaGreat
