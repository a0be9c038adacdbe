/-
 The laws' own copies of their arguments: each reads as what was copied, in new memory. No condition of its own.
-/
import Derived.Test.YthikhkeofcjdfaaGreatLawsTo
import Derived.Test.YthikhkeofcjdfaaGreatFill
import Derived.Test.YthikhkeofcjdfaaGreatLawsInts
namespace Go.Proofs.YthikhkeofcjdfaaGreat
set_option linter.unusedVariables false
set_option linter.unusedSimpArgs false
open Go.RowKit
set_option maxRecDepth 100000


/-- A slice of ints, copied. -/
theorem toIntSO_calls {v : Value} {xs : List Int} {w : World} (h : RdL w [v] xs) (hs : Sm.S xs) :
  Calls Tryz.prog 31 #[v] w fun e w' => ∃ v', e = .returned v' ∧ Own w.heap.size w' [v'] xs ∧ Below w.heap.size w w' := by
 obtain ⟨a, cap, rfl, _, hr⟩ := h.sl
 exact (toIntS_calls _ _ _ _ hr.ints hs.1).mono fun e w' ⟨v, he, ho, hb⟩ => ⟨v, he, ho.own, hb⟩
theorem toWLit_calls {cs : List Value} {x : Int × Int} {w : World} (h : Rd.R w cs x) (_ : Sm.S x) :
  Calls Tryz.prog 264 #[.agg cs.toArray] w fun e w' => ∃ cs', e = .returned (.agg cs'.toArray) ∧ Own w.heap.size w' cs' x ∧ Below w.heap.size w w' := by
 obtain ⟨rfl, hf⟩ := h
 have HF := Lib.hid hf
 clear hf
 go_enter Tryz.func264, Tryz.ntmps264
 go_wp2
 exact bodyPost_ret (v := .agg #[.int .i64 x.1, .int .i64 x.2]) (by simp [results, Tryz.results264, go_sem]) rfl ⟨[.int .i64 x.1, .int .i64 x.2], rfl, ⟨[], ⟨⟨rfl, HF.out⟩, rfl⟩, fun g hg => by cases hg⟩, (((Below.refl _ _).alloc (by simp) _).alloc (by simp) _).alloc (by simp; omega) _⟩
theorem toExt_calls {cs : List Value} {x : Int × Int} {w : World} (h : Rd.R w cs x) (_ : Sm.S x) :
  Calls Tryz.prog 197 #[.agg cs.toArray] w fun e w' => ∃ cs', e = .returned (.agg cs'.toArray) ∧ Own w.heap.size w' cs' x ∧ Below w.heap.size w w' := by
 obtain ⟨rfl, hf⟩ := h
 have HF := Lib.hid hf
 clear hf
 go_enter Tryz.func197, Tryz.ntmps197
 go_wp2
 exact bodyPost_ret (v := .agg #[.int .i64 x.1, .int .i64 x.2]) (by simp [results, Tryz.results197, go_sem]) rfl ⟨[.int .i64 x.1, .int .i64 x.2], rfl, ⟨[], ⟨⟨rfl, HF.out⟩, rfl⟩, fun g hg => by cases hg⟩, (((Below.refl _ _).alloc (by simp) _).alloc (by simp) _).alloc (by simp; omega) _⟩
theorem info_toWLitS : (Tryz.prog.info? 94).map (fun i => (i.zero, i.size, i.bytes)) = some (some (.agg #[.int .i64 0, .int .i64 0]), 2, 16) := by kernel_rfl
set_option maxHeartbeats 1000000 in
theorem toWLitS_calls {v : Value} {xs : List (Int × Int)} {w : World} (h : RdL w [v] xs) (hs : Sm.S xs) :
  Calls Tryz.prog 236 #[v] w fun e w' => ∃ v', e = .returned v' ∧ Own w.heap.size w' [v'] xs ∧ Below w.heap.size w w' := by
 obtain ⟨a, cap, rfl, _, h⟩ := h.sl
 obtain ⟨hlen, hel⟩ := hs
 obtain ⟨i0, hi, hz0, hz1, hz2⟩ := info_parts info_toWLitS
 by_cases hne : 0 < xs.length
 ·obtain ⟨b, off, rfl, hc⟩ := h.base hne
  have HC := Lib.hid hc
  have HE := Lib.hid hel
  clear h hc hel
  go_enter Tryz.func236, Tryz.ntmps236
  go_wp2_with (at_make; refine wpList_make_full _ rfl _ _ 32 rfl w.heap.size 94 i0 (.agg #[.int .i64 0, .int .i64 0]) 2 Tryz.underlying32 hi hz0 hz1 _ _ _ _ xs.length rfl rfl rfl rfl ?c1 ?c2 (Nat.le_refl _) ?_)
  case c1 => rw [hz2]; omega
  case c2 => unfold maxLen; omega
  intro w1 hown hgrow
  have hf0 : Fill w.heap.size w1 w.heap.size 94 xs 0 := Fill.start hown
  have hb1 : Below w.heap.size w w1 := (Below.refl _ _).grown hgrow (Nat.le_refl _) (fun k hk => by cases hk)
  clear hown hgrow
  go_wp2
  go_loopw [4] (fun i wr => ∃ k : Nat, k ≤ xs.length ∧ i = .int .i64 k ∧ Fill w.heap.size wr w.heap.size 94 xs k ∧ Below w.heap.size w wr) (fun i _ => xs.length - (intOf i).toNat)
  case atStart => exact ⟨0, Nat.zero_le _, rfl, hf0, hb1⟩
  case round =>
   obtain ⟨k, hk, rfl, hf, hb⟩ := hrel
   clear hf0 hb1
   by_cases hlt : k < xs.length
   ·obtain ⟨ecs, hC, hR⟩ := HC.out k hlt
    have hR := Rd.mono hb hR
    have hC := hC.later hb
    obtain ⟨e0, e1, rfl⟩ := list2 (Rd.len hR)
    have v0 : wr.cell? ⟨b, off + k * 2, none⟩ = some e0 := hC.c0
    have v1 : wr.cell? ⟨b, off + k * 2+ 1, none⟩ = some e1 := hC.c1
    have hsm := HE.out _ (nth_mem hlt)
    clear hC
    go_wp2_with fail
    refine (toWLit_calls hR hsm).mono ?_
    rintro e w2 ⟨cs', rfl, ho2, hb2⟩
    have hlen2 := Rd.len ho2.rd
    obtain ⟨f0, f1, rfl⟩ := list2 hlen2
    have hone2 := Rd.one ho2.rd
    have hf2 := hf.later hb2
    have hroom := mul_room (K := 2) hlt
    obtain ⟨x0, y0⟩ := hf2.cell (j := k * 2) (by show _ < xs.length * 2; omega)
    have z0 := hf2.frozen (k * 2)
    have s0 := sto Tryz.prog (hone2 f0 (by simp))
    obtain ⟨x1, y1⟩ := hf2.cell (j := k * 2+ 1) (by show _ < xs.length * 2; omega)
    have z1 := hf2.frozen (k * 2+ 1)
    have s1 := sto Tryz.prog (hone2 f1 (by simp))
    have hst : Fill w.heap.size (put w2 w.heap.size (k * 2) [f0, f1]) w.heap.size 94 xs (k + 1) := hf.step hlt hb2 ho2
    have hbe : Below w.heap.size w (put w2 w.heap.size (k * 2) [f0, f1]) := (hb.trans (hb2.mono hb.size)).trans ((put_chg _ _ _ _).below fun g hg => by simp at hg; omega)
    clear hf hf2 ho2 hR hsm hlen2 hroom hone2
    go_wp2
    go_roundw
    case rel => exact ⟨k + 1, by omega, by go_num, hst, hbe⟩
    case measure => simp [intOf]; omega
   ·have hkk : k = xs.length := by omega
    have HO : Own w.heap.size wr [.slice (some ⟨w.heap.size, 0, none⟩) xs.length xs.length] xs := by rw [hkk] at hf; exact hf.done (by omega)
    clear hkk hf
    go_wp2
    go_ret
    exact ⟨_, rfl, HO, hb⟩
 ·have : xs = [] := by cases xs <;> simp_all
  subst this
  clear h hne hel
  go_enter Tryz.func236, Tryz.ntmps236
  go_wp2_with (at_make; refine wpList_make_full _ rfl _ _ 32 rfl w.heap.size 94 i0 (.agg #[.int .i64 0, .int .i64 0]) 2 Tryz.underlying32 hi hz0 hz1 _ _ _ _ 0 rfl rfl rfl rfl ?c1 ?c2 (Nat.le_refl _) ?_)
  case c1 => omega
  case c2 => omega
  intro w1 hown hgrow
  clear hown
  go_wp2
  refine wp_loop_rounds 1 ?_
  rw [rounds_succ]
  go_wp2
  go_ret
  exact ⟨_, rfl, Own.nilL _ _ _ _ (by omega), (Below.refl _ _).grown hgrow (Nat.le_refl _) (fun k hk => by cases hk)⟩
set_option maxHeartbeats 400000 in
theorem toRule_calls {cs : List Value} {x : RuleD} {w : World} (h : Rd.R w cs x) (hs : Sm.S x) :
  Calls Tryz.prog 194 #[.agg cs.toArray] w fun e w' => ∃ cs', e = .returned (.agg cs'.toArray) ∧ Own w.heap.size w' cs' x ∧ Below w.heap.size w w' := by
 obtain ⟨c1, c4, rfl, hf, h1, h4⟩ := h
 have HF := Lib.hid hf
 obtain ⟨s1, s4⟩ := hs
 have o1 := sto Tryz.prog h1.one1
 have o4 := sto Tryz.prog h4.one1
 clear hf
 go_enter Tryz.func194, Tryz.ntmps194
 go_wp2_with fail
 have t0 : Below w.heap.size w (((w.alloc (.cells #[.bool x.choice, c1, .bool x.weight, .int .i64 x.bound, c4] 210)).alloc (.cells #[.bool false, .slice none 0 0, .bool false, .int .i64 0, .slice none 0 0] 34)).alloc (.cells #[.bool x.choice, .slice none 0 0, .bool false, .int .i64 0, .slice none 0 0] 34)) :=
  (((Below.refl _ _).alloc (by simp) _).alloc (by simp) _).alloc (by simp; omega) _
 refine (toIntSO_calls (Rd.mono (α := List Int) t0 h1) s1).mono ?_
 rintro e w1 ⟨v1, rfl, k1, b1⟩
 obtain ⟨hc1, hf1⟩ := bcell b1
 have hz1 : w.heap.size + 1 + 1 < w1.heap.size := by have := b1.size; simp at this; omega
 have hy1 : w.heap.size + 1 < w1.heap.size := by omega
 obtain ⟨a1, n1, rfl, _⟩ := retO k1
 have k1' := k1.shut.mono (show w.heap.size + 1 + 1 + 1 ≤ _ by simp) (Nat.le_refl _)
 go_wp2_with fail
 have t1 : Below w.heap.size w (((w1.setCell ⟨w.heap.size + 1 + 1, 1, none⟩ (.slice a1 x.heads.length n1)).setCell ⟨w.heap.size + 1 + 1, 2, none⟩ (.bool x.weight)).setCell ⟨w.heap.size + 1 + 1, 3, none⟩ (.int .i64 x.bound)) := by
  repeat (refine Below.setCell ?_ (by simp; try omega) _)
  exact t0.step b1
 have k2 : OwnIn (w.heap.size + 1 + 1 + 1) w1.heap.size (((w1.setCell ⟨w.heap.size + 1 + 1, 1, none⟩ (.slice a1 x.heads.length n1)).setCell ⟨w.heap.size + 1 + 1, 2, none⟩ (.bool x.weight)).setCell ⟨w.heap.size + 1 + 1, 3, none⟩ (.int .i64 x.bound)) [.slice a1 x.heads.length n1] x.heads := by
  repeat (refine OwnIn.far ?_ (.inl (by simp; try omega)) _)
  exact k1'
 refine (toWLitS_calls (Rd.mono (α := List (Int × Int)) t1 h4) s4).mono ?_
 rintro e w2 ⟨v2, rfl, m2, b2⟩
 obtain ⟨hc2, hf2⟩ := bcell b2
 have hz2 : w.heap.size + 1 + 1 < w2.heap.size := by have := b2.size; simp at this; omega
 have hy2 : w.heap.size + 1 < w2.heap.size := by omega
 obtain ⟨a2, n2, rfl, _⟩ := retO m2
 have k3 := k2.later b2
 have m3 := m2.shut.mono (show w1.heap.size ≤ _ by simp) (Nat.le_refl _)
 have t2 := t1.step b2
 go_wp2
 exact bodyPost_ret (v := .agg #[.bool x.choice, .slice a1 x.heads.length n1, .bool x.weight, .int .i64 x.bound, .slice a2 x.body.length n2]) (by simp [results, Tryz.results194, go_sem, hc2, hf2, hy2, hz2, hc1, hf1, hy1, hz1]) rfl ⟨_, rfl,
  own_rule (a := w.heap.size + 1 + 1 + 1) (b := w1.heap.size) (c := w1.heap.size) (d := w2.heap.size) (by
   repeat (refine OwnIn.far ?_ (.inl (by simp; try omega)) _)
   exact k3) (by
   repeat (refine OwnIn.far ?_ (.inl (by simp; try omega)) _)
   exact m3) (Nat.le_refl _) (by omega) (by omega) HF.out, by
  repeat (refine Below.setCell ?_ (by simp; try omega) _)
  exact t2⟩
theorem toLevel_calls {cs : List Value} {x : LevelD} {w : World} (h : Rd.R w cs x) (hs : Sm.S x) :
  Calls Tryz.prog 195 #[.agg cs.toArray] w fun e w' => ∃ cs', e = .returned (.agg cs'.toArray) ∧ Own w.heap.size w' cs' x ∧ Below w.heap.size w w' := by
 obtain ⟨c1, rfl, hf, h1⟩ := h
 have HF := Lib.hid hf
 have s1 : Sm.S x.lits := hs
 clear hf
 go_enter Tryz.func195, Tryz.ntmps195
 go_wp2_with fail
 have t0 : Below w.heap.size w (((w.alloc (.cells #[.int .i64 x.p, c1] 213)).alloc (.cells #[.int .i64 0, .slice none 0 0] 182)).alloc (.cells #[.int .i64 x.p, .slice none 0 0] 182)) :=
  (((Below.refl _ _).alloc (by simp) _).alloc (by simp) _).alloc (by simp; omega) _
 refine (toWLitS_calls (Rd.mono (α := List (Int × Int)) t0 h1) s1).mono ?_
 rintro e w1 ⟨v1, rfl, k1, b1⟩
 obtain ⟨hc1, hf1⟩ := bcell b1
 have hz1 : w.heap.size + 1 + 1 < w1.heap.size := by have := b1.size; simp at this; omega
 have hy1 : w.heap.size + 1 < w1.heap.size := by omega
 obtain ⟨a1, n1, rfl, _⟩ := retO k1
 have k1' := k1.shut.mono (show w.heap.size + 1 + 1 + 1 ≤ _ by simp) (Nat.le_refl _)
 have t1 := t0.step b1
 go_wp2
 exact bodyPost_ret (v := .agg #[.int .i64 x.p, .slice a1 x.lits.length n1]) (by simp [results, Tryz.results195, go_sem, hc1, hf1, hy1, hz1]) rfl ⟨_, rfl,
  own_level (OwnIn.own (OwnIn.mono (lo := w.heap.size + 1 + 1 + 1) (hi := w1.heap.size) (hi' := w1.heap.size) (by
   repeat (refine OwnIn.far ?_ (.inl (by simp; try omega)) _)
   exact k1') (by omega) (Nat.le_refl _))) HF.out, by
  repeat (refine Below.setCell ?_ (by simp; try omega) _)
  exact t1⟩
theorem toShow_calls {cs : List Value} {x : ShowD} {w : World} (h : Rd.R w cs x) (hs : Sm.S x) :
  Calls Tryz.prog 196 #[.agg cs.toArray] w fun e w' => ∃ cs', e = .returned (.agg cs'.toArray) ∧ Own w.heap.size w' cs' x ∧ Below w.heap.size w w' := by
 obtain ⟨c1, rfl, hf, h1⟩ := h
 have HF := Lib.hid hf
 have s1 : Sm.S x.cond := hs.2
 clear hf
 go_enter Tryz.func196, Tryz.ntmps196
 go_wp2_with fail
 have t0 : Below w.heap.size w (((w.alloc (.cells #[.string x.text, c1] 215)).alloc (.cells #[.string ByteArray.empty, .slice none 0 0] 185)).alloc (.cells #[.string x.text, .slice none 0 0] 185)) :=
  (((Below.refl _ _).alloc (by simp) _).alloc (by simp) _).alloc (by simp; omega) _
 refine (toIntSO_calls (Rd.mono (α := List (Int)) t0 h1) s1).mono ?_
 rintro e w1 ⟨v1, rfl, k1, b1⟩
 obtain ⟨hc1, hf1⟩ := bcell b1
 have hz1 : w.heap.size + 1 + 1 < w1.heap.size := by have := b1.size; simp at this; omega
 have hy1 : w.heap.size + 1 < w1.heap.size := by omega
 obtain ⟨a1, n1, rfl, _⟩ := retO k1
 have k1' := k1.shut.mono (show w.heap.size + 1 + 1 + 1 ≤ _ by simp) (Nat.le_refl _)
 have t1 := t0.step b1
 go_wp2
 exact bodyPost_ret (v := .agg #[.string x.text, .slice a1 x.cond.length n1]) (by simp [results, Tryz.results196, go_sem, hc1, hf1, hy1, hz1]) rfl ⟨_, rfl,
  own_show (OwnIn.own (OwnIn.mono (lo := w.heap.size + 1 + 1 + 1) (hi := w1.heap.size) (hi' := w1.heap.size) (by
   repeat (refine OwnIn.far ?_ (.inl (by simp; try omega)) _)
   exact k1') (by omega) (Nat.le_refl _))) HF.out, by
  repeat (refine Below.setCell ?_ (by simp; try omega) _)
  exact t1⟩
theorem info_toExtS : (Tryz.prog.info? 132).map (fun i => (i.zero, i.size, i.bytes)) = some (some (.agg #[.int .i64 0, .int .i64 0]), 2, 16) := by kernel_rfl
set_option maxHeartbeats 1000000 in
theorem toExtS_calls {v : Value} {xs : List (Int × Int)} {w : World} (h : RdL w [v] xs) (hs : Sm.S xs) :
  Calls Tryz.prog 110 #[v] w fun e w' => ∃ v', e = .returned v' ∧ Own w.heap.size w' [v'] xs ∧ Below w.heap.size w w' := by
 obtain ⟨a, cap, rfl, _, h⟩ := h.sl
 obtain ⟨hlen, hel⟩ := hs
 obtain ⟨i0, hi, hz0, hz1, hz2⟩ := info_parts info_toExtS
 by_cases hne : 0 < xs.length
 ·obtain ⟨b, off, rfl, hc⟩ := h.base hne
  have HC := Lib.hid hc
  have HE := Lib.hid hel
  clear h hc hel
  go_enter Tryz.func110, Tryz.ntmps110
  go_wp2_with (at_make; refine wpList_make_full _ rfl _ _ 28 rfl w.heap.size 132 i0 (.agg #[.int .i64 0, .int .i64 0]) 2 Tryz.underlying28 hi hz0 hz1 _ _ _ _ xs.length rfl rfl rfl rfl ?c1 ?c2 (Nat.le_refl _) ?_)
  case c1 => rw [hz2]; omega
  case c2 => unfold maxLen; omega
  intro w1 hown hgrow
  have hf0 : Fill w.heap.size w1 w.heap.size 132 xs 0 := Fill.start hown
  have hb1 : Below w.heap.size w w1 := (Below.refl _ _).grown hgrow (Nat.le_refl _) (fun k hk => by cases hk)
  clear hown hgrow
  go_wp2
  go_loopw [4] (fun i wr => ∃ k : Nat, k ≤ xs.length ∧ i = .int .i64 k ∧ Fill w.heap.size wr w.heap.size 132 xs k ∧ Below w.heap.size w wr) (fun i _ => xs.length - (intOf i).toNat)
  case atStart => exact ⟨0, Nat.zero_le _, rfl, hf0, hb1⟩
  case round =>
   obtain ⟨k, hk, rfl, hf, hb⟩ := hrel
   clear hf0 hb1
   by_cases hlt : k < xs.length
   ·obtain ⟨ecs, hC, hR⟩ := HC.out k hlt
    have hR := Rd.mono hb hR
    have hC := hC.later hb
    obtain ⟨e0, e1, rfl⟩ := list2 (Rd.len hR)
    have v0 : wr.cell? ⟨b, off + k * 2, none⟩ = some e0 := hC.c0
    have v1 : wr.cell? ⟨b, off + k * 2+ 1, none⟩ = some e1 := hC.c1
    have hsm := HE.out _ (nth_mem hlt)
    clear hC
    go_wp2_with fail
    refine (toExt_calls hR hsm).mono ?_
    rintro e w2 ⟨cs', rfl, ho2, hb2⟩
    have hlen2 := Rd.len ho2.rd
    obtain ⟨f0, f1, rfl⟩ := list2 hlen2
    have hone2 := Rd.one ho2.rd
    have hf2 := hf.later hb2
    have hroom := mul_room (K := 2) hlt
    obtain ⟨x0, y0⟩ := hf2.cell (j := k * 2) (by show _ < xs.length * 2; omega)
    have z0 := hf2.frozen (k * 2)
    have s0 := sto Tryz.prog (hone2 f0 (by simp))
    obtain ⟨x1, y1⟩ := hf2.cell (j := k * 2+ 1) (by show _ < xs.length * 2; omega)
    have z1 := hf2.frozen (k * 2+ 1)
    have s1 := sto Tryz.prog (hone2 f1 (by simp))
    have hst : Fill w.heap.size (put w2 w.heap.size (k * 2) [f0, f1]) w.heap.size 132 xs (k + 1) := hf.step hlt hb2 ho2
    have hbe : Below w.heap.size w (put w2 w.heap.size (k * 2) [f0, f1]) := (hb.trans (hb2.mono hb.size)).trans ((put_chg _ _ _ _).below fun g hg => by simp at hg; omega)
    clear hf hf2 ho2 hR hsm hlen2 hroom hone2
    go_wp2
    go_roundw
    case rel => exact ⟨k + 1, by omega, by go_num, hst, hbe⟩
    case measure => simp [intOf]; omega
   ·have hkk : k = xs.length := by omega
    have HO : Own w.heap.size wr [.slice (some ⟨w.heap.size, 0, none⟩) xs.length xs.length] xs := by rw [hkk] at hf; exact hf.done (by omega)
    clear hkk hf
    go_wp2
    go_ret
    exact ⟨_, rfl, HO, hb⟩
 ·have : xs = [] := by cases xs <;> simp_all
  subst this
  clear h hne hel
  go_enter Tryz.func110, Tryz.ntmps110
  go_wp2_with (at_make; refine wpList_make_full _ rfl _ _ 28 rfl w.heap.size 132 i0 (.agg #[.int .i64 0, .int .i64 0]) 2 Tryz.underlying28 hi hz0 hz1 _ _ _ _ 0 rfl rfl rfl rfl ?c1 ?c2 (Nat.le_refl _) ?_)
  case c1 => omega
  case c2 => omega
  intro w1 hown hgrow
  clear hown
  go_wp2
  refine wp_loop_rounds 1 ?_
  rw [rounds_succ]
  go_wp2
  go_ret
  exact ⟨_, rfl, Own.nilL _ _ _ _ (by omega), (Below.refl _ _).grown hgrow (Nat.le_refl _) (fun k hk => by cases hk)⟩
theorem info_toReasonS : (Tryz.prog.info? 118).map (fun i => (i.zero, i.size, i.bytes)) = some (some (.agg #[.int .i64 0, .int .i64 0]), 2, 16) := by kernel_rfl
theorem info_toLevelS : (Tryz.prog.info? 182).map (fun i => (i.zero, i.size, i.bytes)) = some (some (.agg #[.int .i64 0, .slice none 0 0]), 2, 32) := by kernel_rfl
set_option maxHeartbeats 1000000 in
theorem toLevelS_calls {v : Value} {xs : List (LevelD)} {w : World} (h : RdL w [v] xs) (hs : Sm.S xs) :
  Calls Tryz.prog 108 #[v] w fun e w' => ∃ v', e = .returned v' ∧ Own w.heap.size w' [v'] xs ∧ Below w.heap.size w w' := by
 obtain ⟨a, cap, rfl, _, h⟩ := h.sl
 obtain ⟨hlen, hel⟩ := hs
 obtain ⟨i0, hi, hz0, hz1, hz2⟩ := info_parts info_toLevelS
 by_cases hne : 0 < xs.length
 ·obtain ⟨b, off, rfl, hc⟩ := h.base hne
  have HC := Lib.hid hc
  have HE := Lib.hid hel
  clear h hc hel
  go_enter Tryz.func108, Tryz.ntmps108
  go_wp2_with (at_make; refine wpList_make_full _ rfl _ _ 25 rfl w.heap.size 182 i0 (.agg #[.int .i64 0, .slice none 0 0]) 2 Tryz.underlying25 hi hz0 hz1 _ _ _ _ xs.length rfl rfl rfl rfl ?c1 ?c2 (Nat.le_refl _) ?_)
  case c1 => rw [hz2]; omega
  case c2 => unfold maxLen; omega
  intro w1 hown hgrow
  have hf0 : Fill w.heap.size w1 w.heap.size 182 xs 0 := Fill.start hown
  have hb1 : Below w.heap.size w w1 := (Below.refl _ _).grown hgrow (Nat.le_refl _) (fun k hk => by cases hk)
  clear hown hgrow
  go_wp2
  go_loopw [4] (fun i wr => ∃ k : Nat, k ≤ xs.length ∧ i = .int .i64 k ∧ Fill w.heap.size wr w.heap.size 182 xs k ∧ Below w.heap.size w wr) (fun i _ => xs.length - (intOf i).toNat)
  case atStart => exact ⟨0, Nat.zero_le _, rfl, hf0, hb1⟩
  case round =>
   obtain ⟨k, hk, rfl, hf, hb⟩ := hrel
   clear hf0 hb1
   by_cases hlt : k < xs.length
   ·obtain ⟨ecs, hC, hR⟩ := HC.out k hlt
    have hR := Rd.mono hb hR
    have hC := hC.later hb
    obtain ⟨e0, e1, rfl⟩ := list2 (Rd.len hR)
    have v0 : wr.cell? ⟨b, off + k * 2, none⟩ = some e0 := hC.c0
    have v1 : wr.cell? ⟨b, off + k * 2+ 1, none⟩ = some e1 := hC.c1
    have hsm := HE.out _ (nth_mem hlt)
    clear hC
    go_wp2_with fail
    refine (toLevel_calls hR hsm).mono ?_
    rintro e w2 ⟨cs', rfl, ho2, hb2⟩
    have hlen2 := Rd.len ho2.rd
    obtain ⟨f0, f1, rfl⟩ := list2 hlen2
    have hone2 := Rd.one ho2.rd
    have hf2 := hf.later hb2
    have hroom := mul_room (K := 2) hlt
    obtain ⟨x0, y0⟩ := hf2.cell (j := k * 2) (by show _ < xs.length * 2; omega)
    have z0 := hf2.frozen (k * 2)
    have s0 := sto Tryz.prog (hone2 f0 (by simp))
    obtain ⟨x1, y1⟩ := hf2.cell (j := k * 2+ 1) (by show _ < xs.length * 2; omega)
    have z1 := hf2.frozen (k * 2+ 1)
    have s1 := sto Tryz.prog (hone2 f1 (by simp))
    have hst : Fill w.heap.size (put w2 w.heap.size (k * 2) [f0, f1]) w.heap.size 182 xs (k + 1) := hf.step hlt hb2 ho2
    have hbe : Below w.heap.size w (put w2 w.heap.size (k * 2) [f0, f1]) := (hb.trans (hb2.mono hb.size)).trans ((put_chg _ _ _ _).below fun g hg => by simp at hg; omega)
    clear hf hf2 ho2 hR hsm hlen2 hroom hone2
    go_wp2
    go_roundw
    case rel => exact ⟨k + 1, by omega, by go_num, hst, hbe⟩
    case measure => simp [intOf]; omega
   ·have hkk : k = xs.length := by omega
    have HO : Own w.heap.size wr [.slice (some ⟨w.heap.size, 0, none⟩) xs.length xs.length] xs := by rw [hkk] at hf; exact hf.done (by omega)
    clear hkk hf
    go_wp2
    go_ret
    exact ⟨_, rfl, HO, hb⟩
 ·have : xs = [] := by cases xs <;> simp_all
  subst this
  clear h hne hel
  go_enter Tryz.func108, Tryz.ntmps108
  go_wp2_with (at_make; refine wpList_make_full _ rfl _ _ 25 rfl w.heap.size 182 i0 (.agg #[.int .i64 0, .slice none 0 0]) 2 Tryz.underlying25 hi hz0 hz1 _ _ _ _ 0 rfl rfl rfl rfl ?c1 ?c2 (Nat.le_refl _) ?_)
  case c1 => omega
  case c2 => omega
  intro w1 hown hgrow
  clear hown
  go_wp2
  refine wp_loop_rounds 1 ?_
  rw [rounds_succ]
  go_wp2
  go_ret
  exact ⟨_, rfl, Own.nilL _ _ _ _ (by omega), (Below.refl _ _).grown hgrow (Nat.le_refl _) (fun k hk => by cases hk)⟩
theorem info_toShowS : (Tryz.prog.info? 185).map (fun i => (i.zero, i.size, i.bytes)) = some (some (.agg #[.string ByteArray.empty, .slice none 0 0]), 2, 40) := by kernel_rfl
set_option maxHeartbeats 1000000 in
theorem toShowS_calls {v : Value} {xs : List (ShowD)} {w : World} (h : RdL w [v] xs) (hs : Sm.S xs) :
  Calls Tryz.prog 109 #[v] w fun e w' => ∃ v', e = .returned v' ∧ Own w.heap.size w' [v'] xs ∧ Below w.heap.size w w' := by
 obtain ⟨a, cap, rfl, _, h⟩ := h.sl
 obtain ⟨hlen, hel⟩ := hs
 obtain ⟨i0, hi, hz0, hz1, hz2⟩ := info_parts info_toShowS
 by_cases hne : 0 < xs.length
 ·obtain ⟨b, off, rfl, hc⟩ := h.base hne
  have HC := Lib.hid hc
  have HE := Lib.hid hel
  clear h hc hel
  go_enter Tryz.func109, Tryz.ntmps109
  go_wp2_with (at_make; refine wpList_make_full _ rfl _ _ 27 rfl w.heap.size 185 i0 (.agg #[.string ByteArray.empty, .slice none 0 0]) 2 Tryz.underlying27 hi hz0 hz1 _ _ _ _ xs.length rfl rfl rfl rfl ?c1 ?c2 (Nat.le_refl _) ?_)
  case c1 => rw [hz2]; omega
  case c2 => unfold maxLen; omega
  intro w1 hown hgrow
  have hf0 : Fill w.heap.size w1 w.heap.size 185 xs 0 := Fill.start hown
  have hb1 : Below w.heap.size w w1 := (Below.refl _ _).grown hgrow (Nat.le_refl _) (fun k hk => by cases hk)
  clear hown hgrow
  go_wp2
  go_loopw [4] (fun i wr => ∃ k : Nat, k ≤ xs.length ∧ i = .int .i64 k ∧ Fill w.heap.size wr w.heap.size 185 xs k ∧ Below w.heap.size w wr) (fun i _ => xs.length - (intOf i).toNat)
  case atStart => exact ⟨0, Nat.zero_le _, rfl, hf0, hb1⟩
  case round =>
   obtain ⟨k, hk, rfl, hf, hb⟩ := hrel
   clear hf0 hb1
   by_cases hlt : k < xs.length
   ·obtain ⟨ecs, hC, hR⟩ := HC.out k hlt
    have hR := Rd.mono hb hR
    have hC := hC.later hb
    obtain ⟨e0, e1, rfl⟩ := list2 (Rd.len hR)
    have v0 : wr.cell? ⟨b, off + k * 2, none⟩ = some e0 := hC.c0
    have v1 : wr.cell? ⟨b, off + k * 2+ 1, none⟩ = some e1 := hC.c1
    have hsm := HE.out _ (nth_mem hlt)
    clear hC
    go_wp2_with fail
    refine (toShow_calls hR hsm).mono ?_
    rintro e w2 ⟨cs', rfl, ho2, hb2⟩
    have hlen2 := Rd.len ho2.rd
    obtain ⟨f0, f1, rfl⟩ := list2 hlen2
    have hone2 := Rd.one ho2.rd
    have hf2 := hf.later hb2
    have hroom := mul_room (K := 2) hlt
    obtain ⟨x0, y0⟩ := hf2.cell (j := k * 2) (by show _ < xs.length * 2; omega)
    have z0 := hf2.frozen (k * 2)
    have s0 := sto Tryz.prog (hone2 f0 (by simp))
    obtain ⟨x1, y1⟩ := hf2.cell (j := k * 2+ 1) (by show _ < xs.length * 2; omega)
    have z1 := hf2.frozen (k * 2+ 1)
    have s1 := sto Tryz.prog (hone2 f1 (by simp))
    have hst : Fill w.heap.size (put w2 w.heap.size (k * 2) [f0, f1]) w.heap.size 185 xs (k + 1) := hf.step hlt hb2 ho2
    have hbe : Below w.heap.size w (put w2 w.heap.size (k * 2) [f0, f1]) := (hb.trans (hb2.mono hb.size)).trans ((put_chg _ _ _ _).below fun g hg => by simp at hg; omega)
    clear hf hf2 ho2 hR hsm hlen2 hroom hone2
    go_wp2
    go_roundw
    case rel => exact ⟨k + 1, by omega, by go_num, hst, hbe⟩
    case measure => simp [intOf]; omega
   ·have hkk : k = xs.length := by omega
    have HO : Own w.heap.size wr [.slice (some ⟨w.heap.size, 0, none⟩) xs.length xs.length] xs := by rw [hkk] at hf; exact hf.done (by omega)
    clear hkk hf
    go_wp2
    go_ret
    exact ⟨_, rfl, HO, hb⟩
 ·have : xs = [] := by cases xs <;> simp_all
  subst this
  clear h hne hel
  go_enter Tryz.func109, Tryz.ntmps109
  go_wp2_with (at_make; refine wpList_make_full _ rfl _ _ 27 rfl w.heap.size 185 i0 (.agg #[.string ByteArray.empty, .slice none 0 0]) 2 Tryz.underlying27 hi hz0 hz1 _ _ _ _ 0 rfl rfl rfl rfl ?c1 ?c2 (Nat.le_refl _) ?_)
  case c1 => omega
  case c2 => omega
  intro w1 hown hgrow
  clear hown
  go_wp2
  refine wp_loop_rounds 1 ?_
  rw [rounds_succ]
  go_wp2
  go_ret
  exact ⟨_, rfl, Own.nilL _ _ _ _ (by omega), (Below.refl _ _).grown hgrow (Nat.le_refl _) (fun k hk => by cases hk)⟩
theorem info_toRuleS : (Tryz.prog.info? 34).map (fun i => (i.zero, i.size, i.bytes)) = some (some (.agg #[.bool false, .slice none 0 0, .bool false, .int .i64 0, .slice none 0 0]), 5, 72) := by kernel_rfl
set_option maxHeartbeats 1000000 in
theorem toRuleS_calls {v : Value} {xs : List (RuleD)} {w : World} (h : RdL w [v] xs) (hs : Sm.S xs) :
  Calls Tryz.prog 107 #[v] w fun e w' => ∃ v', e = .returned v' ∧ Own w.heap.size w' [v'] xs ∧ Below w.heap.size w w' := by
 obtain ⟨a, cap, rfl, _, h⟩ := h.sl
 obtain ⟨hlen, hel⟩ := hs
 obtain ⟨i0, hi, hz0, hz1, hz2⟩ := info_parts info_toRuleS
 by_cases hne : 0 < xs.length
 ·obtain ⟨b, off, rfl, hc⟩ := h.base hne
  have HC := Lib.hid hc
  have HE := Lib.hid hel
  clear h hc hel
  go_enter Tryz.func107, Tryz.ntmps107
  go_wp2_with (at_make; refine wpList_make_full _ rfl _ _ 24 rfl w.heap.size 34 i0 (.agg #[.bool false, .slice none 0 0, .bool false, .int .i64 0, .slice none 0 0]) 5 Tryz.underlying24 hi hz0 hz1 _ _ _ _ xs.length rfl rfl rfl rfl ?c1 ?c2 (Nat.le_refl _) ?_)
  case c1 => rw [hz2]; omega
  case c2 => unfold maxLen; omega
  intro w1 hown hgrow
  have hf0 : Fill w.heap.size w1 w.heap.size 34 xs 0 := Fill.start hown
  have hb1 : Below w.heap.size w w1 := (Below.refl _ _).grown hgrow (Nat.le_refl _) (fun k hk => by cases hk)
  clear hown hgrow
  go_wp2
  go_loopw [4] (fun i wr => ∃ k : Nat, k ≤ xs.length ∧ i = .int .i64 k ∧ Fill w.heap.size wr w.heap.size 34 xs k ∧ Below w.heap.size w wr) (fun i _ => xs.length - (intOf i).toNat)
  case atStart => exact ⟨0, Nat.zero_le _, rfl, hf0, hb1⟩
  case round =>
   obtain ⟨k, hk, rfl, hf, hb⟩ := hrel
   clear hf0 hb1
   by_cases hlt : k < xs.length
   ·obtain ⟨ecs, hC, hR⟩ := HC.out k hlt
    have hR := Rd.mono hb hR
    have hC := hC.later hb
    obtain ⟨e0, e1, e2, e3, e4, rfl⟩ := list5 (Rd.len hR)
    have v0 : wr.cell? ⟨b, off + k * 5, none⟩ = some e0 := hC.c0
    have v1 : wr.cell? ⟨b, off + k * 5+ 1, none⟩ = some e1 := hC.c1
    have v2 : wr.cell? ⟨b, off + k * 5+ 2, none⟩ = some e2 := hC.c2
    have v3 : wr.cell? ⟨b, off + k * 5+ 3, none⟩ = some e3 := hC.c3
    have v4 : wr.cell? ⟨b, off + k * 5+ 4, none⟩ = some e4 := hC.c4
    have hsm := HE.out _ (nth_mem hlt)
    clear hC
    go_wp2_with fail
    refine (toRule_calls hR hsm).mono ?_
    rintro e w2 ⟨cs', rfl, ho2, hb2⟩
    have hlen2 := Rd.len ho2.rd
    obtain ⟨f0, f1, f2, f3, f4, rfl⟩ := list5 hlen2
    have hone2 := Rd.one ho2.rd
    have hf2 := hf.later hb2
    have hroom := mul_room (K := 5) hlt
    obtain ⟨x0, y0⟩ := hf2.cell (j := k * 5) (by show _ < xs.length * 5; omega)
    have z0 := hf2.frozen (k * 5)
    have s0 := sto Tryz.prog (hone2 f0 (by simp))
    obtain ⟨x1, y1⟩ := hf2.cell (j := k * 5+ 1) (by show _ < xs.length * 5; omega)
    have z1 := hf2.frozen (k * 5+ 1)
    have s1 := sto Tryz.prog (hone2 f1 (by simp))
    obtain ⟨x2, y2⟩ := hf2.cell (j := k * 5+ 2) (by show _ < xs.length * 5; omega)
    have z2 := hf2.frozen (k * 5+ 2)
    have s2 := sto Tryz.prog (hone2 f2 (by simp))
    obtain ⟨x3, y3⟩ := hf2.cell (j := k * 5+ 3) (by show _ < xs.length * 5; omega)
    have z3 := hf2.frozen (k * 5+ 3)
    have s3 := sto Tryz.prog (hone2 f3 (by simp))
    obtain ⟨x4, y4⟩ := hf2.cell (j := k * 5+ 4) (by show _ < xs.length * 5; omega)
    have z4 := hf2.frozen (k * 5+ 4)
    have s4 := sto Tryz.prog (hone2 f4 (by simp))
    have hst : Fill w.heap.size (put w2 w.heap.size (k * 5) [f0, f1, f2, f3, f4]) w.heap.size 34 xs (k + 1) := hf.step hlt hb2 ho2
    have hbe : Below w.heap.size w (put w2 w.heap.size (k * 5) [f0, f1, f2, f3, f4]) := (hb.trans (hb2.mono hb.size)).trans ((put_chg _ _ _ _).below fun g hg => by simp at hg; omega)
    clear hf hf2 ho2 hR hsm hlen2 hroom hone2
    go_wp2
    go_roundw
    case rel => exact ⟨k + 1, by omega, by go_num, hst, hbe⟩
    case measure => simp [intOf]; omega
   ·have hkk : k = xs.length := by omega
    have HO : Own w.heap.size wr [.slice (some ⟨w.heap.size, 0, none⟩) xs.length xs.length] xs := by rw [hkk] at hf; exact hf.done (by omega)
    clear hkk hf
    go_wp2
    go_ret
    exact ⟨_, rfl, HO, hb⟩
 ·have : xs = [] := by cases xs <;> simp_all
  subst this
  clear h hne hel
  go_enter Tryz.func107, Tryz.ntmps107
  go_wp2_with (at_make; refine wpList_make_full _ rfl _ _ 24 rfl w.heap.size 34 i0 (.agg #[.bool false, .slice none 0 0, .bool false, .int .i64 0, .slice none 0 0]) 5 Tryz.underlying24 hi hz0 hz1 _ _ _ _ 0 rfl rfl rfl rfl ?c1 ?c2 (Nat.le_refl _) ?_)
  case c1 => omega
  case c2 => omega
  intro w1 hown hgrow
  clear hown
  go_wp2
  refine wp_loop_rounds 1 ?_
  rw [rounds_succ]
  go_wp2
  go_ret
  exact ⟨_, rfl, Own.nilL _ _ _ _ (by omega), (Below.refl _ _).grown hgrow (Nat.le_refl _) (fun k hk => by cases hk)⟩
end Go.Proofs.YthikhkeofcjdfaaGreat
