/-
 What the laws do with arguments and answers of theirs: copies, sizes, equality. No condition of its own.
-/
import Derived.Test.YthikhkeofcjdfaaGreatLawsTo
import Derived.Test.YthikhkeofcjdfaaGreatLawsTq
import Derived.Test.YthikhkeofcjdfaaGreatFill
import Derived.Test.YthikhkeofcjdfaaGreatLawsInts
import Derived.StillTailTactics
namespace Go.Proofs.YthikhkeofcjdfaaGreat
set_option linter.unusedVariables false
set_option linter.unusedSimpArgs false
open Go.RowKit
set_option maxRecDepth 100000

/-! ### LawsProg -/
set_option maxHeartbeats 4000000 in
theorem toProg_calls {cs : List Value} {x : ProgD} {w : World} (h : Rd.R w cs x) (hs : Sm.S x) :
  Calls Tryz.prog 30 #[.agg cs.toArray] w fun e w' => ∃ cs', e = .returned (.agg cs'.toArray) ∧ Own w.heap.size w' cs' x ∧ Below w.heap.size w w' := by
 obtain ⟨c1, c2, c4, c5, c6, c7, rfl, hf, h1, h2, h4, h5, h6, h7⟩ := h
 have HF := Lib.hid hf
 obtain ⟨s1, s2, s4, s5, s6, s7⟩ := hs
 clear hf
 go_enter Tryz.func30, Tryz.ntmps30
 go_wp2_with fail
 have t0 : Below w.heap.size w (((w.alloc (.cells #[.int .i64 x.atoms, c1, c2, .bool x.projOn, c4, c5, c6, c7] 59)).alloc (.cells #[.int .i64 0, .slice none 0 0, .slice none 0 0, .bool false, .slice none 0 0, .slice none 0 0, .slice none 0 0, .slice none 0 0] 30)).alloc (.cells #[.int .i64 x.atoms, .slice none 0 0, .slice none 0 0, .bool false, .slice none 0 0, .slice none 0 0, .slice none 0 0, .slice none 0 0] 30)) :=
  (((Below.refl _ _).alloc (by simp) _).alloc (by simp) _).alloc (by simp; omega) _
 refine (toRuleS_calls (Rd.mono (α := List RuleD) t0 h1) s1).mono ?_
 rintro e w1 ⟨v1, rfl, k1, b1⟩
 have hz1 : w.heap.size + 1 + 1 < w1.heap.size := by have := b1.size; simp at this; omega
 have hy1 : w.heap.size + 1 < w1.heap.size := by omega
 have hx1 : w.heap.size < w1.heap.size := by omega
 obtain ⟨a1, n1, rfl, _⟩ := retO k1
 have k1 := k1.shut.mono (show w.heap.size + 1 + 1 + 1 ≤ _ by simp) (Nat.le_refl _)
 have t1 := t0.step b1
 obtain ⟨hc1, hf1⟩ := bcell b1
 go_wp2_with fail
 have u2 := t1.setCell (p := ⟨w.heap.size + 1 + 1, 1, none⟩) (by simp; try omega) (.slice a1 x.rules.length n1)
 refine (toLevelS_calls (Rd.mono (α := List (LevelD)) u2 h2) s2).mono ?_
 rintro e w2 ⟨v2, rfl, k2, b2⟩
 have hz2 : w.heap.size + 1 + 1 < w2.heap.size := by have := b2.size; simp at this; omega
 have hy2 : w.heap.size + 1 < w2.heap.size := by omega
 have hx2 : w.heap.size < w2.heap.size := by omega
 have hs2 : w1.heap.size ≤ w2.heap.size := by have := b2.size; simpa using this
 obtain ⟨a2, n2, rfl, _⟩ := retO k2
 have k2 := k2.shut.mono (show w1.heap.size ≤ _ by simp) (Nat.le_refl _)
 have t2 := u2.step b2
 have k1 := k1.adv1 (by simp; try omega) b2
 obtain ⟨hc2, hf2⟩ := bcell b2
 go_wp2_with fail
 have u3 := (t2.setCell (p := ⟨w.heap.size + 1 + 1, 2, none⟩) (by simp; try omega) (.slice a2 x.levels.length n2)).setCell (p := ⟨w.heap.size + 1 + 1, 3, none⟩) (by simp; try omega) (.bool x.projOn)
 refine (toIntSO_calls (Rd.mono (α := List (Int)) u3 h4) s4).mono ?_
 rintro e w3 ⟨v3, rfl, k3, b3⟩
 have hz3 : w.heap.size + 1 + 1 < w3.heap.size := by have := b3.size; simp at this; omega
 have hy3 : w.heap.size + 1 < w3.heap.size := by omega
 have hx3 : w.heap.size < w3.heap.size := by omega
 have hs3 : w2.heap.size ≤ w3.heap.size := by have := b3.size; simpa using this
 obtain ⟨a3, n3, rfl, _⟩ := retO k3
 have k3 := k3.shut.mono (show w2.heap.size ≤ _ by simp) (Nat.le_refl _)
 have t3 := u3.step b3
 have k1 := k1.adv2 (by simp; try omega) (by simp; try omega) b3
 have k2 := k2.adv2 (by simp; try omega) (by simp; try omega) b3
 obtain ⟨hc3, hf3⟩ := bcell b3
 go_wp2_with fail
 have u4 := t3.setCell (p := ⟨w.heap.size + 1 + 1, 4, none⟩) (by simp; try omega) (.slice a3 x.project.length n3)
 refine (toShowS_calls (Rd.mono (α := List (ShowD)) u4 h5) s5).mono ?_
 rintro e w4 ⟨v4, rfl, k4, b4⟩
 have hz4 : w.heap.size + 1 + 1 < w4.heap.size := by have := b4.size; simp at this; omega
 have hy4 : w.heap.size + 1 < w4.heap.size := by omega
 have hx4 : w.heap.size < w4.heap.size := by omega
 have hs4 : w3.heap.size ≤ w4.heap.size := by have := b4.size; simpa using this
 obtain ⟨a4, n4, rfl, _⟩ := retO k4
 have k4 := k4.shut.mono (show w3.heap.size ≤ _ by simp) (Nat.le_refl _)
 have t4 := u4.step b4
 have k1 := k1.adv1 (by simp; try omega) b4
 have k2 := k2.adv1 (by simp; try omega) b4
 have k3 := k3.adv1 (by simp; try omega) b4
 obtain ⟨hc4, hf4⟩ := bcell b4
 go_wp2_with fail
 have u5 := t4.setCell (p := ⟨w.heap.size + 1 + 1, 5, none⟩) (by simp; try omega) (.slice a4 x.shows.length n4)
 refine (toExtS_calls (Rd.mono (α := List (Int × Int)) u5 h6) s6).mono ?_
 rintro e w5 ⟨v5, rfl, k5, b5⟩
 have hz5 : w.heap.size + 1 + 1 < w5.heap.size := by have := b5.size; simp at this; omega
 have hy5 : w.heap.size + 1 < w5.heap.size := by omega
 have hx5 : w.heap.size < w5.heap.size := by omega
 have hs5 : w4.heap.size ≤ w5.heap.size := by have := b5.size; simpa using this
 obtain ⟨a5, n5, rfl, _⟩ := retO k5
 have k5 := k5.shut.mono (show w4.heap.size ≤ _ by simp) (Nat.le_refl _)
 have t5 := u5.step b5
 have k1 := k1.adv1 (by simp; try omega) b5
 have k2 := k2.adv1 (by simp; try omega) b5
 have k3 := k3.adv1 (by simp; try omega) b5
 have k4 := k4.adv1 (by simp; try omega) b5
 obtain ⟨hc5, hf5⟩ := bcell b5
 go_wp2_with fail
 have u6 := t5.setCell (p := ⟨w.heap.size + 1 + 1, 6, none⟩) (by simp; try omega) (.slice a5 x.exts.length n5)
 refine (toIntSO_calls (Rd.mono (α := List (Int)) u6 h7) s7).mono ?_
 rintro e w6 ⟨v6, rfl, k6, b6⟩
 have hz6 : w.heap.size + 1 + 1 < w6.heap.size := by have := b6.size; simp at this; omega
 have hy6 : w.heap.size + 1 < w6.heap.size := by omega
 have hx6 : w.heap.size < w6.heap.size := by omega
 have hs6 : w5.heap.size ≤ w6.heap.size := by have := b6.size; simpa using this
 obtain ⟨a6, n6, rfl, _⟩ := retO k6
 have k6 := k6.shut.mono (show w5.heap.size ≤ _ by simp) (Nat.le_refl _)
 have t6 := u6.step b6
 have k1 := k1.adv1 (by simp; try omega) b6
 have k2 := k2.adv1 (by simp; try omega) b6
 have k3 := k3.adv1 (by simp; try omega) b6
 have k4 := k4.adv1 (by simp; try omega) b6
 have k5 := k5.adv1 (by simp; try omega) b6
 obtain ⟨hc6, hf6⟩ := bcell b6
 go_wp2_with fail
 exact bodyPost_ret (v := .agg #[.int .i64 x.atoms, .slice a1 x.rules.length n1, .slice a2 x.levels.length n2, .bool x.projOn, .slice a3 x.project.length n3, .slice a4 x.shows.length n4, .slice a5 x.exts.length n5, .slice a6 x.assume.length n6])
  (by simp [results, Tryz.results30, go_sem, hc6, hf6, hy6, hz6, hc5, hf5, hy5, hz5, hc4, hf4, hy4, hz4, hc3, hf3, hy3, hz3, hc2, hf2, hy2, hz2, hc1, hf1, hy1, hz1]) rfl ⟨_, rfl,
  own_prog (b0 := w.heap.size + 1 + 1 + 1) (b1 := w1.heap.size) (b2 := w2.heap.size) (b3 := w3.heap.size) (b4 := w4.heap.size) (b5 := w5.heap.size) (b6 := w6.heap.size) (by
   repeat (refine OwnIn.far ?_ (.inl (by simp; try omega)) _)
   exact k1) (by
   repeat (refine OwnIn.far ?_ (.inl (by simp; try omega)) _)
   exact k2) (by
   repeat (refine OwnIn.far ?_ (.inl (by simp; try omega)) _)
   exact k3) (by
   repeat (refine OwnIn.far ?_ (.inl (by simp; try omega)) _)
   exact k4) (by
   repeat (refine OwnIn.far ?_ (.inl (by simp; try omega)) _)
   exact k5) (by
   repeat (refine OwnIn.far ?_ (.inl (by simp; try omega)) _)
   exact k6) (by omega) HF.out, by
  repeat (refine Below.setCell ?_ (by simp; try omega) _)
  exact t6⟩

/-! ### LawsSz -/
/-- What a count leaves. -/
def Left (left : Int) (P : Prop) (e : Ending) : Prop := ∃ n : Int, e = .returned (.int .i64 n) ∧ -1 ≤ n ∧ n ≤ left ∧ (0 ≤ n → P)
theorem Left.no {left : Int} {P : Prop} (h : 0 ≤ left) : Left left P (.returned (.int .i64 (-1))) := ⟨-1, rfl, by omega, by omega, fun h => by omega⟩
theorem Left.yes {left n : Int} {P : Prop} (h0 : -1 ≤ n) (h1 : n ≤ left) (h : P) : Left left P (.returned (.int .i64 n)) := ⟨n, rfl, h0, h1, fun _ => h⟩

theorem szIntS_calls {v : Value} {xs : List (Int)} {w : World} (left : Int) (h : RdL w [v] xs) (h0 : 0 ≤ left) (h1 : left ≤ 1048576) :
  Calls Tryz.prog 101 #[v, .int .i64 left] w fun e w' => Left left (Sm.S xs) e ∧ w = w' := by
 obtain ⟨a, cap, rfl, _, hr⟩ := h.sl
 have hm := hr.1
 clear h hr
 by_cases hl : (xs.length : Int) ≤ left
 ·have hS : Sm.S xs := ⟨by omega, fun _ _ => trivial⟩
  have HS := Lib.hid hS
  have hd : (left - xs.length < 0) = False := by simp; omega
  have hp : 0 ≤ left - (xs.length : Int) := by omega
  clear hS hd
  go_enter Tryz.func101, Tryz.ntmps101
  go_wp2
  go_ret
  exact ⟨Left.yes (by omega) (by omega) HS.out, rfl⟩
 ·have hp : left - (xs.length : Int) < 0 := by omega
  clear hl
  go_enter Tryz.func101, Tryz.ntmps101
  go_wp2
  go_ret
  exact ⟨Left.no h0, rfl⟩

theorem szWLitS_calls {v : Value} {xs : List (Int × Int)} {w : World} (left : Int) (h : RdL w [v] xs) (h0 : 0 ≤ left) (h1 : left ≤ 1048576) :
  Calls Tryz.prog 235 #[v, .int .i64 left] w fun e w' => Left left (Sm.S xs) e ∧ w = w' := by
 obtain ⟨a, cap, rfl, _, hr⟩ := h.sl
 have hm := hr.1
 clear h hr
 by_cases hl : (xs.length : Int) ≤ left
 ·have hS : Sm.S xs := ⟨by omega, fun _ _ => trivial⟩
  have HS := Lib.hid hS
  have hd : (left - xs.length < 0) = False := by simp; omega
  have hp : 0 ≤ left - (xs.length : Int) := by omega
  clear hS hd
  go_enter Tryz.func235, Tryz.ntmps235
  go_wp2
  go_ret
  exact ⟨Left.yes (by omega) (by omega) HS.out, rfl⟩
 ·have hp : left - (xs.length : Int) < 0 := by omega
  clear hl
  go_enter Tryz.func235, Tryz.ntmps235
  go_wp2
  go_ret
  exact ⟨Left.no h0, rfl⟩

theorem szExtS_calls {v : Value} {xs : List (Int × Int)} {w : World} (left : Int) (h : RdL w [v] xs) (h0 : 0 ≤ left) (h1 : left ≤ 1048576) :
  Calls Tryz.prog 103 #[v, .int .i64 left] w fun e w' => Left left (Sm.S xs) e ∧ w = w' := by
 obtain ⟨a, cap, rfl, _, hr⟩ := h.sl
 have hm := hr.1
 clear h hr
 by_cases hl : (xs.length : Int) ≤ left
 ·have hS : Sm.S xs := ⟨by omega, fun _ _ => trivial⟩
  have HS := Lib.hid hS
  have hd : (left - xs.length < 0) = False := by simp; omega
  have hp : 0 ≤ left - (xs.length : Int) := by omega
  clear hS hd
  go_enter Tryz.func103, Tryz.ntmps103
  go_wp2
  go_ret
  exact ⟨Left.yes (by omega) (by omega) HS.out, rfl⟩
 ·have hp : left - (xs.length : Int) < 0 := by omega
  clear hl
  go_enter Tryz.func103, Tryz.ntmps103
  go_wp2
  go_ret
  exact ⟨Left.no h0, rfl⟩

set_option maxHeartbeats 400000 in
theorem szRule_calls {cs : List Value} {x : RuleD} {w : World} (left : Int) (h : Rd.R w cs x) (h0 : 0 ≤ left) (h1 : left ≤ 1048576) :
  Calls Tryz.prog 190 #[.agg cs.toArray, .int .i64 left] w fun e w' => Left left (Sm.S x) e ∧ Below w.heap.size w w' := by
 obtain ⟨c1, c4, rfl, hf, g1, g4⟩ := h
 clear hf
 have t0 : Below w.heap.size w (w.alloc (.cells #[.bool x.choice, c1, .bool x.weight, .int .i64 x.bound, c4] 210)) := (Below.refl _ _).alloc (by simp) _
 go_enter Tryz.func190, Tryz.ntmps190
 go_wp2_with fail
 refine (szIntS_calls left (Rd.mono (α := List Int) t0 g1) h0 h1).mono ?_
 rintro e w' ⟨⟨n, rfl, n0, n1, nS⟩, rfl⟩
 by_cases hn : 0 ≤ n
 ·have NS := Lib.hid (nS hn)
  clear nS
  go_wp2_with fail
  refine (szWLitS_calls n (Rd.mono (α := List (Int × Int)) t0 g4) hn (by omega)).mono ?_
  rintro e w' ⟨⟨m, rfl, m0, m1, mS⟩, rfl⟩
  by_cases hm : 0 ≤ m
  ·have MS := Lib.hid (mS hm)
   clear mS
   go_wp2
   go_ret
   exact ⟨Left.yes (by omega) (by omega) ⟨NS.out, MS.out⟩, t0⟩
  ·have hm' : m < 0 := by omega
   clear hm mS
   go_wp2
   go_ret
   exact ⟨Left.no h0, t0⟩
 ·have hn' : n < 0 := by omega
  clear hn nS
  go_wp2
  go_ret
  exact ⟨Left.no h0, t0⟩

theorem szLevel_calls {cs : List Value} {x : LevelD} {w : World} (left : Int) (h : Rd.R w cs x) (h0 : 0 ≤ left) (h1 : left ≤ 1048576) :
  Calls Tryz.prog 191 #[.agg cs.toArray, .int .i64 left] w fun e w' => Left left (Sm.S x) e ∧ Below w.heap.size w w' := by
 obtain ⟨c1, rfl, hf, g1⟩ := h
 clear hf
 have t0 : Below w.heap.size w (w.alloc (.cells #[.int .i64 x.p, c1] 213)) := (Below.refl _ _).alloc (by simp) _
 go_enter Tryz.func191, Tryz.ntmps191
 go_wp2_with fail
 refine (szWLitS_calls left (Rd.mono (α := List (Int × Int)) t0 g1) h0 h1).mono ?_
 rintro e w' ⟨⟨n, rfl, n0, n1, nS⟩, rfl⟩
 by_cases hn : 0 ≤ n
 ·have NS := Lib.hid (nS hn)
  clear nS
  go_wp2
  go_ret
  exact ⟨Left.yes (by omega) (by omega) NS.out, t0⟩
 ·have hn' : n < 0 := by omega
  clear hn nS
  go_wp2
  go_ret
  exact ⟨Left.no h0, t0⟩

theorem szShow_calls {cs : List Value} {x : ShowD} {w : World} (left : Int) (h : Rd.R w cs x) (h0 : 0 ≤ left) (h1 : left ≤ 1048576) :
  Calls Tryz.prog 192 #[.agg cs.toArray, .int .i64 left] w fun e w' => Left left (Sm.S x) e ∧ Below w.heap.size w w' := by
 obtain ⟨c1, rfl, hf, g1⟩ := h
 have t0 : Below w.heap.size w (w.alloc (.cells #[.string x.text, c1] 215)) := (Below.refl _ _).alloc (by simp) _
 by_cases hl : (x.text.size : Int) ≤ left
 ·have hp : 0 ≤ left - (x.text.size : Int) := by omega
  have HL : Hid (x.text.size ≤ 1048576) := show x.text.size ≤ 1048576 by omega
  clear hl
  go_enter Tryz.func192, Tryz.ntmps192
  go_wp2_with fail
  refine (szIntS_calls _ (Rd.mono (α := List Int) t0 g1) hp (by omega)).mono ?_
  rintro e w' ⟨⟨n, rfl, n0, n1, nS⟩, rfl⟩
  by_cases hn : 0 ≤ n
  ·have NS := Lib.hid (nS hn)
   clear nS
   go_wp2
   go_ret
   exact ⟨Left.yes (by omega) (by omega) ⟨HL.out, NS.out⟩, t0⟩
  ·have hn' : n < 0 := by omega
   clear hn nS
   go_wp2
   go_ret
   exact ⟨Left.no h0, t0⟩
 ·have hp : left - (x.text.size : Int) < 0 := by omega
  clear hl
  go_enter Tryz.func192, Tryz.ntmps192
  go_wp2
  go_ret
  exact ⟨Left.no h0, t0⟩

theorem take_all {α : Type} [Inhabited α] {P : α → Prop} {xs : List α} {k : Nat} (hk : k < xs.length) (h : ∀ x ∈ xs.take k, P x) (h1 : P (nth xs k)) : ∀ x ∈ xs.take (k + 1), P x := by
 rw [take_nth hk]
 intro x hx
 rcases List.mem_append.1 hx with hx | hx
 ·exact h x hx
 ·simp at hx; exact hx ▸ h1
theorem take_end {α : Type} {P : α → Prop} {xs : List α} {k : Nat} (hk : xs.length ≤ k) (h : ∀ x ∈ xs.take k, P x) : ∀ x ∈ xs, P x := by
 rwa [List.take_of_length_le hk] at h

set_option maxHeartbeats 1000000 in
theorem szRuleS_calls {v : Value} {xs : List (RuleD)} {w : World} (left : Int) (h : RdL w [v] xs) (h0 : 0 ≤ left) (h1 : left ≤ 1048576) :
  Calls Tryz.prog 99 #[v, .int .i64 left] w fun e w' => Left left (Sm.S xs) e ∧ Below w.heap.size w w' := by
 obtain ⟨a, cap, rfl, _, h⟩ := h.sl
 have hm := h.1
 by_cases hl : (xs.length : Int) ≤ left
 ·have hp : 0 ≤ left - (xs.length : Int) := by omega
  have HL : Hid (xs.length ≤ 1048576) := show xs.length ≤ 1048576 by omega
  by_cases hne : 0 < xs.length
  ·obtain ⟨b, off, rfl, hc⟩ := h.base hne
   have HC := Lib.hid hc
   clear h hc
   go_enter Tryz.func99, Tryz.ntmps99
   go_wp2
   go_loopw [1, 5] (fun l i wr => ∃ (k : Nat) (n : Int), k ≤ xs.length ∧ i = .int .i64 k ∧ l = .int .i64 n ∧ 0 ≤ n ∧ n ≤ left ∧ Hid (∀ x ∈ xs.take k, Sm.S x) ∧ Below w.heap.size w wr) (fun _ i _ => xs.length - (intOf i).toNat)
   case atStart => exact ⟨0, _, Nat.zero_le _, rfl, rfl, hp, by omega, show ∀ x ∈ xs.take 0, Sm.S x by simp, Below.refl _ _⟩
   case round =>
    obtain ⟨k, n, hk, rfl, rfl, n0, n1, HS, hb⟩ := hrel
    by_cases hlt : k < xs.length
    ·obtain ⟨ecs, hC, hR⟩ := HC.out k hlt
     have hR := Rd.mono hb hR
     have hC := hC.later hb
     obtain ⟨e0, e1, e2, e3, e4, rfl⟩ := list5 (Rd.len hR)
     have u0 : wr.cell? ⟨b, off + k * 5, none⟩ = some e0 := hC.c0
     have u1 : wr.cell? ⟨b, off + k * 5+ 1, none⟩ = some e1 := hC.c1
     have u2 : wr.cell? ⟨b, off + k * 5+ 2, none⟩ = some e2 := hC.c2
     have u3 : wr.cell? ⟨b, off + k * 5+ 3, none⟩ = some e3 := hC.c3
     have u4 : wr.cell? ⟨b, off + k * 5+ 4, none⟩ = some e4 := hC.c4
     clear hC
     go_wp2_with fail
     refine (szRule_calls n hR n0 (by omega)).mono ?_
     rintro e w2 ⟨⟨m, rfl, m0, m1, mS⟩, hb2⟩
     have hbe : Below w.heap.size w w2 := hb.step hb2
     clear hR hb2
     by_cases hm : 0 ≤ m
     ·have MS : Hid (∀ x ∈ xs.take (k + 1), Sm.S x) := take_all hlt HS.out (mS hm)
      clear mS HS
      go_wp2
      go_roundw
      case rel => exact ⟨k + 1, m, by omega, by go_num, rfl, hm, by omega, MS, hbe⟩
      case measure => simp [intOf]; omega
     ·have hm' : m < 0 := by omega
      clear hm mS
      go_wp2
      go_ret
      exact ⟨Left.no h0, hbe⟩
    ·have HS' : Hid (∀ x ∈ xs, Sm.S x) := take_end (by omega) HS.out
     clear HS
     go_wp2
     go_ret
     exact ⟨Left.yes (by omega) n1 ⟨HL.out, HS'.out⟩, hb⟩
  ·have : xs = [] := by cases xs <;> simp_all
   subst this
   clear h hne
   go_enter Tryz.func99, Tryz.ntmps99
   go_wp2
   refine wp_loop_rounds 1 ?_
   rw [rounds_succ]
   go_wp2
   go_ret
   exact ⟨Left.yes (by first | omega | simp) (by first | omega | simp) ⟨by simp, by simp⟩, Below.refl _ _⟩
 ·have hp : left - (xs.length : Int) < 0 := by omega
  clear hl
  go_enter Tryz.func99, Tryz.ntmps99
  go_wp2
  go_ret
  exact ⟨Left.no h0, Below.refl _ _⟩

set_option maxHeartbeats 1000000 in
theorem szLevelS_calls {v : Value} {xs : List (LevelD)} {w : World} (left : Int) (h : RdL w [v] xs) (h0 : 0 ≤ left) (h1 : left ≤ 1048576) :
  Calls Tryz.prog 100 #[v, .int .i64 left] w fun e w' => Left left (Sm.S xs) e ∧ Below w.heap.size w w' := by
 obtain ⟨a, cap, rfl, _, h⟩ := h.sl
 have hm := h.1
 by_cases hl : (xs.length : Int) ≤ left
 ·have hp : 0 ≤ left - (xs.length : Int) := by omega
  have HL : Hid (xs.length ≤ 1048576) := show xs.length ≤ 1048576 by omega
  by_cases hne : 0 < xs.length
  ·obtain ⟨b, off, rfl, hc⟩ := h.base hne
   have HC := Lib.hid hc
   clear h hc
   go_enter Tryz.func100, Tryz.ntmps100
   go_wp2
   go_loopw [1, 5] (fun l i wr => ∃ (k : Nat) (n : Int), k ≤ xs.length ∧ i = .int .i64 k ∧ l = .int .i64 n ∧ 0 ≤ n ∧ n ≤ left ∧ Hid (∀ x ∈ xs.take k, Sm.S x) ∧ Below w.heap.size w wr) (fun _ i _ => xs.length - (intOf i).toNat)
   case atStart => exact ⟨0, _, Nat.zero_le _, rfl, rfl, hp, by omega, show ∀ x ∈ xs.take 0, Sm.S x by simp, Below.refl _ _⟩
   case round =>
    obtain ⟨k, n, hk, rfl, rfl, n0, n1, HS, hb⟩ := hrel
    by_cases hlt : k < xs.length
    ·obtain ⟨ecs, hC, hR⟩ := HC.out k hlt
     have hR := Rd.mono hb hR
     have hC := hC.later hb
     obtain ⟨e0, e1, rfl⟩ := list2 (Rd.len hR)
     have u0 : wr.cell? ⟨b, off + k * 2, none⟩ = some e0 := hC.c0
     have u1 : wr.cell? ⟨b, off + k * 2+ 1, none⟩ = some e1 := hC.c1
     clear hC
     go_wp2_with fail
     refine (szLevel_calls n hR n0 (by omega)).mono ?_
     rintro e w2 ⟨⟨m, rfl, m0, m1, mS⟩, hb2⟩
     have hbe : Below w.heap.size w w2 := hb.step hb2
     clear hR hb2
     by_cases hm : 0 ≤ m
     ·have MS : Hid (∀ x ∈ xs.take (k + 1), Sm.S x) := take_all hlt HS.out (mS hm)
      clear mS HS
      go_wp2
      go_roundw
      case rel => exact ⟨k + 1, m, by omega, by go_num, rfl, hm, by omega, MS, hbe⟩
      case measure => simp [intOf]; omega
     ·have hm' : m < 0 := by omega
      clear hm mS
      go_wp2
      go_ret
      exact ⟨Left.no h0, hbe⟩
    ·have HS' : Hid (∀ x ∈ xs, Sm.S x) := take_end (by omega) HS.out
     clear HS
     go_wp2
     go_ret
     exact ⟨Left.yes (by omega) n1 ⟨HL.out, HS'.out⟩, hb⟩
  ·have : xs = [] := by cases xs <;> simp_all
   subst this
   clear h hne
   go_enter Tryz.func100, Tryz.ntmps100
   go_wp2
   refine wp_loop_rounds 1 ?_
   rw [rounds_succ]
   go_wp2
   go_ret
   exact ⟨Left.yes (by first | omega | simp) (by first | omega | simp) ⟨by simp, by simp⟩, Below.refl _ _⟩
 ·have hp : left - (xs.length : Int) < 0 := by omega
  clear hl
  go_enter Tryz.func100, Tryz.ntmps100
  go_wp2
  go_ret
  exact ⟨Left.no h0, Below.refl _ _⟩

set_option maxHeartbeats 1000000 in
theorem szShowS_calls {v : Value} {xs : List (ShowD)} {w : World} (left : Int) (h : RdL w [v] xs) (h0 : 0 ≤ left) (h1 : left ≤ 1048576) :
  Calls Tryz.prog 102 #[v, .int .i64 left] w fun e w' => Left left (Sm.S xs) e ∧ Below w.heap.size w w' := by
 obtain ⟨a, cap, rfl, _, h⟩ := h.sl
 have hm := h.1
 by_cases hl : (xs.length : Int) ≤ left
 ·have hp : 0 ≤ left - (xs.length : Int) := by omega
  have HL : Hid (xs.length ≤ 1048576) := show xs.length ≤ 1048576 by omega
  by_cases hne : 0 < xs.length
  ·obtain ⟨b, off, rfl, hc⟩ := h.base hne
   have HC := Lib.hid hc
   clear h hc
   go_enter Tryz.func102, Tryz.ntmps102
   go_wp2
   go_loopw [1, 5] (fun l i wr => ∃ (k : Nat) (n : Int), k ≤ xs.length ∧ i = .int .i64 k ∧ l = .int .i64 n ∧ 0 ≤ n ∧ n ≤ left ∧ Hid (∀ x ∈ xs.take k, Sm.S x) ∧ Below w.heap.size w wr) (fun _ i _ => xs.length - (intOf i).toNat)
   case atStart => exact ⟨0, _, Nat.zero_le _, rfl, rfl, hp, by omega, show ∀ x ∈ xs.take 0, Sm.S x by simp, Below.refl _ _⟩
   case round =>
    obtain ⟨k, n, hk, rfl, rfl, n0, n1, HS, hb⟩ := hrel
    by_cases hlt : k < xs.length
    ·obtain ⟨ecs, hC, hR⟩ := HC.out k hlt
     have hR := Rd.mono hb hR
     have hC := hC.later hb
     obtain ⟨e0, e1, rfl⟩ := list2 (Rd.len hR)
     have u0 : wr.cell? ⟨b, off + k * 2, none⟩ = some e0 := hC.c0
     have u1 : wr.cell? ⟨b, off + k * 2+ 1, none⟩ = some e1 := hC.c1
     clear hC
     go_wp2_with fail
     refine (szShow_calls n hR n0 (by omega)).mono ?_
     rintro e w2 ⟨⟨m, rfl, m0, m1, mS⟩, hb2⟩
     have hbe : Below w.heap.size w w2 := hb.step hb2
     clear hR hb2
     by_cases hm : 0 ≤ m
     ·have MS : Hid (∀ x ∈ xs.take (k + 1), Sm.S x) := take_all hlt HS.out (mS hm)
      clear mS HS
      go_wp2
      go_roundw
      case rel => exact ⟨k + 1, m, by omega, by go_num, rfl, hm, by omega, MS, hbe⟩
      case measure => simp [intOf]; omega
     ·have hm' : m < 0 := by omega
      clear hm mS
      go_wp2
      go_ret
      exact ⟨Left.no h0, hbe⟩
    ·have HS' : Hid (∀ x ∈ xs, Sm.S x) := take_end (by omega) HS.out
     clear HS
     go_wp2
     go_ret
     exact ⟨Left.yes (by omega) n1 ⟨HL.out, HS'.out⟩, hb⟩
  ·have : xs = [] := by cases xs <;> simp_all
   subst this
   clear h hne
   go_enter Tryz.func102, Tryz.ntmps102
   go_wp2
   refine wp_loop_rounds 1 ?_
   rw [rounds_succ]
   go_wp2
   go_ret
   exact ⟨Left.yes (by first | omega | simp) (by first | omega | simp) ⟨by simp, by simp⟩, Below.refl _ _⟩
 ·have hp : left - (xs.length : Int) < 0 := by omega
  clear hl
  go_enter Tryz.func102, Tryz.ntmps102
  go_wp2
  go_ret
  exact ⟨Left.no h0, Below.refl _ _⟩

set_option maxHeartbeats 1000000 in
theorem szProg_calls {cs : List Value} {x : ProgD} {w : World} (left : Int) (h : Rd.R w cs x) (h0 : 0 ≤ left) (h1 : left ≤ 1048576) :
  Calls Tryz.prog 28 #[.agg cs.toArray, .int .i64 left] w fun e w' => Left left (Sm.S x) e ∧ Below w.heap.size w w' := by
 obtain ⟨c1, c2, c4, c5, c6, c7, rfl, hf, g1, g2, g4, g5, g6, g7⟩ := h
 clear hf
 have t0 : Below w.heap.size w (w.alloc (.cells #[.int .i64 x.atoms, c1, c2, .bool x.projOn, c4, c5, c6, c7] 59)) := (Below.refl _ _).alloc (by simp) _
 obtain ⟨n0, hn0⟩ : ∃ n : Int, n = left := ⟨_, rfl⟩
 subst hn0
 have n00 := h0
 go_enter Tryz.func28, Tryz.ntmps28
 go_wp2_with fail
 refine (szRuleS_calls n0 (Rd.mono (α := List (RuleD)) t0 g1) n00 (by omega)).mono ?_
 rintro e w1 ⟨⟨n1, rfl, _, m1, q1⟩, b1⟩
 have hx1 : w.heap.size < w1.heap.size := by have := b1.size; (try simp at this); omega
 have t1 := t0.step b1
 obtain ⟨hc1, hf1⟩ := bcell b1
 by_cases n01 : 0 ≤ n1
 case neg =>
  have n1 : n1 < 0 := by omega
  clear n01 q1
  go_wp2
  go_ret
  exact ⟨Left.no h0, t1⟩
 have s1 := Lib.hid (q1 n01)
 clear q1
 go_wp2_with fail
 refine (szLevelS_calls n1 (Rd.mono (α := List (LevelD)) t1 g2) n01 (by omega)).mono ?_
 rintro e w2 ⟨⟨n2, rfl, _, m2, q2⟩, b2⟩
 have hx2 : w.heap.size < w2.heap.size := by have := b2.size; (try simp at this); omega
 have t2 := t1.step b2
 obtain ⟨hc2, hf2⟩ := bcell b2
 by_cases n02 : 0 ≤ n2
 case neg =>
  have n1 : n2 < 0 := by omega
  clear n02 q2
  go_wp2
  go_ret
  exact ⟨Left.no h0, t2⟩
 have s2 := Lib.hid (q2 n02)
 clear q2
 go_wp2_with fail
 refine (szIntS_calls n2 (Rd.mono (α := List (Int)) t2 g4) n02 (by omega)).mono ?_
 rintro e w' ⟨⟨n3, rfl, _, m3, q3⟩, rfl⟩
 by_cases n03 : 0 ≤ n3
 case neg =>
  have n1 : n3 < 0 := by omega
  clear n03 q3
  go_wp2
  go_ret
  exact ⟨Left.no h0, t2⟩
 have s3 := Lib.hid (q3 n03)
 clear q3
 go_wp2_with fail
 refine (szShowS_calls n3 (Rd.mono (α := List (ShowD)) t2 g5) n03 (by omega)).mono ?_
 rintro e w4 ⟨⟨n4, rfl, _, m4, q4⟩, b4⟩
 have hx4 : w.heap.size < w4.heap.size := by have := b4.size; (try simp at this); omega
 have t4 := t2.step b4
 obtain ⟨hc4, hf4⟩ := bcell b4
 by_cases n04 : 0 ≤ n4
 case neg =>
  have n1 : n4 < 0 := by omega
  clear n04 q4
  go_wp2
  go_ret
  exact ⟨Left.no h0, t4⟩
 have s4 := Lib.hid (q4 n04)
 clear q4
 go_wp2_with fail
 refine (szExtS_calls n4 (Rd.mono (α := List (Int × Int)) t4 g6) n04 (by omega)).mono ?_
 rintro e w' ⟨⟨n5, rfl, _, m5, q5⟩, rfl⟩
 by_cases n05 : 0 ≤ n5
 case neg =>
  have n1 : n5 < 0 := by omega
  clear n05 q5
  go_wp2
  go_ret
  exact ⟨Left.no h0, t4⟩
 have s5 := Lib.hid (q5 n05)
 clear q5
 go_wp2_with fail
 refine (szIntS_calls n5 (Rd.mono (α := List (Int)) t4 g7) n05 (by omega)).mono ?_
 rintro e w' ⟨⟨n6, rfl, _, m6, q6⟩, rfl⟩
 by_cases n06 : 0 ≤ n6
 case neg =>
  have n1 : n6 < 0 := by omega
  clear n06 q6
  go_wp2
  go_ret
  exact ⟨Left.no h0, t4⟩
 have s6 := Lib.hid (q6 n06)
 clear q6
 go_wp2
 go_ret
 exact ⟨Left.yes (by omega) (by omega) ⟨s1.out, s2.out, s3.out, s4.out, s5.out, s6.out⟩, t4⟩

/-! ### LawsEq -/
theorem eqIntSR_calls {v v' : Value} {xs : List Int} {w : World} (h : RdL w [v] xs) (h' : RdL w [v'] xs) :
  Calls Tryz.prog 34 #[v, v'] w fun e w' => e = .returned (.bool true) ∧ Below w.heap.size w w' := by
 obtain ⟨a, cap, rfl, _, hr⟩ := h.sl
 obtain ⟨a', cap', rfl, _, hr'⟩ := h'.sl
 have := eqIntS_calls a a' xs xs cap cap' w hr.ints hr'.ints
 rw [eqB_self] at this
 exact this

set_option maxHeartbeats 400000 in
theorem eqWLit_calls {cs cs' : List Value} {x : Int × Int} {w : World} (h : Rd.R w cs x) (h' : Rd.R w cs' x) :
  Calls Tryz.prog 266 #[.agg cs.toArray, .agg cs'.toArray] w fun e w' => e = .returned (.bool true) ∧ Below w.heap.size w w' := by
 obtain ⟨rfl, hf⟩ := h
 obtain ⟨rfl, _⟩ := h'
 clear hf
 go_enter Tryz.func266, Tryz.ntmps266
 go_wp2
 go_ret
 exact ⟨rfl, ((Below.refl _ _).alloc (by simp) _).alloc (by simp) _⟩

set_option maxHeartbeats 400000 in
theorem eqExt_calls {cs cs' : List Value} {x : Int × Int} {w : World} (h : Rd.R w cs x) (h' : Rd.R w cs' x) :
  Calls Tryz.prog 204 #[.agg cs.toArray, .agg cs'.toArray] w fun e w' => e = .returned (.bool true) ∧ Below w.heap.size w w' := by
 obtain ⟨rfl, hf⟩ := h
 obtain ⟨rfl, _⟩ := h'
 clear hf
 go_enter Tryz.func204, Tryz.ntmps204
 go_wp2
 go_ret
 exact ⟨rfl, ((Below.refl _ _).alloc (by simp) _).alloc (by simp) _⟩

set_option maxHeartbeats 1000000 in
theorem eqWLitS_calls {v v' : Value} {xs : List (Int × Int)} {w : World} (h : RdL w [v] xs) (h' : RdL w [v'] xs) :
  Calls Tryz.prog 240 #[v, v'] w fun e w' => e = .returned (.bool true) ∧ Below w.heap.size w w' := by
 obtain ⟨a, cap, rfl, _, h⟩ := h.sl
 obtain ⟨a', cap', rfl, _, h'⟩ := h'.sl
 have hm := h.1
 by_cases hne : 0 < xs.length
 ·obtain ⟨b, off, rfl, hc⟩ := h.base hne
  obtain ⟨b', off', rfl, hc'⟩ := h'.base hne
  have HC := Lib.hid hc
  have HC' := Lib.hid hc'
  clear h hc h' hc'
  go_enter Tryz.func240, Tryz.ntmps240
  go_wp2
  go_loopw [5] (fun i wr => ∃ k : Nat, k ≤ xs.length ∧ i = .int .i64 k ∧ Below w.heap.size w wr) (fun i _ => xs.length - (intOf i).toNat)
  case atStart => exact ⟨0, Nat.zero_le _, rfl, Below.refl _ _⟩
  case round =>
   obtain ⟨k, hk, rfl, hb⟩ := hrel
   by_cases hlt : k < xs.length
   ·obtain ⟨ecs, hC, hR⟩ := HC.out k hlt
    obtain ⟨ecs', hC', hR'⟩ := HC'.out k hlt
    have hR := Rd.mono hb hR
    have hR' := Rd.mono hb hR'
    have hC := hC.later hb
    have hC' := hC'.later hb
    obtain ⟨e0, e1, rfl⟩ := list2 (Rd.len hR)
    obtain ⟨f0, f1, rfl⟩ := list2 (Rd.len hR')
    have u0 : wr.cell? ⟨b, off + k * 2, none⟩ = some e0 := hC.c0
    have v0 : wr.cell? ⟨b', off' + k * 2, none⟩ = some f0 := hC'.c0
    have u1 : wr.cell? ⟨b, off + k * 2+ 1, none⟩ = some e1 := hC.c1
    have v1 : wr.cell? ⟨b', off' + k * 2+ 1, none⟩ = some f1 := hC'.c1
    clear hC hC'
    go_wp2
    go_still_tail 8, (by kernel_rfl)
    go_wp2_with fail
    refine (eqWLit_calls (Rd.mono (by first | exact (Below.refl _ _).drew | exact below_drewN (Below.refl _ _) _) hR) (Rd.mono (by first | exact (Below.refl _ _).drew | exact below_drewN (Below.refl _ _) _) hR')).mono ?_
    rintro e w2 ⟨rfl, hb2⟩
    have hbe : Below w.heap.size w w2 := (show Below w.heap.size w _ by first | exact hb.drew | exact below_drewN hb _).step hb2
    clear hR hR' hb2
    go_wp2
    go_roundw
    case rel => exact ⟨k + 1, by omega, by go_num, hbe⟩
    case measure => simp [intOf]; omega
   ·go_wp2
    go_ret
    exact ⟨rfl, hb⟩
 ·have : xs = [] := by cases xs <;> simp_all
  subst this
  clear h h' hne
  go_enter Tryz.func240, Tryz.ntmps240
  go_wp2
  refine wp_loop_rounds 1 ?_
  rw [rounds_succ]
  go_wp2
  go_ret
  exact ⟨rfl, Below.refl _ _⟩


set_option maxHeartbeats 400000 in
theorem eqRule_calls {cs cs' : List Value} {x : RuleD} {w : World} (h : Rd.R w cs x) (h' : Rd.R w cs' x) :
  Calls Tryz.prog 201 #[.agg cs.toArray, .agg cs'.toArray] w fun e w' => e = .returned (.bool true) ∧ Below w.heap.size w w' := by
 obtain ⟨c1, c4, rfl, hf, h1, h4⟩ := h
 obtain ⟨d1, d4, rfl, _, h1', h4'⟩ := h'
 clear hf
 have t0 : Below w.heap.size w ((w.alloc (.cells #[.bool x.choice, c1, .bool x.weight, .int .i64 x.bound, c4] 34)).alloc (.cells #[.bool x.choice, d1, .bool x.weight, .int .i64 x.bound, d4] 34)) := ((Below.refl _ _).alloc (by simp) _).alloc (by simp) _
 go_enter Tryz.func201, Tryz.ntmps201
 go_wp2_with fail
 refine (eqIntSR_calls (Rd.mono (α := List (Int)) t0 h1) (Rd.mono (α := List (Int)) t0 h1')).mono ?_
 rintro e w1 ⟨rfl, b1⟩
 have hz1 : w.heap.size + 1 < w1.heap.size := by have := b1.size; (try simp at this); omega
 have hx1 : w.heap.size < w1.heap.size := by omega
 have t1 := t0.step b1
 obtain ⟨hc1, hf1⟩ := bcell b1
 go_wp2_with fail
 refine (eqWLitS_calls (Rd.mono (α := List (Int × Int)) t1 h4) (Rd.mono (α := List (Int × Int)) t1 h4')).mono ?_
 rintro e w2 ⟨rfl, b2⟩
 have hz2 : w.heap.size + 1 < w2.heap.size := by have := b2.size; (try simp at this); omega
 have hx2 : w.heap.size < w2.heap.size := by omega
 have t2 := t1.step b2
 obtain ⟨hc2, hf2⟩ := bcell b2
 go_wp2_with fail
 go_ret
 exact ⟨rfl, t2⟩

set_option maxHeartbeats 400000 in
theorem eqLevel_calls {cs cs' : List Value} {x : LevelD} {w : World} (h : Rd.R w cs x) (h' : Rd.R w cs' x) :
  Calls Tryz.prog 202 #[.agg cs.toArray, .agg cs'.toArray] w fun e w' => e = .returned (.bool true) ∧ Below w.heap.size w w' := by
 obtain ⟨c1, rfl, hf, h1⟩ := h
 obtain ⟨d1, rfl, _, h1'⟩ := h'
 clear hf
 have t0 : Below w.heap.size w ((w.alloc (.cells #[.int .i64 x.p, c1] 182)).alloc (.cells #[.int .i64 x.p, d1] 182)) := ((Below.refl _ _).alloc (by simp) _).alloc (by simp) _
 go_enter Tryz.func202, Tryz.ntmps202
 go_wp2_with fail
 refine (eqWLitS_calls (Rd.mono (α := List (Int × Int)) t0 h1) (Rd.mono (α := List (Int × Int)) t0 h1')).mono ?_
 rintro e w1 ⟨rfl, b1⟩
 have hz1 : w.heap.size + 1 < w1.heap.size := by have := b1.size; (try simp at this); omega
 have hx1 : w.heap.size < w1.heap.size := by omega
 have t1 := t0.step b1
 obtain ⟨hc1, hf1⟩ := bcell b1
 go_wp2_with fail
 go_ret
 exact ⟨rfl, t1⟩

set_option maxHeartbeats 400000 in
theorem eqShow_calls {cs cs' : List Value} {x : ShowD} {w : World} (h : Rd.R w cs x) (h' : Rd.R w cs' x) :
  Calls Tryz.prog 203 #[.agg cs.toArray, .agg cs'.toArray] w fun e w' => e = .returned (.bool true) ∧ Below w.heap.size w w' := by
 obtain ⟨c1, rfl, hf, h1⟩ := h
 obtain ⟨d1, rfl, _, h1'⟩ := h'
 clear hf
 have t0 : Below w.heap.size w ((w.alloc (.cells #[.string x.text, c1] 185)).alloc (.cells #[.string x.text, d1] 185)) := ((Below.refl _ _).alloc (by simp) _).alloc (by simp) _
 go_enter Tryz.func203, Tryz.ntmps203
 go_wp2_with fail
 refine (eqIntSR_calls (Rd.mono (α := List (Int)) t0 h1) (Rd.mono (α := List (Int)) t0 h1')).mono ?_
 rintro e w1 ⟨rfl, b1⟩
 have hz1 : w.heap.size + 1 < w1.heap.size := by have := b1.size; (try simp at this); omega
 have hx1 : w.heap.size < w1.heap.size := by omega
 have t1 := t0.step b1
 obtain ⟨hc1, hf1⟩ := bcell b1
 go_wp2_with fail
 go_ret
 exact ⟨rfl, t1⟩


set_option maxHeartbeats 1000000 in
theorem eqExtS_calls {v v' : Value} {xs : List (Int × Int)} {w : World} (h : RdL w [v] xs) (h' : RdL w [v'] xs) :
  Calls Tryz.prog 116 #[v, v'] w fun e w' => e = .returned (.bool true) ∧ Below w.heap.size w w' := by
 obtain ⟨a, cap, rfl, _, h⟩ := h.sl
 obtain ⟨a', cap', rfl, _, h'⟩ := h'.sl
 have hm := h.1
 by_cases hne : 0 < xs.length
 ·obtain ⟨b, off, rfl, hc⟩ := h.base hne
  obtain ⟨b', off', rfl, hc'⟩ := h'.base hne
  have HC := Lib.hid hc
  have HC' := Lib.hid hc'
  clear h hc h' hc'
  go_enter Tryz.func116, Tryz.ntmps116
  go_wp2
  go_loopw [5] (fun i wr => ∃ k : Nat, k ≤ xs.length ∧ i = .int .i64 k ∧ Below w.heap.size w wr) (fun i _ => xs.length - (intOf i).toNat)
  case atStart => exact ⟨0, Nat.zero_le _, rfl, Below.refl _ _⟩
  case round =>
   obtain ⟨k, hk, rfl, hb⟩ := hrel
   by_cases hlt : k < xs.length
   ·obtain ⟨ecs, hC, hR⟩ := HC.out k hlt
    obtain ⟨ecs', hC', hR'⟩ := HC'.out k hlt
    have hR := Rd.mono hb hR
    have hR' := Rd.mono hb hR'
    have hC := hC.later hb
    have hC' := hC'.later hb
    obtain ⟨e0, e1, rfl⟩ := list2 (Rd.len hR)
    obtain ⟨f0, f1, rfl⟩ := list2 (Rd.len hR')
    have u0 : wr.cell? ⟨b, off + k * 2, none⟩ = some e0 := hC.c0
    have v0 : wr.cell? ⟨b', off' + k * 2, none⟩ = some f0 := hC'.c0
    have u1 : wr.cell? ⟨b, off + k * 2+ 1, none⟩ = some e1 := hC.c1
    have v1 : wr.cell? ⟨b', off' + k * 2+ 1, none⟩ = some f1 := hC'.c1
    clear hC hC'
    go_wp2
    go_still_tail 8, (by kernel_rfl)
    go_wp2_with fail
    refine (eqExt_calls (Rd.mono (by first | exact (Below.refl _ _).drew | exact below_drewN (Below.refl _ _) _) hR) (Rd.mono (by first | exact (Below.refl _ _).drew | exact below_drewN (Below.refl _ _) _) hR')).mono ?_
    rintro e w2 ⟨rfl, hb2⟩
    have hbe : Below w.heap.size w w2 := (show Below w.heap.size w _ by first | exact hb.drew | exact below_drewN hb _).step hb2
    clear hR hR' hb2
    go_wp2
    go_roundw
    case rel => exact ⟨k + 1, by omega, by go_num, hbe⟩
    case measure => simp [intOf]; omega
   ·go_wp2
    go_ret
    exact ⟨rfl, hb⟩
 ·have : xs = [] := by cases xs <;> simp_all
  subst this
  clear h h' hne
  go_enter Tryz.func116, Tryz.ntmps116
  go_wp2
  refine wp_loop_rounds 1 ?_
  rw [rounds_succ]
  go_wp2
  go_ret
  exact ⟨rfl, Below.refl _ _⟩

set_option maxHeartbeats 1000000 in
theorem eqLevelS_calls {v v' : Value} {xs : List (LevelD)} {w : World} (h : RdL w [v] xs) (h' : RdL w [v'] xs) :
  Calls Tryz.prog 114 #[v, v'] w fun e w' => e = .returned (.bool true) ∧ Below w.heap.size w w' := by
 obtain ⟨a, cap, rfl, _, h⟩ := h.sl
 obtain ⟨a', cap', rfl, _, h'⟩ := h'.sl
 have hm := h.1
 by_cases hne : 0 < xs.length
 ·obtain ⟨b, off, rfl, hc⟩ := h.base hne
  obtain ⟨b', off', rfl, hc'⟩ := h'.base hne
  have HC := Lib.hid hc
  have HC' := Lib.hid hc'
  clear h hc h' hc'
  go_enter Tryz.func114, Tryz.ntmps114
  go_wp2
  go_loopw [5] (fun i wr => ∃ k : Nat, k ≤ xs.length ∧ i = .int .i64 k ∧ Below w.heap.size w wr) (fun i _ => xs.length - (intOf i).toNat)
  case atStart => exact ⟨0, Nat.zero_le _, rfl, Below.refl _ _⟩
  case round =>
   obtain ⟨k, hk, rfl, hb⟩ := hrel
   by_cases hlt : k < xs.length
   ·obtain ⟨ecs, hC, hR⟩ := HC.out k hlt
    obtain ⟨ecs', hC', hR'⟩ := HC'.out k hlt
    have hR := Rd.mono hb hR
    have hR' := Rd.mono hb hR'
    have hC := hC.later hb
    have hC' := hC'.later hb
    obtain ⟨e0, e1, rfl⟩ := list2 (Rd.len hR)
    obtain ⟨f0, f1, rfl⟩ := list2 (Rd.len hR')
    have u0 : wr.cell? ⟨b, off + k * 2, none⟩ = some e0 := hC.c0
    have v0 : wr.cell? ⟨b', off' + k * 2, none⟩ = some f0 := hC'.c0
    have u1 : wr.cell? ⟨b, off + k * 2+ 1, none⟩ = some e1 := hC.c1
    have v1 : wr.cell? ⟨b', off' + k * 2+ 1, none⟩ = some f1 := hC'.c1
    clear hC hC'
    go_wp2
    go_still_tail 8, (by kernel_rfl)
    go_wp2_with fail
    refine (eqLevel_calls (Rd.mono (by first | exact (Below.refl _ _).drew | exact below_drewN (Below.refl _ _) _) hR) (Rd.mono (by first | exact (Below.refl _ _).drew | exact below_drewN (Below.refl _ _) _) hR')).mono ?_
    rintro e w2 ⟨rfl, hb2⟩
    have hbe : Below w.heap.size w w2 := (show Below w.heap.size w _ by first | exact hb.drew | exact below_drewN hb _).step hb2
    clear hR hR' hb2
    go_wp2
    go_roundw
    case rel => exact ⟨k + 1, by omega, by go_num, hbe⟩
    case measure => simp [intOf]; omega
   ·go_wp2
    go_ret
    exact ⟨rfl, hb⟩
 ·have : xs = [] := by cases xs <;> simp_all
  subst this
  clear h h' hne
  go_enter Tryz.func114, Tryz.ntmps114
  go_wp2
  refine wp_loop_rounds 1 ?_
  rw [rounds_succ]
  go_wp2
  go_ret
  exact ⟨rfl, Below.refl _ _⟩

set_option maxHeartbeats 1000000 in
theorem eqShowS_calls {v v' : Value} {xs : List (ShowD)} {w : World} (h : RdL w [v] xs) (h' : RdL w [v'] xs) :
  Calls Tryz.prog 115 #[v, v'] w fun e w' => e = .returned (.bool true) ∧ Below w.heap.size w w' := by
 obtain ⟨a, cap, rfl, _, h⟩ := h.sl
 obtain ⟨a', cap', rfl, _, h'⟩ := h'.sl
 have hm := h.1
 by_cases hne : 0 < xs.length
 ·obtain ⟨b, off, rfl, hc⟩ := h.base hne
  obtain ⟨b', off', rfl, hc'⟩ := h'.base hne
  have HC := Lib.hid hc
  have HC' := Lib.hid hc'
  clear h hc h' hc'
  go_enter Tryz.func115, Tryz.ntmps115
  go_wp2
  go_loopw [5] (fun i wr => ∃ k : Nat, k ≤ xs.length ∧ i = .int .i64 k ∧ Below w.heap.size w wr) (fun i _ => xs.length - (intOf i).toNat)
  case atStart => exact ⟨0, Nat.zero_le _, rfl, Below.refl _ _⟩
  case round =>
   obtain ⟨k, hk, rfl, hb⟩ := hrel
   by_cases hlt : k < xs.length
   ·obtain ⟨ecs, hC, hR⟩ := HC.out k hlt
    obtain ⟨ecs', hC', hR'⟩ := HC'.out k hlt
    have hR := Rd.mono hb hR
    have hR' := Rd.mono hb hR'
    have hC := hC.later hb
    have hC' := hC'.later hb
    obtain ⟨e0, e1, rfl⟩ := list2 (Rd.len hR)
    obtain ⟨f0, f1, rfl⟩ := list2 (Rd.len hR')
    have u0 : wr.cell? ⟨b, off + k * 2, none⟩ = some e0 := hC.c0
    have v0 : wr.cell? ⟨b', off' + k * 2, none⟩ = some f0 := hC'.c0
    have u1 : wr.cell? ⟨b, off + k * 2+ 1, none⟩ = some e1 := hC.c1
    have v1 : wr.cell? ⟨b', off' + k * 2+ 1, none⟩ = some f1 := hC'.c1
    clear hC hC'
    go_wp2
    go_still_tail 8, (by kernel_rfl)
    go_wp2_with fail
    refine (eqShow_calls (Rd.mono (by first | exact (Below.refl _ _).drew | exact below_drewN (Below.refl _ _) _) hR) (Rd.mono (by first | exact (Below.refl _ _).drew | exact below_drewN (Below.refl _ _) _) hR')).mono ?_
    rintro e w2 ⟨rfl, hb2⟩
    have hbe : Below w.heap.size w w2 := (show Below w.heap.size w _ by first | exact hb.drew | exact below_drewN hb _).step hb2
    clear hR hR' hb2
    go_wp2
    go_roundw
    case rel => exact ⟨k + 1, by omega, by go_num, hbe⟩
    case measure => simp [intOf]; omega
   ·go_wp2
    go_ret
    exact ⟨rfl, hb⟩
 ·have : xs = [] := by cases xs <;> simp_all
  subst this
  clear h h' hne
  go_enter Tryz.func115, Tryz.ntmps115
  go_wp2
  refine wp_loop_rounds 1 ?_
  rw [rounds_succ]
  go_wp2
  go_ret
  exact ⟨rfl, Below.refl _ _⟩

set_option maxHeartbeats 1000000 in
theorem eqRuleS_calls {v v' : Value} {xs : List (RuleD)} {w : World} (h : RdL w [v] xs) (h' : RdL w [v'] xs) :
  Calls Tryz.prog 113 #[v, v'] w fun e w' => e = .returned (.bool true) ∧ Below w.heap.size w w' := by
 obtain ⟨a, cap, rfl, _, h⟩ := h.sl
 obtain ⟨a', cap', rfl, _, h'⟩ := h'.sl
 have hm := h.1
 by_cases hne : 0 < xs.length
 ·obtain ⟨b, off, rfl, hc⟩ := h.base hne
  obtain ⟨b', off', rfl, hc'⟩ := h'.base hne
  have HC := Lib.hid hc
  have HC' := Lib.hid hc'
  clear h hc h' hc'
  go_enter Tryz.func113, Tryz.ntmps113
  go_wp2
  go_loopw [5] (fun i wr => ∃ k : Nat, k ≤ xs.length ∧ i = .int .i64 k ∧ Below w.heap.size w wr) (fun i _ => xs.length - (intOf i).toNat)
  case atStart => exact ⟨0, Nat.zero_le _, rfl, Below.refl _ _⟩
  case round =>
   obtain ⟨k, hk, rfl, hb⟩ := hrel
   by_cases hlt : k < xs.length
   ·obtain ⟨ecs, hC, hR⟩ := HC.out k hlt
    obtain ⟨ecs', hC', hR'⟩ := HC'.out k hlt
    have hR := Rd.mono hb hR
    have hR' := Rd.mono hb hR'
    have hC := hC.later hb
    have hC' := hC'.later hb
    obtain ⟨e0, e1, e2, e3, e4, rfl⟩ := list5 (Rd.len hR)
    obtain ⟨f0, f1, f2, f3, f4, rfl⟩ := list5 (Rd.len hR')
    have u0 : wr.cell? ⟨b, off + k * 5, none⟩ = some e0 := hC.c0
    have v0 : wr.cell? ⟨b', off' + k * 5, none⟩ = some f0 := hC'.c0
    have u1 : wr.cell? ⟨b, off + k * 5+ 1, none⟩ = some e1 := hC.c1
    have v1 : wr.cell? ⟨b', off' + k * 5+ 1, none⟩ = some f1 := hC'.c1
    have u2 : wr.cell? ⟨b, off + k * 5+ 2, none⟩ = some e2 := hC.c2
    have v2 : wr.cell? ⟨b', off' + k * 5+ 2, none⟩ = some f2 := hC'.c2
    have u3 : wr.cell? ⟨b, off + k * 5+ 3, none⟩ = some e3 := hC.c3
    have v3 : wr.cell? ⟨b', off' + k * 5+ 3, none⟩ = some f3 := hC'.c3
    have u4 : wr.cell? ⟨b, off + k * 5+ 4, none⟩ = some e4 := hC.c4
    have v4 : wr.cell? ⟨b', off' + k * 5+ 4, none⟩ = some f4 := hC'.c4
    clear hC hC'
    go_wp2
    go_still_tail 8, (by kernel_rfl)
    go_wp2_with fail
    refine (eqRule_calls (Rd.mono (by first | exact (Below.refl _ _).drew | exact below_drewN (Below.refl _ _) _) hR) (Rd.mono (by first | exact (Below.refl _ _).drew | exact below_drewN (Below.refl _ _) _) hR')).mono ?_
    rintro e w2 ⟨rfl, hb2⟩
    have hbe : Below w.heap.size w w2 := (show Below w.heap.size w _ by first | exact hb.drew | exact below_drewN hb _).step hb2
    clear hR hR' hb2
    go_wp2
    go_roundw
    case rel => exact ⟨k + 1, by omega, by go_num, hbe⟩
    case measure => simp [intOf]; omega
   ·go_wp2
    go_ret
    exact ⟨rfl, hb⟩
 ·have : xs = [] := by cases xs <;> simp_all
  subst this
  clear h h' hne
  go_enter Tryz.func113, Tryz.ntmps113
  go_wp2
  refine wp_loop_rounds 1 ?_
  rw [rounds_succ]
  go_wp2
  go_ret
  exact ⟨rfl, Below.refl _ _⟩

set_option maxHeartbeats 1000000 in
theorem eqProg_calls {cs cs' : List Value} {x : ProgD} {w : World} (h : Rd.R w cs x) (h' : Rd.R w cs' x) :
  Calls Tryz.prog 33 #[.agg cs.toArray, .agg cs'.toArray] w fun e w' => e = .returned (.bool true) ∧ Below w.heap.size w w' := by
 obtain ⟨c1, c2, c4, c5, c6, c7, rfl, hf, h1, h2, h4, h5, h6, h7⟩ := h
 obtain ⟨d1, d2, d4, d5, d6, d7, rfl, _, h1', h2', h4', h5', h6', h7'⟩ := h'
 clear hf
 have t0 : Below w.heap.size w ((w.alloc (.cells #[.int .i64 x.atoms, c1, c2, .bool x.projOn, c4, c5, c6, c7] 30)).alloc (.cells #[.int .i64 x.atoms, d1, d2, .bool x.projOn, d4, d5, d6, d7] 30)) := ((Below.refl _ _).alloc (by simp) _).alloc (by simp) _
 go_enter Tryz.func33, Tryz.ntmps33
 go_wp2_with fail
 refine (eqRuleS_calls (Rd.mono (α := List (RuleD)) t0 h1) (Rd.mono (α := List (RuleD)) t0 h1')).mono ?_
 rintro e w1 ⟨rfl, b1⟩
 have hz1 : w.heap.size + 1 < w1.heap.size := by have := b1.size; (try simp at this); omega
 have hx1 : w.heap.size < w1.heap.size := by omega
 have t1 := t0.step b1
 obtain ⟨hc1, hf1⟩ := bcell b1
 go_wp2_with fail
 refine (eqLevelS_calls (Rd.mono (α := List (LevelD)) t1 h2) (Rd.mono (α := List (LevelD)) t1 h2')).mono ?_
 rintro e w2 ⟨rfl, b2⟩
 have hz2 : w.heap.size + 1 < w2.heap.size := by have := b2.size; (try simp at this); omega
 have hx2 : w.heap.size < w2.heap.size := by omega
 have t2 := t1.step b2
 obtain ⟨hc2, hf2⟩ := bcell b2
 go_wp2_with fail
 refine (eqIntSR_calls (Rd.mono (α := List (Int)) t2 h4) (Rd.mono (α := List (Int)) t2 h4')).mono ?_
 rintro e w3 ⟨rfl, b3⟩
 have hz3 : w.heap.size + 1 < w3.heap.size := by have := b3.size; (try simp at this); omega
 have hx3 : w.heap.size < w3.heap.size := by omega
 have t3 := t2.step b3
 obtain ⟨hc3, hf3⟩ := bcell b3
 go_wp2_with fail
 refine (eqShowS_calls (Rd.mono (α := List (ShowD)) t3 h5) (Rd.mono (α := List (ShowD)) t3 h5')).mono ?_
 rintro e w4 ⟨rfl, b4⟩
 have hz4 : w.heap.size + 1 < w4.heap.size := by have := b4.size; (try simp at this); omega
 have hx4 : w.heap.size < w4.heap.size := by omega
 have t4 := t3.step b4
 obtain ⟨hc4, hf4⟩ := bcell b4
 go_wp2_with fail
 refine (eqExtS_calls (Rd.mono (α := List (Int × Int)) t4 h6) (Rd.mono (α := List (Int × Int)) t4 h6')).mono ?_
 rintro e w5 ⟨rfl, b5⟩
 have hz5 : w.heap.size + 1 < w5.heap.size := by have := b5.size; (try simp at this); omega
 have hx5 : w.heap.size < w5.heap.size := by omega
 have t5 := t4.step b5
 obtain ⟨hc5, hf5⟩ := bcell b5
 go_wp2_with fail
 refine (eqIntSR_calls (Rd.mono (α := List (Int)) t5 h7) (Rd.mono (α := List (Int)) t5 h7')).mono ?_
 rintro e w6 ⟨rfl, b6⟩
 have hz6 : w.heap.size + 1 < w6.heap.size := by have := b6.size; (try simp at this); omega
 have hx6 : w.heap.size < w6.heap.size := by omega
 have t6 := t5.step b6
 obtain ⟨hc6, hf6⟩ := bcell b6
 go_wp2_with fail
 go_ret
 exact ⟨rfl, t6⟩

end Go.Proofs.YthikhkeofcjdfaaGreat
