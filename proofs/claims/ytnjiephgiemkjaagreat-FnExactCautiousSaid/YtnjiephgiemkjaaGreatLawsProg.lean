/-
  The laws' own copy of a program. No condition of its own.
-/
import Derived.Test.YtnjiephgiemkjaaGreatLawsTo
namespace Go.Proofs.YtnjiephgiemkjaaGreat
set_option linter.unusedVariables false
set_option linter.unusedSimpArgs false
open Go.RowKit
set_option maxRecDepth 100000

set_option maxHeartbeats 4000000 in
theorem toProg_calls {cs : List Value} {x : ProgD} {w : World} (h : Rd.R w cs x) (hs : Sm.S x) :
    Calls Tryz.prog 10 #[.agg cs.toArray] w fun e w' => ∃ cs', e = .returned (.agg cs'.toArray) ∧ Own w.heap.size w' cs' x ∧ Below w.heap.size w w' := by
  obtain ⟨c1, c2, c4, c5, c6, c7, rfl, hf, h1, h2, h4, h5, h6, h7⟩ := h
  have HF := Lib.hid hf
  obtain ⟨s1, s2, s4, s5, s6, s7⟩ := hs
  clear hf
  go_enter Tryz.func10, Tryz.ntmps10
  go_wp2_with fail
  have t0 : Below w.heap.size w (((w.alloc (.cells #[.int .i64 x.atoms, c1, c2, .bool x.projOn, c4, c5, c6, c7] 28)).alloc (.cells #[.int .i64 0, .slice none 0 0, .slice none 0 0, .bool false, .slice none 0 0, .slice none 0 0, .slice none 0 0, .slice none 0 0] 37)).alloc (.cells #[.int .i64 x.atoms, .slice none 0 0, .slice none 0 0, .bool false, .slice none 0 0, .slice none 0 0, .slice none 0 0, .slice none 0 0] 37)) :=
    (((Below.refl _ _).alloc (by simp) _).alloc (by simp) _).alloc (by simp; omega) _
  refine (toRuleS_calls (Rd.mono (α := List RuleD) t0 h1) s1).mono ?_
  rintro e w1 ⟨v1, rfl, k1, b1⟩
  have hz1 : w.heap.size + 1 + 1 < w1.heap.size := by have := b1.size; simp at this; omega
  have hy1 : w.heap.size + 1 < w1.heap.size := by omega
  have hx1 : w.heap.size < w1.heap.size := by omega
  obtain ⟨a1, n1, rfl, _⟩ := retO k1
  have k1 := k1.shut.mono (show w.heap.size + 1 + 1 + 1 ≤ _ by simp) (Nat.le_refl _)
  have t1 := t0.step b1
  obtain ⟨hc1, hf1⟩ := bcell b1
  go_wp2_with fail
  have u2 := t1.setCell (p := ⟨w.heap.size + 1 + 1, 1, none⟩) (by simp; try omega) (.slice a1 x.rules.length n1)
  refine (toLevelS_calls (Rd.mono (α := List (LevelD)) u2 h2) s2).mono ?_
  rintro e w2 ⟨v2, rfl, k2, b2⟩
  have hz2 : w.heap.size + 1 + 1 < w2.heap.size := by have := b2.size; simp at this; omega
  have hy2 : w.heap.size + 1 < w2.heap.size := by omega
  have hx2 : w.heap.size < w2.heap.size := by omega
  have hs2 : w1.heap.size ≤ w2.heap.size := by have := b2.size; simpa using this
  obtain ⟨a2, n2, rfl, _⟩ := retO k2
  have k2 := k2.shut.mono (show w1.heap.size ≤ _ by simp) (Nat.le_refl _)
  have t2 := u2.step b2
  have k1 := k1.adv1 (by simp; try omega) b2
  obtain ⟨hc2, hf2⟩ := bcell b2
  go_wp2_with fail
  have u3 := (t2.setCell (p := ⟨w.heap.size + 1 + 1, 2, none⟩) (by simp; try omega) (.slice a2 x.levels.length n2)).setCell (p := ⟨w.heap.size + 1 + 1, 3, none⟩) (by simp; try omega) (.bool x.projOn)
  refine (toIntSO_calls (Rd.mono (α := List (Int)) u3 h4) s4).mono ?_
  rintro e w3 ⟨v3, rfl, k3, b3⟩
  have hz3 : w.heap.size + 1 + 1 < w3.heap.size := by have := b3.size; simp at this; omega
  have hy3 : w.heap.size + 1 < w3.heap.size := by omega
  have hx3 : w.heap.size < w3.heap.size := by omega
  have hs3 : w2.heap.size ≤ w3.heap.size := by have := b3.size; simpa using this
  obtain ⟨a3, n3, rfl, _⟩ := retO k3
  have k3 := k3.shut.mono (show w2.heap.size ≤ _ by simp) (Nat.le_refl _)
  have t3 := u3.step b3
  have k1 := k1.adv2 (by simp; try omega) (by simp; try omega) b3
  have k2 := k2.adv2 (by simp; try omega) (by simp; try omega) b3
  obtain ⟨hc3, hf3⟩ := bcell b3
  go_wp2_with fail
  have u4 := t3.setCell (p := ⟨w.heap.size + 1 + 1, 4, none⟩) (by simp; try omega) (.slice a3 x.project.length n3)
  refine (toShowS_calls (Rd.mono (α := List (ShowD)) u4 h5) s5).mono ?_
  rintro e w4 ⟨v4, rfl, k4, b4⟩
  have hz4 : w.heap.size + 1 + 1 < w4.heap.size := by have := b4.size; simp at this; omega
  have hy4 : w.heap.size + 1 < w4.heap.size := by omega
  have hx4 : w.heap.size < w4.heap.size := by omega
  have hs4 : w3.heap.size ≤ w4.heap.size := by have := b4.size; simpa using this
  obtain ⟨a4, n4, rfl, _⟩ := retO k4
  have k4 := k4.shut.mono (show w3.heap.size ≤ _ by simp) (Nat.le_refl _)
  have t4 := u4.step b4
  have k1 := k1.adv1 (by simp; try omega) b4
  have k2 := k2.adv1 (by simp; try omega) b4
  have k3 := k3.adv1 (by simp; try omega) b4
  obtain ⟨hc4, hf4⟩ := bcell b4
  go_wp2_with fail
  have u5 := t4.setCell (p := ⟨w.heap.size + 1 + 1, 5, none⟩) (by simp; try omega) (.slice a4 x.shows.length n4)
  refine (toExtS_calls (Rd.mono (α := List (Int × Int)) u5 h6) s6).mono ?_
  rintro e w5 ⟨v5, rfl, k5, b5⟩
  have hz5 : w.heap.size + 1 + 1 < w5.heap.size := by have := b5.size; simp at this; omega
  have hy5 : w.heap.size + 1 < w5.heap.size := by omega
  have hx5 : w.heap.size < w5.heap.size := by omega
  have hs5 : w4.heap.size ≤ w5.heap.size := by have := b5.size; simpa using this
  obtain ⟨a5, n5, rfl, _⟩ := retO k5
  have k5 := k5.shut.mono (show w4.heap.size ≤ _ by simp) (Nat.le_refl _)
  have t5 := u5.step b5
  have k1 := k1.adv1 (by simp; try omega) b5
  have k2 := k2.adv1 (by simp; try omega) b5
  have k3 := k3.adv1 (by simp; try omega) b5
  have k4 := k4.adv1 (by simp; try omega) b5
  obtain ⟨hc5, hf5⟩ := bcell b5
  go_wp2_with fail
  have u6 := t5.setCell (p := ⟨w.heap.size + 1 + 1, 6, none⟩) (by simp; try omega) (.slice a5 x.exts.length n5)
  refine (toIntSO_calls (Rd.mono (α := List (Int)) u6 h7) s7).mono ?_
  rintro e w6 ⟨v6, rfl, k6, b6⟩
  have hz6 : w.heap.size + 1 + 1 < w6.heap.size := by have := b6.size; simp at this; omega
  have hy6 : w.heap.size + 1 < w6.heap.size := by omega
  have hx6 : w.heap.size < w6.heap.size := by omega
  have hs6 : w5.heap.size ≤ w6.heap.size := by have := b6.size; simpa using this
  obtain ⟨a6, n6, rfl, _⟩ := retO k6
  have k6 := k6.shut.mono (show w5.heap.size ≤ _ by simp) (Nat.le_refl _)
  have t6 := u6.step b6
  have k1 := k1.adv1 (by simp; try omega) b6
  have k2 := k2.adv1 (by simp; try omega) b6
  have k3 := k3.adv1 (by simp; try omega) b6
  have k4 := k4.adv1 (by simp; try omega) b6
  have k5 := k5.adv1 (by simp; try omega) b6
  obtain ⟨hc6, hf6⟩ := bcell b6
  go_wp2_with fail
  exact bodyPost_ret (v := .agg #[.int .i64 x.atoms, .slice a1 x.rules.length n1, .slice a2 x.levels.length n2, .bool x.projOn, .slice a3 x.project.length n3, .slice a4 x.shows.length n4, .slice a5 x.exts.length n5, .slice a6 x.assume.length n6])
    (by simp [results, Tryz.results10, go_sem, hc6, hf6, hy6, hz6, hc5, hf5, hy5, hz5, hc4, hf4, hy4, hz4, hc3, hf3, hy3, hz3, hc2, hf2, hy2, hz2, hc1, hf1, hy1, hz1]) rfl ⟨_, rfl,
    own_prog (b0 := w.heap.size + 1 + 1 + 1) (b1 := w1.heap.size) (b2 := w2.heap.size) (b3 := w3.heap.size) (b4 := w4.heap.size) (b5 := w5.heap.size) (b6 := w6.heap.size) (by
      repeat (refine OwnIn.far ?_ (.inl (by simp; try omega)) _)
      exact k1) (by
      repeat (refine OwnIn.far ?_ (.inl (by simp; try omega)) _)
      exact k2) (by
      repeat (refine OwnIn.far ?_ (.inl (by simp; try omega)) _)
      exact k3) (by
      repeat (refine OwnIn.far ?_ (.inl (by simp; try omega)) _)
      exact k4) (by
      repeat (refine OwnIn.far ?_ (.inl (by simp; try omega)) _)
      exact k5) (by
      repeat (refine OwnIn.far ?_ (.inl (by simp; try omega)) _)
      exact k6) (by omega) HF.out, by
    repeat (refine Below.setCell ?_ (by simp; try omega) _)
    exact t6⟩

end Go.Proofs.YtnjiephgiemkjaaGreat
