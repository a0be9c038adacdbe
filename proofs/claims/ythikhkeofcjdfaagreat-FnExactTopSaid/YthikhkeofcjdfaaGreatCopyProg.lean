/-
 The program's copy of a program. No condition of its own.
-/
import Derived.Test.YthikhkeofcjdfaaGreatCopy
import Derived.Test.YthikhkeofcjdfaaGreatDefsProg
namespace Go.Proofs.YthikhkeofcjdfaaGreat
set_option linter.unusedVariables false
set_option linter.unusedSimpArgs false
open Go.RowKit
set_option maxRecDepth 100000

/-- No list of the program is too long. -/
def SzP (p : ProgD) : Prop := (p.rules.length ≤ 1048576 ∧ ∀ x ∈ p.rules, x.heads.length ≤ 1048576 ∧ x.body.length ≤ 1048576) ∧ (p.levels.length ≤ 1048576 ∧ ∀ x ∈ p.levels, x.lits.length ≤ 1048576) ∧ p.project.length ≤ 1048576 ∧ (p.shows.length ≤ 1048576 ∧ ∀ x ∈ p.shows, x.cond.length ≤ 1048576) ∧ p.exts.length ≤ 1048576 ∧ p.assume.length ≤ 1048576

theorem copiesRuleO_calls {v : Value} {xs : List (RuleD)} {w : World} (h : RdL w [v] xs) (hs : xs.length ≤ 1048576 ∧ ∀ x ∈ xs, x.heads.length ≤ 1048576 ∧ x.body.length ≤ 1048576) :
  Calls Tryz.prog 70 #[v, .func (.func 71) #[] #[]] w fun e w' => ∃ v', e = .returned v' ∧ Own w.heap.size w' [v'] xs ∧ Below w.heap.size w w' :=
 (copiesRule_calls h hs.1 hs.2).mono fun _ _ ⟨v, he, ho, _, hb⟩ => ⟨v, he, ho.own, hb⟩

theorem copiesLevelO_calls {v : Value} {xs : List (LevelD)} {w : World} (h : RdL w [v] xs) (hs : xs.length ≤ 1048576 ∧ ∀ x ∈ xs, x.lits.length ≤ 1048576) :
  Calls Tryz.prog 154 #[v, .func (.func 155) #[] #[]] w fun e w' => ∃ v', e = .returned v' ∧ Own w.heap.size w' [v'] xs ∧ Below w.heap.size w w' :=
 (copiesLevel_calls h hs.1 hs.2).mono fun _ _ ⟨v, he, ho, _, hb⟩ => ⟨v, he, ho.own, hb⟩

theorem copiesShowO_calls {v : Value} {xs : List (ShowD)} {w : World} (h : RdL w [v] xs) (hs : xs.length ≤ 1048576 ∧ ∀ x ∈ xs, x.cond.length ≤ 1048576) :
  Calls Tryz.prog 157 #[v, .func (.func 158) #[] #[]] w fun e w' => ∃ v', e = .returned v' ∧ Own w.heap.size w' [v'] xs ∧ Below w.heap.size w w' :=
 (copiesShow_calls h hs.1 hs.2).mono fun _ _ ⟨v, he, ho, _, hb⟩ => ⟨v, he, ho.own, hb⟩

theorem rest_in {w : World} {b1 b2 b3 b4 b5 b6 : Nat} {c2 c4 c5 c6 c7 : Value} {p : ProgD} (h2 : OwnIn b1 b2 w [c2] p.levels) (h4 : OwnIn b2 b3 w [c4] p.project) (h5 : OwnIn b3 b4 w [c5] p.shows)
  (h6 : OwnIn b4 b5 w [c6] p.exts) (h7 : OwnIn b5 b6 w [c7] p.assume) (hb : b1 ≤ b2 ∧ b2 ≤ b3 ∧ b3 ≤ b4 ∧ b4 ≤ b5 ∧ b5 ≤ b6) : ∃ fp, Rest w c2 c4 c5 c6 c7 p fp ∧ ∀ g ∈ fp, b1 ≤ g ∧ g < b6 := by
 obtain ⟨f2, o2, l2⟩ := h2
 obtain ⟨f4, o4, l4⟩ := h4
 obtain ⟨f5, o5, l5⟩ := h5
 obtain ⟨f6, o6, l6⟩ := h6
 obtain ⟨f7, o7, l7⟩ := h7
 have i6 := in_two l6 l7 (Nat.le_refl _) (by omega) (by omega)
 have i5 := in_two l5 i6 (Nat.le_refl _) (by omega) (by omega)
 have i4 := in_two l4 i5 (Nat.le_refl _) (by omega) (by omega)
 have i2 := in_two l2 i4 (Nat.le_refl _) (by omega) (by omega)
 have n6 := nodup_two (Ow.nodup o6) (Ow.nodup o7) (fun g hg => (l6 g hg).2) (fun g hg => (l7 g hg).1) (Nat.le_refl _)
 have n5 := nodup_two (Ow.nodup o5) n6 (fun g hg => (l5 g hg).2) (fun g hg => (i6 g hg).1) (Nat.le_refl _)
 have n4 := nodup_two (Ow.nodup o4) n5 (fun g hg => (l4 g hg).2) (fun g hg => (i5 g hg).1) (Nat.le_refl _)
 have n2 := nodup_two (Ow.nodup o2) n4 (fun g hg => (l2 g hg).2) (fun g hg => (i4 g hg).1) (Nat.le_refl _)
 exact ⟨_, ⟨f2, f4, f5, f6, f7, o2, o4, o5, o6, o7, rfl, n2⟩, i2⟩

set_option maxHeartbeats 4000000 in
theorem progCopied_calls {cs : List Value} {x : ProgD} {w : World} (h : Rd.R w cs x) (hs : SzP x) :
  Calls Tryz.prog 69 #[.agg cs.toArray] w fun e w' => ∃ c1 c2 c4 c5 c6 c7 D, e = .returned (.agg #[.int .i64 x.atoms, c1, c2, .bool x.projOn, c4, c5, c6, c7]) ∧ OwnPR w.heap.size w'.heap.size D w' c1 c2 c4 c5 c6 c7 x ∧ (∀ f, D f → f < w'.heap.size) ∧ Below w.heap.size w w' := by
 obtain ⟨c1, c2, c4, c5, c6, c7, rfl, hf, h1, h2, h4, h5, h6, h7⟩ := h
 have HF := Lib.hid hf
 obtain ⟨s1, s2, s4, s5, s6, s7⟩ := hs
 have o1 := sto Tryz.prog h1.one1
 have o2 := sto Tryz.prog h2.one1
 have o4 := sto Tryz.prog h4.one1
 have o5 := sto Tryz.prog h5.one1
 have o6 := sto Tryz.prog h6.one1
 have o7 := sto Tryz.prog h7.one1
 clear hf
 go_enter Tryz.func69, Tryz.ntmps69
 go_wp2_with fail
 have t0 : Below w.heap.size w ((w.alloc (.cells #[.int .i64 x.atoms, c1, c2, .bool x.projOn, c4, c5, c6, c7] 30)).alloc (.cells #[.int .i64 0, .slice none 0 0, .slice none 0 0, .bool false, .slice none 0 0, .slice none 0 0, .slice none 0 0, .slice none 0 0] 30)) :=
  ((Below.refl _ _).alloc (by simp) _).alloc (by simp) _
 have X0 := (Cells.new w [.int .i64 x.atoms, c1, c2, .bool x.projOn, c4, c5, c6, c7] 30).alloc (.cells #[.int .i64 0, .slice none 0 0, .slice none 0 0, .bool false, .slice none 0 0, .slice none 0 0, .slice none 0 0, .slice none 0 0] 30)
 refine (copiesRule_calls (Rd.mono (α := List RuleD) t0 h1) s1.1 s1.2).mono ?_
 rintro e w1 ⟨v1, rfl, r1, _, b1⟩
 have hz1 : w.heap.size + 1 < w1.heap.size := by have := b1.size; simp at this; omega
 have hy1 : w.heap.size < w1.heap.size := by omega
 have r1 := r1.toD.weak (B' := w.heap.size + 1 + 1) (D' := fun f => w.heap.size + 1 + 1 ≤ f ∧ f < w1.heap.size) (by simp) fun f hf => ⟨by have := hf.1; simpa using this, hf.2⟩
 obtain ⟨a1, n1, rfl⟩ := r1.form
 have t1 := t0.step b1
 obtain ⟨hcA, hf1⟩ := bcell b1
 have hc1 := fun o => hcA (w.heap.size + 1) o (by simp)
 clear hcA
 have X1 := X0.later b1
 obtain ⟨y0, y1, y2, y3, y4, y5, y6, y7⟩ := cells8 X1
 go_wp2_with fail
 clear y0 y1 y2 y3 y4 y5 y6 y7
 have u2 := Below.setCell t1 (p := ⟨w.heap.size, 1, none⟩) (by simp) (.slice a1 x.rules.length n1)
 refine (copiesLevelO_calls (Rd.mono (α := List (LevelD)) u2 h2) s2).mono ?_
 rintro e w2 ⟨v2, rfl, k2, b2⟩
 have hz2 : w.heap.size + 1 < w2.heap.size := by have := b2.size; simp at this; omega
 have hy2 : w.heap.size < w2.heap.size := by omega
 have hs2 : w1.heap.size ≤ w2.heap.size := by have := b2.size; simpa using this
 obtain ⟨a2, n2, rfl, _⟩ := retO k2
 have k2 := k2.shut.mono (show w1.heap.size ≤ _ by simp) (Nat.le_refl _)
 have t2 := u2.step b2
 have r1 := (r1.far (p := ⟨w.heap.size, 1, none⟩) (fun h => absurd h.1 (by show ¬ w.heap.size + 1 + 1 ≤ w.heap.size; omega)) (.slice a1 x.rules.length n1)).later b2
 obtain ⟨hcA, hf2⟩ := bcell b2
 have hc2 := fun o => hcA (w.heap.size + 1) o (by simp; try omega)
 clear hcA
 have X2 := (X1.set (i := 1) (v := .slice a1 x.rules.length n1) (by simp)).later b2
 obtain ⟨y0, y1, y2, y3, y4, y5, y6, y7⟩ := cells8 X2
 go_wp2_with fail
 clear y0 y1 y2 y3 y4 y5 y6 y7
 have u3 := Below.setCell t2 (p := ⟨w.heap.size, 2, none⟩) (by simp) (.slice a2 x.levels.length n2)
 refine (cloneInt_calls (Rd.mono (α := List (Int)) u3 h4) s4).mono ?_
 rintro e w3 ⟨v3, rfl, k3, b3⟩
 have hz3 : w.heap.size + 1 < w3.heap.size := by have := b3.size; simp at this; omega
 have hy3 : w.heap.size < w3.heap.size := by omega
 have hs3 : w2.heap.size ≤ w3.heap.size := by have := b3.size; simpa using this
 obtain ⟨a3, n3, rfl, _⟩ := retO k3
 have k3 := k3.shut.mono (show w2.heap.size ≤ _ by simp) (Nat.le_refl _)
 have t3 := u3.step b3
 have r1 := (r1.far (p := ⟨w.heap.size, 2, none⟩) (fun h => absurd h.1 (by show ¬ w.heap.size + 1 + 1 ≤ w.heap.size; omega)) (.slice a2 x.levels.length n2)).later b3
 have k2 := k2.adv1 (by show w.heap.size < _; omega) b3
 obtain ⟨hcA, hf3⟩ := bcell b3
 have hc3 := fun o => hcA (w.heap.size + 1) o (by simp; try omega)
 clear hcA
 have X3 := (X2.set (i := 2) (v := .slice a2 x.levels.length n2) (by simp)).later b3
 obtain ⟨y0, y1, y2, y3, y4, y5, y6, y7⟩ := cells8 X3
 go_wp2_with fail
 clear y0 y1 y2 y3 y4 y5 y6 y7
 have u4 := Below.setCell t3 (p := ⟨w.heap.size, 4, none⟩) (by simp) (.slice a3 x.project.length n3)
 refine (copiesShowO_calls (Rd.mono (α := List (ShowD)) u4 h5) s5).mono ?_
 rintro e w4 ⟨v4, rfl, k4, b4⟩
 have hz4 : w.heap.size + 1 < w4.heap.size := by have := b4.size; simp at this; omega
 have hy4 : w.heap.size < w4.heap.size := by omega
 have hs4 : w3.heap.size ≤ w4.heap.size := by have := b4.size; simpa using this
 obtain ⟨a4, n4, rfl, _⟩ := retO k4
 have k4 := k4.shut.mono (show w3.heap.size ≤ _ by simp) (Nat.le_refl _)
 have t4 := u4.step b4
 have r1 := (r1.far (p := ⟨w.heap.size, 4, none⟩) (fun h => absurd h.1 (by show ¬ w.heap.size + 1 + 1 ≤ w.heap.size; omega)) (.slice a3 x.project.length n3)).later b4
 have k2 := k2.adv1 (by show w.heap.size < _; omega) b4
 have k3 := k3.adv1 (by show w.heap.size < _; omega) b4
 obtain ⟨hcA, hf4⟩ := bcell b4
 have hc4 := fun o => hcA (w.heap.size + 1) o (by simp; try omega)
 clear hcA
 have X4 := (X3.set (i := 4) (v := .slice a3 x.project.length n3) (by simp)).later b4
 obtain ⟨y0, y1, y2, y3, y4, y5, y6, y7⟩ := cells8 X4
 go_wp2_with fail
 clear y0 y1 y2 y3 y4 y5 y6 y7
 have u5 := Below.setCell t4 (p := ⟨w.heap.size, 5, none⟩) (by simp) (.slice a4 x.shows.length n4)
 refine (cloneExt_calls (Rd.mono (α := List (Int × Int)) u5 h6) s6).mono ?_
 rintro e w5 ⟨v5, rfl, k5, b5⟩
 have hz5 : w.heap.size + 1 < w5.heap.size := by have := b5.size; simp at this; omega
 have hy5 : w.heap.size < w5.heap.size := by omega
 have hs5 : w4.heap.size ≤ w5.heap.size := by have := b5.size; simpa using this
 obtain ⟨a5, n5, rfl, _⟩ := retO k5
 have k5 := k5.shut.mono (show w4.heap.size ≤ _ by simp) (Nat.le_refl _)
 have t5 := u5.step b5
 have r1 := (r1.far (p := ⟨w.heap.size, 5, none⟩) (fun h => absurd h.1 (by show ¬ w.heap.size + 1 + 1 ≤ w.heap.size; omega)) (.slice a4 x.shows.length n4)).later b5
 have k2 := k2.adv1 (by show w.heap.size < _; omega) b5
 have k3 := k3.adv1 (by show w.heap.size < _; omega) b5
 have k4 := k4.adv1 (by show w.heap.size < _; omega) b5
 obtain ⟨hcA, hf5⟩ := bcell b5
 have hc5 := fun o => hcA (w.heap.size + 1) o (by simp; try omega)
 clear hcA
 have X5 := (X4.set (i := 5) (v := .slice a4 x.shows.length n4) (by simp)).later b5
 obtain ⟨y0, y1, y2, y3, y4, y5, y6, y7⟩ := cells8 X5
 go_wp2_with fail
 clear y0 y1 y2 y3 y4 y5 y6 y7
 have u6 := Below.setCell t5 (p := ⟨w.heap.size, 6, none⟩) (by simp) (.slice a5 x.exts.length n5)
 refine (cloneInt_calls (Rd.mono (α := List (Int)) u6 h7) s7).mono ?_
 rintro e w6 ⟨v6, rfl, k6, b6⟩
 have hz6 : w.heap.size + 1 < w6.heap.size := by have := b6.size; simp at this; omega
 have hy6 : w.heap.size < w6.heap.size := by omega
 have hs6 : w5.heap.size ≤ w6.heap.size := by have := b6.size; simpa using this
 obtain ⟨a6, n6, rfl, _⟩ := retO k6
 have k6 := k6.shut.mono (show w5.heap.size ≤ _ by simp) (Nat.le_refl _)
 have t6 := u6.step b6
 have r1 := (r1.far (p := ⟨w.heap.size, 6, none⟩) (fun h => absurd h.1 (by show ¬ w.heap.size + 1 + 1 ≤ w.heap.size; omega)) (.slice a5 x.exts.length n5)).later b6
 have k2 := k2.adv1 (by show w.heap.size < _; omega) b6
 have k3 := k3.adv1 (by show w.heap.size < _; omega) b6
 have k4 := k4.adv1 (by show w.heap.size < _; omega) b6
 have k5 := k5.adv1 (by show w.heap.size < _; omega) b6
 obtain ⟨hcA, hf6⟩ := bcell b6
 have hc6 := fun o => hcA (w.heap.size + 1) o (by simp; try omega)
 clear hcA
 have X6 := (X5.set (i := 6) (v := .slice a5 x.exts.length n5) (by simp)).later b6
 obtain ⟨y0, y1, y2, y3, y4, y5, y6, y7⟩ := cells8 X6
 have hz0 : w.heap.size + 1 + 1 ≤ w1.heap.size := by omega
 go_wp2
 refine bodyPost_ret (v := .agg #[.int .i64 x.atoms, .slice a1 x.rules.length n1, .slice a2 x.levels.length n2, .bool x.projOn, .slice a3 x.project.length n3, .slice a4 x.shows.length n4, .slice a5 x.exts.length n5, .slice a6 x.assume.length n6])
  (by simp [results, Tryz.results69, go_sem, hc6, hf6, hy6, hz6, hc5, hf5, hy5, hz5, hc4, hf4, hy4, hz4, hc3, hf3, hy3, hz3, hc2, hf2, hy2, hz2, hc1, hf1, hy1, hz1]) rfl ⟨_, _, _, _, _, _, fun f => w.heap.size + 1 + 1 ≤ f ∧ f < w1.heap.size, rfl, ?_, ?_, ?_⟩
 ·refine OwnPR.mono (lo := w.heap.size + 1 + 1) ?_ (by omega)
  repeat (refine OwnPR.far ?_ (fun h => absurd h.1 (by simp; try omega)) (.inl (by simp; try omega)) _)
  obtain ⟨fp, hfp, hin⟩ := rest_in (p := x) (b1 := w1.heap.size) (b2 := w2.heap.size) (b3 := w3.heap.size) (b4 := w4.heap.size) (b5 := w5.heap.size) (b6 := w6.heap.size) k2 k3 k4 k5 k6 (by omega)
  exact ⟨fp, HF.out, r1, hfp, fun g hg => by have := hin g hg; exact ⟨by omega, by simp; omega, fun h => by have := h.2; omega⟩, fun g hg => hg.1⟩
 ·intro f hf
  have := hf.2
  simp
  omega
 ·repeat (refine Below.setCell ?_ (by simp; try omega) _)
  exact t6

end Go.Proofs.YthikhkeofcjdfaaGreat
