/-
 A program of a call's own: one of its rows taken out and another one put in. No condition of its own.
-/
import Derived.Test.YthikhkeofcjdfaaGreatOnto
namespace Go.Proofs.YthikhkeofcjdfaaGreat
set_option linter.unusedVariables false
set_option linter.unusedSimpArgs false
open Go.RowKit
set_option maxRecDepth 100000

theorem nodup_swap {L L' f fr : List Nat} (h : L.Nodup) (hf : f.Nodup) (hd : ∀ g ∈ f, g ∉ fr) (hs : ∀ a, fr.count a ≤ L.count a) (hc : ∀ a, L'.count a = f.count a + fr.count a) : L'.Nodup := by
 rw [List.nodup_iff_count] at h hf ⊢
 intro a
 rw [hc a]
 have h1 := h a
 have h2 := hf a
 have h3 := hs a
 by_cases hm : a ∈ f
 ·have : fr.count a = 0 := List.count_eq_zero.2 (hd a hm)
  omega
 ·have : f.count a = 0 := List.count_eq_zero.2 hm
  omega
theorem nodup_out {L f fr : List Nat} (h : L.Nodup) (hc : ∀ a, L.count a = f.count a + fr.count a) : ∀ g ∈ f, g ∉ fr := by
 intro g hg hm
 rw [List.nodup_iff_count] at h
 have h1 := h g
 have h2 := List.count_pos_iff.2 hg
 have h3 := List.count_pos_iff.2 hm
 have := hc g
 omega
/-- A row of a program: what is known of it, and what another row in its place makes. -/
def Lens {α : Type} [Ow α] (w : World) (p : ProgD) (fp : List Nat) (c : Value) (xs : List α) (cs : Value → List Value) (q : List α → ProgD) : Prop :=
 ∃ f fr : List Nat, OwL w [c] xs f ∧ (∀ g ∈ f, g ∈ fp) ∧ (∀ g ∈ fr, g ∈ fp) ∧ (∀ g ∈ f, g ∉ fr) ∧
  ∀ (w' : World) (v : Value) (ys : List α) (f' : List Nat), OwL w' [v] ys f' → (∀ g ∈ fr, w'.heap[g]? = w.heap[g]?) → (∀ g ∈ f', g ∉ fr) → ∃ fp', Ow.O (α := ProgD) w' (cs v) (q ys) fp' ∧ ∀ g ∈ fp', g ∈ f' ∨ g ∈ fr
section
variable {w : World} {a b c1 c2 c4 c5 c6 c7 : Value} {p : ProgD} {fp : List Nat}
theorem lens_rules (h : Ow.O (α := ProgD) w [a, c1, c2, b, c4, c5, c6, c7] p fp) : Lens (α := RuleD) w p fp c1 p.rules (fun v => [a, v, c2, b, c4, c5, c6, c7]) (fun ys => { p with rules := ys }) := by
 obtain ⟨d1, d2, d4, d5, d6, d7, f1, f2, f4, f5, f6, f7, e, hf, o1, o2, o4, o5, o6, o7, rfl, hn⟩ := h
 simp only [List.cons.injEq, and_true] at e
 obtain ⟨ea, rfl, rfl, eb, rfl, rfl, rfl, rfl⟩ := e
 refine ⟨f1, f2 ++ (f4 ++ (f5 ++ (f6 ++ f7))), by assumption, fun g hg => by simp only [List.mem_append]; simp [hg], fun g hg => by simp only [List.mem_append] at hg ⊢; grind, nodup_out hn fun x => by simp only [List.count_append] <;> omega, fun w' v ys f' hv hk hd => ?_⟩
 have k1 := fun (hm : ∀ g ∈ f1, w'.heap[g]? = w.heap[g]?) => Ow.kept (α := List RuleD) o1 hm
 have k2 := fun (hm : ∀ g ∈ f2, w'.heap[g]? = w.heap[g]?) => Ow.kept (α := List LevelD) o2 hm
 have k4 := fun (hm : ∀ g ∈ f4, w'.heap[g]? = w.heap[g]?) => Ow.kept (α := List Int) o4 hm
 have k5 := fun (hm : ∀ g ∈ f5, w'.heap[g]? = w.heap[g]?) => Ow.kept (α := List ShowD) o5 hm
 have k6 := fun (hm : ∀ g ∈ f6, w'.heap[g]? = w.heap[g]?) => Ow.kept (α := List (Int × Int)) o6 hm
 have k7 := fun (hm : ∀ g ∈ f7, w'.heap[g]? = w.heap[g]?) => Ow.kept (α := List Int) o7 hm
 have hN := nodup_swap (L' := f' ++ (f2 ++ (f4 ++ (f5 ++ (f6 ++ f7))))) hn (Ow.nodup (α := List RuleD) hv) hd (fun x => by simp only [List.count_append] <;> omega) (fun x => by simp only [List.count_append] <;> omega)
 refine ⟨_, ⟨v, c2, c4, c5, c6, c7, f', f2, f4, f5, f6, f7, by rw [ea, eb], hf, ?_, ?_, ?_, ?_, ?_, ?_, rfl, hN⟩, fun g hg => by simp only [List.mem_append] at hg ⊢; grind⟩
 all_goals first | exact hv | exact k1 (fun g hg => hk g (by simp only [List.mem_append]; simp [hg])) | exact k2 (fun g hg => hk g (by simp only [List.mem_append]; simp [hg])) | exact k4 (fun g hg => hk g (by simp only [List.mem_append]; simp [hg])) | exact k5 (fun g hg => hk g (by simp only [List.mem_append]; simp [hg])) | exact k6 (fun g hg => hk g (by simp only [List.mem_append]; simp [hg])) | exact k7 (fun g hg => hk g (by simp only [List.mem_append]; simp [hg]))

theorem lens_levels (h : Ow.O (α := ProgD) w [a, c1, c2, b, c4, c5, c6, c7] p fp) : Lens (α := LevelD) w p fp c2 p.levels (fun v => [a, c1, v, b, c4, c5, c6, c7]) (fun ys => { p with levels := ys }) := by
 obtain ⟨d1, d2, d4, d5, d6, d7, f1, f2, f4, f5, f6, f7, e, hf, o1, o2, o4, o5, o6, o7, rfl, hn⟩ := h
 simp only [List.cons.injEq, and_true] at e
 obtain ⟨ea, rfl, rfl, eb, rfl, rfl, rfl, rfl⟩ := e
 refine ⟨f2, f1 ++ (f4 ++ (f5 ++ (f6 ++ f7))), by assumption, fun g hg => by simp only [List.mem_append]; simp [hg], fun g hg => by simp only [List.mem_append] at hg ⊢; grind, nodup_out hn fun x => by simp only [List.count_append] <;> omega, fun w' v ys f' hv hk hd => ?_⟩
 have k1 := fun (hm : ∀ g ∈ f1, w'.heap[g]? = w.heap[g]?) => Ow.kept (α := List RuleD) o1 hm
 have k2 := fun (hm : ∀ g ∈ f2, w'.heap[g]? = w.heap[g]?) => Ow.kept (α := List LevelD) o2 hm
 have k4 := fun (hm : ∀ g ∈ f4, w'.heap[g]? = w.heap[g]?) => Ow.kept (α := List Int) o4 hm
 have k5 := fun (hm : ∀ g ∈ f5, w'.heap[g]? = w.heap[g]?) => Ow.kept (α := List ShowD) o5 hm
 have k6 := fun (hm : ∀ g ∈ f6, w'.heap[g]? = w.heap[g]?) => Ow.kept (α := List (Int × Int)) o6 hm
 have k7 := fun (hm : ∀ g ∈ f7, w'.heap[g]? = w.heap[g]?) => Ow.kept (α := List Int) o7 hm
 have hN := nodup_swap (L' := f1 ++ (f' ++ (f4 ++ (f5 ++ (f6 ++ f7))))) hn (Ow.nodup (α := List LevelD) hv) hd (fun x => by simp only [List.count_append] <;> omega) (fun x => by simp only [List.count_append] <;> omega)
 refine ⟨_, ⟨c1, v, c4, c5, c6, c7, f1, f', f4, f5, f6, f7, by rw [ea, eb], hf, ?_, ?_, ?_, ?_, ?_, ?_, rfl, hN⟩, fun g hg => by simp only [List.mem_append] at hg ⊢; grind⟩
 all_goals first | exact hv | exact k1 (fun g hg => hk g (by simp only [List.mem_append]; simp [hg])) | exact k2 (fun g hg => hk g (by simp only [List.mem_append]; simp [hg])) | exact k4 (fun g hg => hk g (by simp only [List.mem_append]; simp [hg])) | exact k5 (fun g hg => hk g (by simp only [List.mem_append]; simp [hg])) | exact k6 (fun g hg => hk g (by simp only [List.mem_append]; simp [hg])) | exact k7 (fun g hg => hk g (by simp only [List.mem_append]; simp [hg]))

theorem lens_project (h : Ow.O (α := ProgD) w [a, c1, c2, b, c4, c5, c6, c7] p fp) : Lens (α := Int) w p fp c4 p.project (fun v => [a, c1, c2, b, v, c5, c6, c7]) (fun ys => { p with project := ys }) := by
 obtain ⟨d1, d2, d4, d5, d6, d7, f1, f2, f4, f5, f6, f7, e, hf, o1, o2, o4, o5, o6, o7, rfl, hn⟩ := h
 simp only [List.cons.injEq, and_true] at e
 obtain ⟨ea, rfl, rfl, eb, rfl, rfl, rfl, rfl⟩ := e
 refine ⟨f4, f1 ++ (f2 ++ (f5 ++ (f6 ++ f7))), by assumption, fun g hg => by simp only [List.mem_append]; simp [hg], fun g hg => by simp only [List.mem_append] at hg ⊢; grind, nodup_out hn fun x => by simp only [List.count_append] <;> omega, fun w' v ys f' hv hk hd => ?_⟩
 have k1 := fun (hm : ∀ g ∈ f1, w'.heap[g]? = w.heap[g]?) => Ow.kept (α := List RuleD) o1 hm
 have k2 := fun (hm : ∀ g ∈ f2, w'.heap[g]? = w.heap[g]?) => Ow.kept (α := List LevelD) o2 hm
 have k4 := fun (hm : ∀ g ∈ f4, w'.heap[g]? = w.heap[g]?) => Ow.kept (α := List Int) o4 hm
 have k5 := fun (hm : ∀ g ∈ f5, w'.heap[g]? = w.heap[g]?) => Ow.kept (α := List ShowD) o5 hm
 have k6 := fun (hm : ∀ g ∈ f6, w'.heap[g]? = w.heap[g]?) => Ow.kept (α := List (Int × Int)) o6 hm
 have k7 := fun (hm : ∀ g ∈ f7, w'.heap[g]? = w.heap[g]?) => Ow.kept (α := List Int) o7 hm
 have hN := nodup_swap (L' := f1 ++ (f2 ++ (f' ++ (f5 ++ (f6 ++ f7))))) hn (Ow.nodup (α := List Int) hv) hd (fun x => by simp only [List.count_append] <;> omega) (fun x => by simp only [List.count_append] <;> omega)
 refine ⟨_, ⟨c1, c2, v, c5, c6, c7, f1, f2, f', f5, f6, f7, by rw [ea, eb], hf, ?_, ?_, ?_, ?_, ?_, ?_, rfl, hN⟩, fun g hg => by simp only [List.mem_append] at hg ⊢; grind⟩
 all_goals first | exact hv | exact k1 (fun g hg => hk g (by simp only [List.mem_append]; simp [hg])) | exact k2 (fun g hg => hk g (by simp only [List.mem_append]; simp [hg])) | exact k4 (fun g hg => hk g (by simp only [List.mem_append]; simp [hg])) | exact k5 (fun g hg => hk g (by simp only [List.mem_append]; simp [hg])) | exact k6 (fun g hg => hk g (by simp only [List.mem_append]; simp [hg])) | exact k7 (fun g hg => hk g (by simp only [List.mem_append]; simp [hg]))

theorem lens_shows (h : Ow.O (α := ProgD) w [a, c1, c2, b, c4, c5, c6, c7] p fp) : Lens (α := ShowD) w p fp c5 p.shows (fun v => [a, c1, c2, b, c4, v, c6, c7]) (fun ys => { p with shows := ys }) := by
 obtain ⟨d1, d2, d4, d5, d6, d7, f1, f2, f4, f5, f6, f7, e, hf, o1, o2, o4, o5, o6, o7, rfl, hn⟩ := h
 simp only [List.cons.injEq, and_true] at e
 obtain ⟨ea, rfl, rfl, eb, rfl, rfl, rfl, rfl⟩ := e
 refine ⟨f5, f1 ++ (f2 ++ (f4 ++ (f6 ++ f7))), by assumption, fun g hg => by simp only [List.mem_append]; simp [hg], fun g hg => by simp only [List.mem_append] at hg ⊢; grind, nodup_out hn fun x => by simp only [List.count_append] <;> omega, fun w' v ys f' hv hk hd => ?_⟩
 have k1 := fun (hm : ∀ g ∈ f1, w'.heap[g]? = w.heap[g]?) => Ow.kept (α := List RuleD) o1 hm
 have k2 := fun (hm : ∀ g ∈ f2, w'.heap[g]? = w.heap[g]?) => Ow.kept (α := List LevelD) o2 hm
 have k4 := fun (hm : ∀ g ∈ f4, w'.heap[g]? = w.heap[g]?) => Ow.kept (α := List Int) o4 hm
 have k5 := fun (hm : ∀ g ∈ f5, w'.heap[g]? = w.heap[g]?) => Ow.kept (α := List ShowD) o5 hm
 have k6 := fun (hm : ∀ g ∈ f6, w'.heap[g]? = w.heap[g]?) => Ow.kept (α := List (Int × Int)) o6 hm
 have k7 := fun (hm : ∀ g ∈ f7, w'.heap[g]? = w.heap[g]?) => Ow.kept (α := List Int) o7 hm
 have hN := nodup_swap (L' := f1 ++ (f2 ++ (f4 ++ (f' ++ (f6 ++ f7))))) hn (Ow.nodup (α := List ShowD) hv) hd (fun x => by simp only [List.count_append] <;> omega) (fun x => by simp only [List.count_append] <;> omega)
 refine ⟨_, ⟨c1, c2, c4, v, c6, c7, f1, f2, f4, f', f6, f7, by rw [ea, eb], hf, ?_, ?_, ?_, ?_, ?_, ?_, rfl, hN⟩, fun g hg => by simp only [List.mem_append] at hg ⊢; grind⟩
 all_goals first | exact hv | exact k1 (fun g hg => hk g (by simp only [List.mem_append]; simp [hg])) | exact k2 (fun g hg => hk g (by simp only [List.mem_append]; simp [hg])) | exact k4 (fun g hg => hk g (by simp only [List.mem_append]; simp [hg])) | exact k5 (fun g hg => hk g (by simp only [List.mem_append]; simp [hg])) | exact k6 (fun g hg => hk g (by simp only [List.mem_append]; simp [hg])) | exact k7 (fun g hg => hk g (by simp only [List.mem_append]; simp [hg]))

theorem lens_exts (h : Ow.O (α := ProgD) w [a, c1, c2, b, c4, c5, c6, c7] p fp) : Lens (α := (Int × Int)) w p fp c6 p.exts (fun v => [a, c1, c2, b, c4, c5, v, c7]) (fun ys => { p with exts := ys }) := by
 obtain ⟨d1, d2, d4, d5, d6, d7, f1, f2, f4, f5, f6, f7, e, hf, o1, o2, o4, o5, o6, o7, rfl, hn⟩ := h
 simp only [List.cons.injEq, and_true] at e
 obtain ⟨ea, rfl, rfl, eb, rfl, rfl, rfl, rfl⟩ := e
 refine ⟨f6, f1 ++ (f2 ++ (f4 ++ (f5 ++ f7))), by assumption, fun g hg => by simp only [List.mem_append]; simp [hg], fun g hg => by simp only [List.mem_append] at hg ⊢; grind, nodup_out hn fun x => by simp only [List.count_append] <;> omega, fun w' v ys f' hv hk hd => ?_⟩
 have k1 := fun (hm : ∀ g ∈ f1, w'.heap[g]? = w.heap[g]?) => Ow.kept (α := List RuleD) o1 hm
 have k2 := fun (hm : ∀ g ∈ f2, w'.heap[g]? = w.heap[g]?) => Ow.kept (α := List LevelD) o2 hm
 have k4 := fun (hm : ∀ g ∈ f4, w'.heap[g]? = w.heap[g]?) => Ow.kept (α := List Int) o4 hm
 have k5 := fun (hm : ∀ g ∈ f5, w'.heap[g]? = w.heap[g]?) => Ow.kept (α := List ShowD) o5 hm
 have k6 := fun (hm : ∀ g ∈ f6, w'.heap[g]? = w.heap[g]?) => Ow.kept (α := List (Int × Int)) o6 hm
 have k7 := fun (hm : ∀ g ∈ f7, w'.heap[g]? = w.heap[g]?) => Ow.kept (α := List Int) o7 hm
 have hN := nodup_swap (L' := f1 ++ (f2 ++ (f4 ++ (f5 ++ (f' ++ f7))))) hn (Ow.nodup (α := List (Int × Int)) hv) hd (fun x => by simp only [List.count_append] <;> omega) (fun x => by simp only [List.count_append] <;> omega)
 refine ⟨_, ⟨c1, c2, c4, c5, v, c7, f1, f2, f4, f5, f', f7, by rw [ea, eb], hf, ?_, ?_, ?_, ?_, ?_, ?_, rfl, hN⟩, fun g hg => by simp only [List.mem_append] at hg ⊢; grind⟩
 all_goals first | exact hv | exact k1 (fun g hg => hk g (by simp only [List.mem_append]; simp [hg])) | exact k2 (fun g hg => hk g (by simp only [List.mem_append]; simp [hg])) | exact k4 (fun g hg => hk g (by simp only [List.mem_append]; simp [hg])) | exact k5 (fun g hg => hk g (by simp only [List.mem_append]; simp [hg])) | exact k6 (fun g hg => hk g (by simp only [List.mem_append]; simp [hg])) | exact k7 (fun g hg => hk g (by simp only [List.mem_append]; simp [hg]))

theorem lens_assume (h : Ow.O (α := ProgD) w [a, c1, c2, b, c4, c5, c6, c7] p fp) : Lens (α := Int) w p fp c7 p.assume (fun v => [a, c1, c2, b, c4, c5, c6, v]) (fun ys => { p with assume := ys }) := by
 obtain ⟨d1, d2, d4, d5, d6, d7, f1, f2, f4, f5, f6, f7, e, hf, o1, o2, o4, o5, o6, o7, rfl, hn⟩ := h
 simp only [List.cons.injEq, and_true] at e
 obtain ⟨ea, rfl, rfl, eb, rfl, rfl, rfl, rfl⟩ := e
 refine ⟨f7, f1 ++ (f2 ++ (f4 ++ (f5 ++ f6))), by assumption, fun g hg => by simp only [List.mem_append]; simp [hg], fun g hg => by simp only [List.mem_append] at hg ⊢; grind, nodup_out hn fun x => by simp only [List.count_append] <;> omega, fun w' v ys f' hv hk hd => ?_⟩
 have k1 := fun (hm : ∀ g ∈ f1, w'.heap[g]? = w.heap[g]?) => Ow.kept (α := List RuleD) o1 hm
 have k2 := fun (hm : ∀ g ∈ f2, w'.heap[g]? = w.heap[g]?) => Ow.kept (α := List LevelD) o2 hm
 have k4 := fun (hm : ∀ g ∈ f4, w'.heap[g]? = w.heap[g]?) => Ow.kept (α := List Int) o4 hm
 have k5 := fun (hm : ∀ g ∈ f5, w'.heap[g]? = w.heap[g]?) => Ow.kept (α := List ShowD) o5 hm
 have k6 := fun (hm : ∀ g ∈ f6, w'.heap[g]? = w.heap[g]?) => Ow.kept (α := List (Int × Int)) o6 hm
 have k7 := fun (hm : ∀ g ∈ f7, w'.heap[g]? = w.heap[g]?) => Ow.kept (α := List Int) o7 hm
 have hN := nodup_swap (L' := f1 ++ (f2 ++ (f4 ++ (f5 ++ (f6 ++ f'))))) hn (Ow.nodup (α := List Int) hv) hd (fun x => by simp only [List.count_append] <;> omega) (fun x => by simp only [List.count_append] <;> omega)
 refine ⟨_, ⟨c1, c2, c4, c5, c6, v, f1, f2, f4, f5, f6, f', by rw [ea, eb], hf, ?_, ?_, ?_, ?_, ?_, ?_, rfl, hN⟩, fun g hg => by simp only [List.mem_append] at hg ⊢; grind⟩
 all_goals first | exact hv | exact k1 (fun g hg => hk g (by simp only [List.mem_append]; simp [hg])) | exact k2 (fun g hg => hk g (by simp only [List.mem_append]; simp [hg])) | exact k4 (fun g hg => hk g (by simp only [List.mem_append]; simp [hg])) | exact k5 (fun g hg => hk g (by simp only [List.mem_append]; simp [hg])) | exact k6 (fun g hg => hk g (by simp only [List.mem_append]; simp [hg])) | exact k7 (fun g hg => hk g (by simp only [List.mem_append]; simp [hg]))

end

/-! ### one element of a row -/
theorem count_set (a : Nat) (f : List Nat) : ∀ (L : List (List Nat)) (k : Nat), k < L.length → (L.set k f).flatten.count a + (L.getD k []).count a = L.flatten.count a + f.count a
 | [], k, h => by simp at h
 | l :: L, 0, _ => by
  rw [List.set_cons_zero, List.flatten_cons, List.flatten_cons, List.count_append, List.count_append, List.getD_cons_zero]
  omega
 | l :: L, k + 1, h => by
  have ih := count_set a f L k (by simpa using h)
  rw [List.set_cons_succ, List.flatten_cons, List.flatten_cons, List.count_append, List.count_append, List.getD_cons_succ]
  omega
theorem getD_set {L : List (List Nat)} {k i : Nat} {f : List Nat} (hk : k < L.length) : (L.set k f).getD i [] = if i = k then f else L.getD i [] := by
 rw [List.getD_eq_getElem?_getD, List.getElem?_set]
 by_cases h : k = i
 ·subst h; simp [hk]
 ·rw [if_neg h, if_neg (fun e => h e.symm), List.getD_eq_getElem?_getD]
theorem nth_set {α : Type} [Inhabited α] {xs : List α} {k i : Nat} {y : α} (hk : k < xs.length) : nth (xs.set k y) i = if i = k then y else nth xs i := by
 unfold nth
 rw [List.getD_eq_getElem?_getD, List.getElem?_set]
 by_cases h : k = i
 ·subst h; simp [hk]
 ·rw [if_neg h, if_neg (fun e => h e.symm), List.getD_eq_getElem?_getD]
theorem OwL.lensAt {α : Type} [Ow α] {w : World} {v : Value} {xs : List α} {fp : List Nat} (h : OwL w [v] xs fp) {k : Nat} (hk : k < xs.length) :
  ∃ (g : Nat) (e : TypeId) (cur : Array Value) (cap : Nat) (f fr : List Nat) (ecs : List Value), v = .slice (some ⟨g, 0, none⟩) xs.length cap ∧ w.heap[g]? = some (.cells cur e (0, 0)) ∧ k * Rd.k α + Rd.k α ≤ cur.size ∧ Cells w g (k * Rd.k α) ecs ∧ Ow.O w ecs (nth xs k) f ∧
   g ∈ fp ∧ g ∉ f ∧ (∀ b ∈ f, b ∈ fp) ∧ (∀ b ∈ fr, b ∈ fp ∧ b ≠ g ∧ b ∉ f) ∧
   ∀ (w' : World) (cur' : Array Value) (ecs' : List Value) (y : α) (f' : List Nat), w'.heap[g]? = some (.cells cur' e (0, 0)) → cur'.size = cur.size → (∀ m, m < k * Rd.k α ∨ k * Rd.k α + Rd.k α ≤ m → cur'[m]? = cur[m]?) → Cells w' g (k * Rd.k α) ecs' → Ow.O w' ecs' y f' →
    (∀ b ∈ fr, w'.heap[b]? = w.heap[b]?) → (∀ b ∈ f', b ≠ g ∧ b ∉ fr) → ∃ fp', OwL w' [v] (xs.set k y) fp' ∧ ∀ b ∈ fp', b = g ∨ b ∈ f' ∨ b ∈ fr := by
 obtain ⟨a, cap, he, hle, hcm, hrow⟩ := h
 simp only [List.cons.injEq, and_true] at he
 subst he
 rcases hrow with ⟨rfl, _⟩ | ⟨g, e, cur, fps, rfl, hh, hcs, hfl, rfl, hnd, hx⟩
 ·simp at hk
 obtain ⟨hgn, hnf⟩ := List.nodup_cons.1 hnd
 obtain ⟨ecs, hC, hO⟩ := hx k hk
 have hkf : k < fps.length := by omega
 have hcnt := fun x => count_set x [] fps k hkf
 have hsub : ∀ b ∈ (fps.set k []).flatten, b ∈ fps.flatten := fun b hb => by
  have h1 := List.count_pos_iff.2 hb
  have h2 := hcnt b
  exact List.count_pos_iff.1 (by rw [List.count_nil] at h2; omega)
 have hout : ∀ b ∈ (fps.set k []).flatten, b ∉ fps.getD k [] := fun b hb hm => by
  have h1 := List.count_pos_iff.2 hb
  have h2 := hcnt b
  have h3 := List.count_pos_iff.2 hm
  have h4 := List.nodup_iff_count.1 hnf b
  rw [List.count_nil] at h2
  omega
 have hroom := mul_room (K := Rd.k α) hk
 have hcap : xs.length * Rd.k α ≤ cur.size := Nat.le_trans (Nat.mul_le_mul_right _ hle) hcs
 refine ⟨g, e, cur, cap, fps.getD k [], (fps.set k []).flatten, ecs, rfl, hh, by omega, hC, hO, List.mem_cons_self .., fun hm => hgn (mem_flat hm), fun b hb => List.mem_cons_of_mem _ (mem_flat hb), fun b hb => ⟨List.mem_cons_of_mem _ (hsub b hb), fun e => hgn (e ▸ hsub b hb), hout b hb⟩, ?_⟩
 intro w' cur' ecs' y f' hh' hs' hc' hC' hO' hk' hd'
 have hcnt' := fun x => count_set x f' fps k hkf
 have hlen : (xs.set k y).length = xs.length := List.length_set
 have hmem : ∀ b ∈ (fps.set k f').flatten, b ∈ f' ∨ b ∈ (fps.set k []).flatten := fun b hb => by
  have h1 := List.count_pos_iff.2 hb
  have h2 := hcnt b
  have h3 := hcnt' b
  rw [List.count_nil] at h2
  by_cases hm : b ∈ f'
  ·exact .inl hm
  ·have h5 : f'.count b = 0 := List.count_eq_zero.2 hm
   exact .inr (List.count_pos_iff.1 (by omega))
 refine ⟨g :: (fps.set k f').flatten, ⟨some ⟨g, 0, none⟩, cap, by rw [hlen], by rw [hlen]; exact hle, hcm, .inr ⟨g, e, cur', fps.set k f', rfl, hh', by rw [hs']; exact hcs, by simp [hfl], rfl, ?_, fun i hi => ?_⟩⟩, fun b hb => ?_⟩
 ·refine List.nodup_cons.2 ⟨fun hm => ?_, List.nodup_iff_count.2 fun x => ?_⟩
  ·rcases hmem g hm with h1 | h1
   ·exact (hd' g h1).1 rfl
   ·exact hgn (hsub g h1)
  ·have h1 := List.nodup_iff_count.1 hnf x
   have h2 := List.nodup_iff_count.1 (Ow.nodup hO') x
   have h3 := hcnt x
   have h4 := hcnt' x
   rw [List.count_nil] at h3
   by_cases hm : x ∈ f'
   ·have h5 : (fps.set k []).flatten.count x = 0 := List.count_eq_zero.2 (hd' x hm).2
    omega
   ·have h5 : f'.count x = 0 := List.count_eq_zero.2 hm
    omega
 ·rw [hlen] at hi
  rw [nth_set hk, getD_set hkf]
  by_cases hik : i = k
  ·subst hik
   rw [if_pos rfl, if_pos rfl]
   exact ⟨ecs', hC', hO'⟩
  ·rw [if_neg hik, if_neg hik]
   obtain ⟨es, hCi, hOi⟩ := hx i hi
   have hes := Rd.len (Ow.rd hOi)
   refine ⟨es, fun j u hu => ?_, Ow.kept hOi fun b hb => hk' b ?_⟩
   ·have hj : j < es.length := (List.getElem?_eq_some_iff.1 hu).1
    have h0 := hCi j u hu
    rw [cell_of_row w g _ _ _ _ hh] at h0
    rw [cell_of_row _ g _ _ _ _ hh', hc' _ ?_]
    ·exact h0
    ·rcases Nat.lt_or_ge i k with hl | hl
     ·have := mul_room (K := Rd.k α) hl
      left; omega
     ·have := mul_room (K := Rd.k α) (show k < i by omega)
      right; omega
   ·have h1 := hcnt b
    have h2 := List.count_pos_iff.2 hb
    refine List.count_pos_iff.1 ?_
    have h3 : ((fps.set k []).getD i []).count b = (fps.getD i []).count b := by rw [getD_set hkf, if_neg hik]
    have h4 : b ∈ (fps.set k []).flatten := mem_flat (i := i) (List.count_pos_iff.1 (by rw [h3]; exact h2))
    exact List.count_pos_iff.2 h4
 ·rcases List.mem_cons.1 hb with rfl | hb
  ·exact .inl rfl
  ·exact .inr (hmem b hb)
end Go.Proofs.YthikhkeofcjdfaaGreat
