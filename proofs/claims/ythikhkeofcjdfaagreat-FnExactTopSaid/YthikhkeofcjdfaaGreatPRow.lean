/-
 A row of pairs of the call's own. No condition of its own.
-/
import Derived.Test.YthikhkeofcjdfaaGreatOwnR
import Derived.Test.YthikhkeofcjdfaaGreatCopy
namespace Go.Proofs.YthikhkeofcjdfaaGreat
set_option linter.unusedVariables false
set_option linter.unusedSimpArgs false
open Go.RowKit
set_option maxRecDepth 100000

abbrev Pr := Int × Int
def PRow (B : Nat) (D : Nat → Prop) (w : World) (v : Value) (xs : List Pr) : Prop := OwnF B 94 w v xs ∧ ∀ g, v.ownBlock = some g → D g
def encP (p : Pr) : List Value := [.int .i64 p.1, .int .i64 p.2]
theorem encP_len (xs : List Pr) : (xs.flatMap encP).length = xs.length * 2 := by
 induction xs with
 | nil => rfl
 | cons p r ih => rw [List.flatMap_cons, List.length_append, ih, List.length_cons]; simp [encP]; omega
theorem encP_0 {xs : List Pr} {i : Nat} (h : i < xs.length) : (xs.flatMap encP)[i * 2]? = some (.int .i64 (nth xs i).1) := by
 induction xs generalizing i with
 | nil => simp at h
 | cons p r ih =>
  cases i with
  | zero => rfl
  | succ i =>
   rw [List.flatMap_cons, List.getElem?_append_right (by simp [encP]; omega)]
   rw [show (i + 1) * 2 - (encP p).length = i * 2 by simp [encP]; omega]
   rw [ih (by simpa using h)]
   rfl
theorem encP_1 {xs : List Pr} {i : Nat} (h : i < xs.length) : (xs.flatMap encP)[i * 2 + 1]? = some (.int .i64 (nth xs i).2) := by
 induction xs generalizing i with
 | nil => simp at h
 | cons p r ih =>
  cases i with
  | zero => rfl
  | succ i =>
   rw [List.flatMap_cons, List.getElem?_append_right (by simp [encP]; omega)]
   rw [show (i + 1) * 2 + 1 - (encP p).length = i * 2 + 1 by simp [encP]; omega]
   rw [ih (by simpa using h)]
   rfl
theorem encP_set {xs : List Pr} {i : Nat} (W : Int) : ∀ (h : i < xs.length), (xs.flatMap encP).set (i * 2 + 1) (.int .i64 W) = (xs.set i ((nth xs i).1, W)).flatMap encP := by
 induction xs generalizing i with
 | nil => intro h; simp at h
 | cons p r ih =>
  intro h
  cases i with
  | zero => rfl
  | succ i =>
   rw [List.flatMap_cons, List.set_append_right _ _ (by simp [encP]; omega), List.set_cons_succ, List.flatMap_cons]
   rw [show (i + 1) * 2 + 1 - (encP p).length = i * 2 + 1 by simp [encP]; omega]
   rw [ih (by simpa using h)]
   rfl

theorem PRow.rd {B : Nat} {D : Nat → Prop} {w : World} {v : Value} {xs : List Pr} (h : PRow B D w v xs) : RdL w [v] xs := h.1.own.rd
theorem PRow.weak {B B' : Nat} {D D' : Nat → Prop} {w : World} {v : Value} {xs : List Pr} (h : PRow B D w v xs) (hB : B' ≤ B) (hD : ∀ f, D f → D' f) : PRow B' D' w v xs := by
 obtain ⟨⟨⟨h1, h2⟩, h3⟩, h4⟩ := h
 exact ⟨⟨⟨h1, h2.imp id fun ⟨g, cap, cur, e1, e2, r⟩ => ⟨g, cap, cur, e1, Nat.le_trans hB e2, r⟩⟩, h3⟩, fun g hg => hD g (h4 g hg)⟩
theorem PRow.lt {B : Nat} {D : Nat → Prop} {w : World} {v : Value} {xs : List Pr} (h : PRow B D w v xs) {g : Nat} (hg : v.ownBlock = some g) : B ≤ g ∧ g < w.heap.size := h.1.1.lt g hg
theorem PRow.bound {B : Nat} {D : Nat → Prop} {w : World} {v : Value} {xs : List Pr} (h : PRow B D w v xs) : PRow B (fun f => D f ∧ B ≤ f ∧ f < w.heap.size) w v xs := ⟨h.1, fun g hg => ⟨h.2 g hg, h.lt hg⟩⟩
theorem PRow.keep {B : Nat} {D : Nat → Prop} {w w' : World} {v : Value} {xs : List Pr} (h : PRow B D w v xs) (hk : ∀ g, D g → B ≤ g → g < w.heap.size → w'.heap[g]? = w.heap[g]?) : PRow B D w' v xs := by
 have hl := fun g => h.lt (g := g)
 obtain ⟨⟨⟨h1, h2⟩, h3⟩, h4⟩ := h
 refine ⟨⟨⟨h1, h2.imp id fun ⟨g, cap, cur, e1, e2, e3, r⟩ => ⟨g, cap, cur, e1, e2, ?_, r⟩⟩, h3⟩, h4⟩
 have hg : v.ownBlock = some g := by rw [e1]; rfl
 rw [hk g (h4 g hg) (hl g hg).1 (hl g hg).2]; exact e3
theorem PRow.later {B : Nat} {D : Nat → Prop} {w w' : World} {v : Value} {xs : List Pr} (h : PRow B D w v xs) (hb : Below w.heap.size w w') : PRow B D w' v xs := h.keep fun g _ _ hl => hb.block g hl
theorem PRow.fits {B : Nat} {D : Nat → Prop} {w : World} {v : Value} {xs : List Pr} (h : PRow B D w v xs) : ∀ p ∈ xs, Fits p.1 ∧ Fits p.2 := h.1.2
theorem PRow.form {B : Nat} {D : Nat → Prop} {w : World} {v : Value} {xs : List Pr} (h : PRow B D w v xs) :
  (v = .slice none 0 0 ∧ xs = []) ∨ ∃ g cap, v = .slice (some ⟨g, 0, none⟩) xs.length cap ∧ xs.length ≤ cap ∧ cap ≤ 9223372036854775807 ∧ D g ∧ B ≤ g ∧ g < w.heap.size := by
 have hl := fun g => h.lt (g := g)
 obtain ⟨⟨⟨h1, h2⟩, h3⟩, h4⟩ := h
 rcases h2 with ⟨rfl, hn⟩ | ⟨g, cap, cur, rfl, hg, hh, hnc, hcm, _⟩
 ·exact .inl ⟨rfl, List.eq_nil_of_length_eq_zero hn⟩
 ·exact .inr ⟨g, cap, rfl, hnc, by unfold maxLen at hcm; omega, h4 g rfl, (hl g rfl).1, (hl g rfl).2⟩
theorem PRow.cell {B : Nat} {D : Nat → Prop} {w : World} {g cap n : Nat} {xs : List Pr} (h : PRow B D w (.slice (some ⟨g, 0, none⟩) n cap) xs) {i : Nat} (hi : i < xs.length) :
  w.cell? ⟨g, i * 2, none⟩ = some (.int .i64 (nth xs i).1) ∧ w.cell? ⟨g, i * 2 + 1, none⟩ = some (.int .i64 (nth xs i).2) := by
 have hr : w.ownsRow B 94 2 (.slice (some ⟨g, 0, none⟩) n cap) xs.length (xs.flatMap encP) := h.1.1
 have hn : n = xs.length := by
  rcases hr.2 with ⟨h, _⟩ | ⟨_, _, _, h, _⟩
  ·cases h
  ·cases h; rfl
 subst hn
 exact ⟨by rw [hr.cellAt _ (by omega), encP_0 hi], by rw [hr.cellAt _ (by omega), encP_1 hi]⟩
theorem PRow.frozen {B : Nat} {D : Nat → Prop} {w : World} {g cap n : Nat} {xs : List Pr} (h : PRow B D w (.slice (some ⟨g, 0, none⟩) n cap) xs) (j : Nat) : w.frozen? ⟨g, j, none⟩ = false := by
 rcases h.1.1.2 with ⟨h, _⟩ | ⟨g', cap', cur, h, _, hh, _⟩
 ·cases h
 ·cases h
  exact frozen_of_row w g j _ _ hh
theorem PRow.setW {B : Nat} {D : Nat → Prop} {w : World} {g cap n : Nat} {xs : List Pr} (h : PRow B D w (.slice (some ⟨g, 0, none⟩) n cap) xs) {i : Nat} (hi : i < xs.length) {W : Int} (hW : Fits W) :
  PRow B D (w.setCell ⟨g, i * 2 + 1, none⟩ (.int .i64 W)) (.slice (some ⟨g, 0, none⟩) n cap) (xs.set i ((nth xs i).1, W)) := by
 obtain ⟨⟨⟨h1, h2⟩, h3⟩, h4⟩ := h
 have hlen : (xs.set i ((nth xs i).1, W)).length = xs.length := List.length_set ..
 have h1 : (xs.flatMap encP).length = xs.length * 2 := h1
 refine ⟨⟨⟨?_, ?_⟩, ?_⟩, h4⟩
 ·show ((xs.set i ((nth xs i).1, W)).flatMap encP).length = _ * 2
  exact encP_len _
 ·rcases h2 with ⟨h2, _⟩ | ⟨g', cap', cur, he, hg, hh, hnc, hcm, hcs, ht⟩
  ·cases h2
  ·cases he
   have ht : cur.toList.take (xs.length * 2) = xs.flatMap encP := ht
   refine .inr ⟨g, cap, cur.setIfInBounds (i * 2 + 1) (.int .i64 W), by rw [hlen], hg, heap_setCell_same w g (i * 2 + 1) cur _ _ hh, by rw [hlen]; exact hnc, hcm, by simpa using hcs, ?_⟩
   show (cur.setIfInBounds (i * 2 + 1) (.int .i64 W)).toList.take ((xs.set i ((nth xs i).1, W)).length * 2) = (xs.set i ((nth xs i).1, W)).flatMap encP
   rw [hlen, Array.toList_setIfInBounds, List.take_set, ht]
   exact encP_set W hi
 ·intro p hp
  rcases List.mem_or_eq_of_mem_set hp with hp | rfl
  ·exact h3 p hp
  ·exact ⟨(h3 _ (nth_mem hi)).1, hW⟩

theorem PRow.made {B : Nat} {D : Nat → Prop} {w : World} {g : Nat} {v : Value} (h : w.ownsRow B 94 2 v 0 []) (hD : ∀ g, v.ownBlock = some g → D g) : PRow B D w v [] := ⟨⟨h, by simp⟩, hD⟩
theorem PRow.lit (w : World) (D : Nat → Prop) (hD : D w.heap.size) : PRow w.heap.size D (w.alloc (.cells #[] 94)) (.slice (some ⟨w.heap.size, 0, none⟩) 0 0) [] :=
 ⟨OwnF.new w (Nat.le_refl _), fun g hg => by simp [Value.ownBlock] at hg; exact hg ▸ hD⟩
theorem PRow.nil (B : Nat) (D : Nat → Prop) (w : World) : PRow B D w (.slice none 0 0) [] := ⟨⟨World.ownsRow_nil _ _ _ _, by simp⟩, fun g hg => by simp [Value.ownBlock] at hg⟩

theorem PRow.append {P : Program} {w : World} {B : Nat} {D : Nat → Prop} {t ty : TypeId} {v : Value} {xs : List Pr} {p : Pr} {g c : Nat}
  (i : TypeInfo) (z : Value) (ht : P.underlying t = some (.slice 94)) (hi : P.info? 94 = some i) (hz : i.zero = some z) (hsize : i.size = 2) (hby : i.bytes = 16) (hzs : z.cells.size = 2)
  (hown : PRow B D w v xs) (hc : Cells w g 0 [.int .i64 p.1, .int .i64 p.2]) (hf : Fits p.1 ∧ Fits p.2) (hl : xs.length ≤ 1000000) (hB : B ≤ w.heap.size) :
  ∃ v' w', (Builtin.append_ #[t, t] ty #[v, .slice (some ⟨g, 0, none⟩) 1 c]).run P w = .ok v' w' ∧ PRow B (fun f => D f ∨ w.heap.size ≤ f) w' v' (xs ++ [p]) ∧ Below B w w' ∧ (∀ k, k < w.heap.size → ¬ D k → w'.heap[k]? = w.heap[k]?) := by
 obtain ⟨⟨hr, hok⟩, hD⟩ := hown
 obtain ⟨v', w', r1, r2, r3, _, r5⟩ := run_append_own_at (P := P) w B t ty 94 i z 2 16 ht hi hz hsize hby hzs (by decide) v xs.length (xs.flatMap encP) hr ⟨g, 0, none⟩ 1 c (encP p) rfl (fun j u hu => by
  have := hc j u hu
  rw [Nat.zero_add] at this
  unfold Addr.add
  by_cases e : j = 0
  ·subst e; exact this
  ·rw [if_neg e]; rw [show ({ block := g, off := 0 + j } : Addr) = ⟨g, j, none⟩ by simp]; exact this) (fun u hu => by simp [encP] at hu; rcases hu with rfl | rfl <;> rfl) (by unfold maxLen; omega) (by omega) hB
 refine ⟨v', w', r1, ⟨⟨?_, ?_⟩, fun f hf => ?_⟩, (Below.refl _ _).grown r3 hB fun k hk => (hr.lt k hk).1, fun k hk hd => r3.block k hk fun e => hd (hD k e.symm)⟩
 ·rw [List.length_append, List.flatMap_append]
  exact r2
 ·intro q hq
  rcases List.mem_append.1 hq with hq | hq
  ·exact hok q hq
  ·rw [List.mem_singleton.1 hq]; exact hf
 ·rcases r5 with r5 | r5
  ·exact .inl (hD f (r5 ▸ hf))
  ·rw [r5] at hf; exact .inr (by have := Option.some.inj hf; omega)

end Go.Proofs.YthikhkeofcjdfaaGreat
