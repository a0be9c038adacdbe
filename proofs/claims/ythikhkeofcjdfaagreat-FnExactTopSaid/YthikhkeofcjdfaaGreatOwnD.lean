/-
 A row whose elements own memory, its blocks told by a word: one more element. No condition of its own.
-/
import Derived.Test.YthikhkeofcjdfaaGreatOwnR
namespace Go.Proofs.YthikhkeofcjdfaaGreat
set_option linter.unusedVariables false
set_option linter.unusedSimpArgs false
open Go.RowKit
set_option maxRecDepth 100000

theorem OwnD.ltD {α : Type} [Ow α] {B : Nat} {D : Nat → Prop} {e : TypeId} {w : World} {v : Value} {xs : List α} (h : OwnD B D e w v xs) : OwnD B (fun f => D f ∧ f < w.heap.size) e w v xs := by
 obtain ⟨ys, fps, h1, h2, h3, h4⟩ := h
 exact ⟨ys, fps, h1, h2, fun f hf => ⟨⟨(h3 f hf).1, h2.lt f hf⟩, (h3 f hf).2⟩, fun g hg => ⟨h4 g hg, (h1.lt g hg).2⟩⟩
theorem OwnD.at {α : Type} [Ow α] {B : Nat} {D : Nat → Prop} {e : TypeId} {w : World} {v : Value} {xs : List α} (h : OwnD B D e w v xs) : ∀ g, v.ownBlock = some g → D g := by
 obtain ⟨_, _, _, _, _, h4⟩ := h; exact h4
theorem OwnD.start {α : Type} [Ow α] {B : Nat} {D : Nat → Prop} {e : TypeId} {w : World} {v : Value} (h : w.ownsRow B e (Rd.k α) v 0 []) (hD : ∀ g, v.ownBlock = some g → D g) : OwnD (α := α) B D e w v [] := ⟨[], [], h, Els.nil _ _, by simp, hD⟩
theorem run_append_oneD {α : Type} [Ow α] {P : Program} {w0 w : World} {B : Nat} {D : Nat → Prop} {t ty e : TypeId} {v : Value} {xs : List α} {y : α} {ecs : List Value} {g c : Nat}
  (i : TypeInfo) (z : Value) (bytes : Nat) (ht : P.underlying t = some (.slice e)) (hi : P.info? e = some i) (hz : i.zero = some z) (hsize : i.size = Rd.k α) (hby : i.bytes = bytes) (hzs : z.cells.size = Rd.k α) (hK : 0 < Rd.k α)
  (hown : OwnD B D e w0 v xs) (hb : Below w0.heap.size w0 w) (hc : Cells w g 0 ecs) (ho : Own w0.heap.size w ecs y) (hD : ∀ f, w0.heap.size ≤ f → D f)
  (hl : (xs.length + 1) * bytes ≤ 140737488355328) (hl2 : xs.length + 1 ≤ 140737488355328) (hB : B ≤ w0.heap.size) :
  ∃ v' w', (Builtin.append_ #[t, t] ty #[v, .slice (some ⟨g, 0, none⟩) 1 c]).run P w = .ok v' w' ∧ OwnD B D e w' v' (xs ++ [y]) ∧ Below B w w' ∧ w.grownBy w' v.ownBlock := by
 obtain ⟨fp, ho, hfp⟩ := ho
 obtain ⟨v', w', r1, r2, r3, r4⟩ := run_append_D (α := α) (P := P) (w := w) (zs := [y]) (fps2 := [fp]) (ad := ⟨g, 0, none⟩) (c := c) (ty := ty) (D2 := fun f => w0.heap.size ≤ f) i z bytes ht hi hz hsize hby hzs hK (hown.ltD.later hb)
  ⟨g, 0, rfl, rfl, by simpa using Ow.nodup ho, fun j hj => by
   have : j = 0 := by simp at hj; omega
   subst this
   exact ⟨ecs, by rw [Nat.zero_mul]; exact hc, ho⟩⟩ (fun f hf => hfp f (by simpa using hf)) (fun f h1 h2 => by have := h1.2; omega) hl hl2 (Nat.le_trans hB hb.size)
 exact ⟨v', w', r1, r2.weak (Nat.le_refl _) fun f hf => hf.elim (fun h => h.1) fun h => h.elim (hD f) fun h => hD f (Nat.le_trans hb.size h), r3, r4⟩

theorem ownD_own {α : Type} [Ow α] {B : Nat} {D : Nat → Prop} {e : TypeId} {w : World} {v : Value} {xs : List α} (h : OwnD B D e w v xs) (hD : ∀ f, D f → B ≤ f) : Own B w [v] xs := by
 obtain ⟨fp, h1, h2⟩ := h.own
 exact ⟨fp, h1, fun f hf => hD f (h2 f hf)⟩

theorem own_int {lo : Nat} {w : World} {n : Int} (h : Fits n) : Own lo w [.int .i64 n] n := ⟨[], ⟨⟨rfl, h⟩, rfl⟩, by simp⟩
theorem own_pair {lo : Nat} {w : World} {a b : Int} (h : Fits a) (k : Fits b) : Own lo w [.int .i64 a, .int .i64 b] (a, b) := ⟨[], ⟨⟨rfl, h, k⟩, rfl⟩, by simp⟩

end Go.Proofs.YthikhkeofcjdfaaGreat
