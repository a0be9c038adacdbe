/-
 Lists that are copied side by side, in whatever order. No condition of its own.
-/
import Derived.Test.YthikhkeofcjdfaaGreatCopyS
namespace Go.Proofs.YthikhkeofcjdfaaGreat
set_option linter.unusedVariables false
set_option linter.unusedSimpArgs false
open Go.RowKit
set_option maxRecDepth 100000

theorem OwnF.ownB {α : Type} [Fl α] {B : Nat} {e : TypeId} {w : World} {v : Value} {xs : List α} (h : OwnF B e w v xs) : ∃ fp, OwL w [v] xs fp ∧ ∀ b ∈ fp, v.ownBlock = some b := by
 obtain ⟨⟨h1, h2⟩, h3⟩ := h
 rcases h2 with ⟨rfl, hn⟩ | ⟨g, cap, cur, rfl, hg, hh, hnc, hcm, hcs, ht⟩
 ·have : xs = [] := List.eq_nil_of_length_eq_zero hn
  subst this
  exact ⟨[], ⟨none, 0, rfl, Nat.le_refl _, by omega, .inl ⟨rfl, rfl, rfl⟩⟩, by simp⟩
 ·refine ⟨[g], ⟨_, _, rfl, hnc, by unfold maxLen at hcm; omega, ?_⟩, fun x hx => by simp at hx; subst hx; rfl⟩
  have hr : w.ownsRow B e (Rd.k α) (.slice (some ⟨g, 0, none⟩) xs.length cap) xs.length (xs.flatMap Fl.enc) := ⟨h1, .inr ⟨g, cap, cur, rfl, hg, hh, hnc, hcm, hcs, ht⟩⟩
  refine .inr ⟨g, e, cur, List.replicate xs.length [], rfl, hh, by rw [hcs]; exact Nat.le_refl _, by simp, by simp, by simp, fun i hi => ?_⟩
  refine ⟨Fl.enc (nth xs i), fun j v hv => ?_, Fl.ospec.2 ⟨Fl.spec.2 ⟨rfl, h3 _ (nth_mem hi)⟩, by simp [List.getD_eq_getElem?_getD, List.getElem?_replicate, hi]⟩⟩
  have hj : j < (Fl.enc (nth xs i)).length := (List.getElem?_eq_some_iff.1 hv).1
  rw [enc_lenI (h3 _ (nth_mem hi))] at hj
  have hroom := mul_room (K := Rd.k α) hi
  rw [hr.cellAt _ (by omega)]
  exact flat_at h3 hi hv

/-- 'append([]T{}, xs...)', the empty slice lying in block g. -/
theorem run_append_lit {α : Type} [Fl α] {P : Program} {w : World} {t ty e : TypeId} {c : Value} {xs : List α} {g : Nat}
  (i : TypeInfo) (z : Value) (bytes : Nat) (ht : P.underlying t = some (.slice e)) (hi : P.info? e = some i) (hz : i.zero = some z) (hsize : i.size = Rd.k α) (hby : i.bytes = bytes) (hzs : z.cells.size = Rd.k α)
  (hh : w.heap[g]? = some (.cells #[] e (0, 0))) (hr : RdL w [c] xs) (hl : xs.length * bytes ≤ 140737488355328) (hl2 : xs.length ≤ 140737488355328) :
  ∃ v' w' F, (Builtin.append_ #[t, t] ty #[.slice (some ⟨g, 0, none⟩) 0 0, c]).run P w = .ok v' w' ∧ OwL w' [v'] xs F ∧ (∀ b ∈ F, b = g ∨ b = w.heap.size) ∧ w.grownBy w' (some g) := by
 obtain ⟨ad, cap, rfl, _, hrow⟩ := hr.sl
 have hK : 0 < Rd.k α := Fl.pos
 have hown : w.ownsRow 0 e (Rd.k α) (.slice (some ⟨g, 0, none⟩) 0 0) 0 [] := ⟨by simp, .inr ⟨g, 0, #[], rfl, Nat.zero_le _, hh, Nat.le_refl _, by simp [maxLen], by simp, by simp⟩⟩
 have hoky : ∀ y ∈ xs, Fl.ok y := by
  intro y hy
  obtain ⟨k, hk, rfl⟩ := List.getElem_of_mem hy
  obtain ⟨_, _, cs, _, _, hr⟩ := hrow.2 k hk
  rw [nth_eq hk] at hr
  exact (Fl.spec.1 hr).2
 cases ad with
 | none =>
  have hn := row_none hrow
  subst hn
  refine ⟨_, w, [], run_append_none_any (P := P) w 0 t ty e i (Rd.k α) ht hi _ 0 [] hown cap, ⟨_, 0, rfl, Nat.le_refl _, by omega, .inl ⟨rfl, rfl, rfl⟩⟩, by simp, World.grownBy.refl w _⟩
 | some ad =>
  obtain ⟨v', w', r1, r2, r3, _, r5⟩ := run_append_own_at (P := P) w 0 t ty e i z (Rd.k α) bytes ht hi hz hsize hby hzs hK _ 0 [] hown ad xs.length cap (xs.flatMap Fl.enc) (flat_len hoky) (by
   by_cases hne : 0 < xs.length
   ·obtain ⟨b, off, ha, hc⟩ := hrow.base hne
    cases ha
    intro j u hu
    have := flat_cells hoky hc j u hu
    unfold Addr.add
    by_cases hj : j = 0
    ·subst hj; simpa using this
    ·rw [if_neg hj]; exact this
   ·have : xs = [] := by cases xs <;> simp_all
    subst this
    intro j u hu
    simp at hu) (flat_one hoky) (by unfold maxLen; omega) (by rw [Nat.zero_add]; exact hl) (Nat.zero_le _)
  have hF : OwnF 0 e w' v' xs := ⟨by rw [Nat.zero_add, List.nil_append] at r2; exact r2, hoky⟩
  obtain ⟨fp, o, hb⟩ := hF.ownB
  refine ⟨v', w', fp, r1, o, fun b hbm => ?_, r3⟩
  have := hb b hbm
  rcases r5 with r5 | r5
  ·rw [r5] at this; simp [Value.ownBlock] at this; exact .inl this.symm
  ·rw [r5] at this; exact .inr (Option.some.inj this).symm

/-- One of the lists: not begun (0), its empty slice made (1), copied (2). -/
def It {α : Type} [Ow α] (e : TypeId) (w : World) (q : Nat) (vb va : Value) (xs : List α) (F : List Nat) : Prop :=
 match q with
 | 0 => F = []
 | 1 => ∃ g, vb = .slice (some ⟨g, 0, none⟩) 0 0 ∧ w.heap[g]? = some (.cells #[] e (0, 0)) ∧ F = [g]
 | _ => OwL w [va] xs F
def Ia (e : TypeId) (zs : Array Value) (w : World) (q : Nat) (v3 : Value) (F : List Nat) : Prop :=
 match q with
 | 0 => F = []
 | _ => ∃ g, v3 = .pointer (some ⟨g, 0, none⟩) ∧ w.heap[g]? = some (.cells zs e (0, 0)) ∧ F = [g]
theorem It.kept {α : Type} [Ow α] {e : TypeId} {w w' : World} {q : Nat} {vb va : Value} {xs : List α} {F : List Nat} (h : It e w q vb va xs F) (hk : ∀ g ∈ F, w'.heap[g]? = w.heap[g]?) : It e w' q vb va xs F := by
 match q, h with
 | 0, h => exact h
 | 1, h =>
  obtain ⟨g, h1, h2, rfl⟩ := h
  exact ⟨g, h1, (hk g (by simp)).trans h2, rfl⟩
 | q + 2, h => exact Ow.kept (α := List α) h hk
theorem Ia.kept {e : TypeId} {zs : Array Value} {w w' : World} {q : Nat} {v3 : Value} {F : List Nat} (h : Ia e zs w q v3 F) (hk : ∀ g ∈ F, w'.heap[g]? = w.heap[g]?) : Ia e zs w' q v3 F := by
 match q, h with
 | 0, h => exact h
 | q + 1, h =>
  obtain ⟨g, h1, h2, rfl⟩ := h
  exact ⟨g, h1, (hk g (by simp)).trans h2, rfl⟩

/-- Four parts that lie apart, all from lo on. -/
structure Apart (lo : Nat) (w : World) (F1 F2 F3 F4 : List Nat) : Prop where
 d12 : ∀ g, g ∈ F1 → g ∈ F2 → False
 d13 : ∀ g, g ∈ F1 → g ∈ F3 → False
 d14 : ∀ g, g ∈ F1 → g ∈ F4 → False
 d23 : ∀ g, g ∈ F2 → g ∈ F3 → False
 d24 : ∀ g, g ∈ F2 → g ∈ F4 → False
 d34 : ∀ g, g ∈ F3 → g ∈ F4 → False
 b1 : ∀ g ∈ F1, lo ≤ g ∧ g < w.heap.size
 b2 : ∀ g ∈ F2, lo ≤ g ∧ g < w.heap.size
 b3 : ∀ g ∈ F3, lo ≤ g ∧ g < w.heap.size
 b4 : ∀ g ∈ F4, lo ≤ g ∧ g < w.heap.size
/-- A part that grows by new blocks. -/
def Grows (lo : Nat) (w w' : World) (F F' : List Nat) : Prop := lo ≤ w.heap.size ∧ w.heap.size ≤ w'.heap.size ∧ ∀ g ∈ F', (g ∈ F ∨ w.heap.size ≤ g) ∧ g < w'.heap.size
theorem Grows.dis {lo : Nat} {w w' : World} {F F' G : List Nat} (h : Grows lo w w' F F') (hd : ∀ g, g ∈ F → g ∈ G → False) (hb : ∀ g ∈ G, lo ≤ g ∧ g < w.heap.size) : ∀ g, g ∈ F' → g ∈ G → False :=
 fun g h1 h2 => (h.2.2 g h1).1.elim (fun h => hd g h h2) (fun h => by have := hb g h2; omega)
theorem Grows.bd {lo : Nat} {w w' : World} {F F' : List Nat} (h : Grows lo w w' F F') (hb : ∀ g ∈ F, lo ≤ g ∧ g < w.heap.size) : ∀ g ∈ F', lo ≤ g ∧ g < w'.heap.size :=
 fun g h1 => ⟨(h.2.2 g h1).1.elim (fun h => (hb g h).1) (fun h' => Nat.le_trans h.1 h'), (h.2.2 g h1).2⟩
theorem Grows.up {lo : Nat} {w w' : World} {F F' G : List Nat} (h : Grows lo w w' F F') (hb : ∀ g ∈ G, lo ≤ g ∧ g < w.heap.size) : ∀ g ∈ G, lo ≤ g ∧ g < w'.heap.size :=
 fun g hg => ⟨(hb g hg).1, Nat.lt_of_lt_of_le (hb g hg).2 h.2.1⟩
theorem Apart.g1 {lo : Nat} {w w' : World} {F1 F2 F3 F4 F' : List Nat} (h : Apart lo w F1 F2 F3 F4) (g : Grows lo w w' F1 F') : Apart lo w' F' F2 F3 F4 :=
 ⟨g.dis h.d12 h.b2, g.dis h.d13 h.b3, g.dis h.d14 h.b4, h.d23, h.d24, h.d34, g.bd h.b1, g.up h.b2, g.up h.b3, g.up h.b4⟩
theorem Apart.g2 {lo : Nat} {w w' : World} {F1 F2 F3 F4 F' : List Nat} (h : Apart lo w F1 F2 F3 F4) (g : Grows lo w w' F2 F') : Apart lo w' F1 F' F3 F4 :=
 ⟨fun x a b => g.dis (fun x a b => h.d12 x b a) h.b1 x b a, h.d13, h.d14, g.dis h.d23 h.b3, g.dis h.d24 h.b4, h.d34, g.up h.b1, g.bd h.b2, g.up h.b3, g.up h.b4⟩
theorem Apart.g3 {lo : Nat} {w w' : World} {F1 F2 F3 F4 F' : List Nat} (h : Apart lo w F1 F2 F3 F4) (g : Grows lo w w' F3 F') : Apart lo w' F1 F2 F' F4 :=
 ⟨h.d12, fun x a b => g.dis (fun x a b => h.d13 x b a) h.b1 x b a, h.d14, fun x a b => g.dis (fun x a b => h.d23 x b a) h.b2 x b a, h.d24, g.dis h.d34 h.b4, g.up h.b1, g.up h.b2, g.bd h.b3, g.up h.b4⟩
theorem Apart.g4 {lo : Nat} {w w' : World} {F1 F2 F3 F4 F' : List Nat} (h : Apart lo w F1 F2 F3 F4) (g : Grows lo w w' F4 F') : Apart lo w' F1 F2 F3 F' :=
 ⟨h.d12, h.d13, fun x a b => g.dis (fun x a b => h.d14 x b a) h.b1 x b a, h.d23, fun x a b => g.dis (fun x a b => h.d24 x b a) h.b2 x b a, fun x a b => g.dis (fun x a b => h.d34 x b a) h.b3 x b a, g.up h.b1, g.up h.b2, g.up h.b3, g.bd h.b4⟩

/-- How far the copy has come: q1 project, q2 exts, q3 assume, q4 the struct's own variable. -/
def CF (lo : Nat) (W0 : World) (p : ProgD) (zs : Array Value) (q1 q2 q3 q4 : Nat) (v11 v14 v15 v18 v19 v22 v3 : Value) (w : World) : Prop :=
 ∃ F1 F2 F3 F4, It 3 w q1 v11 v14 p.project F1 ∧ It 132 w q2 v15 v18 p.exts F2 ∧ It 3 w q3 v19 v22 p.assume F3 ∧ Ia 30 zs w q4 v3 F4 ∧ Apart lo w F1 F2 F3 F4 ∧ Below lo W0 w ∧ lo ≤ w.heap.size

theorem grows_new {lo : Nat} (w : World) (o : Obj) (hl : lo ≤ w.heap.size) : Grows lo w (w.alloc o) [] [w.heap.size] := ⟨hl, by simp, fun g hg => by simp at hg; subst hg; exact ⟨.inr (Nat.le_refl _), by simp⟩⟩
theorem grows_app {lo g : Nat} {w w' : World} {F : List Nat} (hl : lo ≤ w.heap.size) (hF : ∀ b ∈ F, b = g ∨ b = w.heap.size) (hg : w.grownBy w' (some g)) (hlt : ∀ b ∈ F, b < w'.heap.size) : Grows lo w w' [g] F :=
 ⟨hl, hg.size, fun b hb => ⟨(hF b hb).imp (fun h => by simp [h]) (fun h => by omega), hlt b hb⟩⟩

section
variable {lo : Nat} {W0 : World} {p : ProgD} {zs : Array Value} {q1 q2 q3 q4 : Nat} {v11 v14 v15 v18 v19 v22 v3 : Value} {w : World}
theorem CF.below (h : CF lo W0 p zs q1 q2 q3 q4 v11 v14 v15 v18 v19 v22 v3 w) : Below lo W0 w := by obtain ⟨_, _, _, _, _, _, _, _, _, hb, _⟩ := h; exact hb
theorem CF.b1 (h : CF lo W0 p zs 0 q2 q3 q4 v11 v14 v15 v18 v19 v22 v3 w) : CF lo W0 p zs 1 q2 q3 q4 (.slice (some ⟨w.heap.size, 0, none⟩) 0 0) v14 v15 v18 v19 v22 v3 (w.alloc (.cells #[] 3)) := by
 obtain ⟨F1, F2, F3, F4, i1, i2, i3, i4, ha, hb, hl⟩ := h
 have e : F1 = [] := i1
 subst e
 have hk : ∀ {F : List Nat}, (∀ g ∈ F, lo ≤ g ∧ g < w.heap.size) → ∀ g ∈ F, (w.alloc (.cells #[] 3)).heap[g]? = w.heap[g]? := fun hF g hg => Below.heap_alloc _ _ _ (hF g hg).2
 exact ⟨_, F2, F3, F4, ⟨_, rfl, alloc_block _ _ _, rfl⟩, i2.kept (hk ha.b2), i3.kept (hk ha.b3), i4.kept (hk ha.b4), ha.g1 (grows_new w _ hl), hb.alloc hl _, by simp; omega⟩
theorem CF.b2 (h : CF lo W0 p zs q1 0 q3 q4 v11 v14 v15 v18 v19 v22 v3 w) : CF lo W0 p zs q1 1 q3 q4 v11 v14 (.slice (some ⟨w.heap.size, 0, none⟩) 0 0) v18 v19 v22 v3 (w.alloc (.cells #[] 132)) := by
 obtain ⟨F1, F2, F3, F4, i1, i2, i3, i4, ha, hb, hl⟩ := h
 have e : F2 = [] := i2
 subst e
 have hk : ∀ {F : List Nat}, (∀ g ∈ F, lo ≤ g ∧ g < w.heap.size) → ∀ g ∈ F, (w.alloc (.cells #[] 132)).heap[g]? = w.heap[g]? := fun hF g hg => Below.heap_alloc _ _ _ (hF g hg).2
 exact ⟨F1, _, F3, F4, i1.kept (hk ha.b1), ⟨_, rfl, alloc_block _ _ _, rfl⟩, i3.kept (hk ha.b3), i4.kept (hk ha.b4), ha.g2 (grows_new w _ hl), hb.alloc hl _, by simp; omega⟩
theorem CF.b3 (h : CF lo W0 p zs q1 q2 0 q4 v11 v14 v15 v18 v19 v22 v3 w) : CF lo W0 p zs q1 q2 1 q4 v11 v14 v15 v18 (.slice (some ⟨w.heap.size, 0, none⟩) 0 0) v22 v3 (w.alloc (.cells #[] 3)) := by
 obtain ⟨F1, F2, F3, F4, i1, i2, i3, i4, ha, hb, hl⟩ := h
 have e : F3 = [] := i3
 subst e
 have hk : ∀ {F : List Nat}, (∀ g ∈ F, lo ≤ g ∧ g < w.heap.size) → ∀ g ∈ F, (w.alloc (.cells #[] 3)).heap[g]? = w.heap[g]? := fun hF g hg => Below.heap_alloc _ _ _ (hF g hg).2
 exact ⟨F1, F2, _, F4, i1.kept (hk ha.b1), i2.kept (hk ha.b2), ⟨_, rfl, alloc_block _ _ _, rfl⟩, i4.kept (hk ha.b4), ha.g3 (grows_new w _ hl), hb.alloc hl _, by simp; omega⟩
theorem CF.b4 (h : CF lo W0 p zs q1 q2 q3 0 v11 v14 v15 v18 v19 v22 v3 w) : CF lo W0 p zs q1 q2 q3 1 v11 v14 v15 v18 v19 v22 (.pointer (some ⟨w.heap.size, 0, none⟩)) (w.alloc (.cells zs 30)) := by
 obtain ⟨F1, F2, F3, F4, i1, i2, i3, i4, ha, hb, hl⟩ := h
 have e : F4 = [] := i4
 subst e
 have hk : ∀ {F : List Nat}, (∀ g ∈ F, lo ≤ g ∧ g < w.heap.size) → ∀ g ∈ F, (w.alloc (.cells zs 30)).heap[g]? = w.heap[g]? := fun hF g hg => Below.heap_alloc _ _ _ (hF g hg).2
 exact ⟨F1, F2, F3, _, i1.kept (hk ha.b1), i2.kept (hk ha.b2), i3.kept (hk ha.b3), ⟨_, rfl, alloc_block _ _ _, rfl⟩, ha.g4 (grows_new w _ hl), hb.alloc hl _, by simp; omega⟩

theorem grownBelow {lo g : Nat} {W w w' : World} (hb : Below lo W w) (hl : lo ≤ w.heap.size) (hg : lo ≤ g) (h : w.grownBy w' (some g)) : Below lo W w' := hb.grown h hl fun k hk => by cases hk; exact hg

theorem CF.a1 {P : Program} {t ty : TypeId} {c : Value} (i : TypeInfo) (z : Value) (bytes : Nat) (ht : P.underlying t = some (.slice 3)) (hi : P.info? 3 = some i) (hz : i.zero = some z) (hsize : i.size = 1) (hby : i.bytes = bytes) (hzs : z.cells.size = 1)
  (h : CF lo W0 p zs 1 q2 q3 q4 v11 v14 v15 v18 v19 v22 v3 w) (hr : RdL W0 [c] p.project) (hW : W0.heap.size ≤ lo) (hl1 : p.project.length * bytes ≤ 140737488355328) (hl2 : p.project.length ≤ 140737488355328) :
  ∃ v' w', (Builtin.append_ #[t, t] ty #[v11, c]).run P w = .ok v' w' ∧ CF lo W0 p zs 2 q2 q3 q4 v11 v' v15 v18 v19 v22 v3 w' := by
 obtain ⟨F1, F2, F3, F4, i1, i2, i3, i4, ha, hb, hl⟩ := h
 obtain ⟨g, rfl, hh, rfl⟩ := i1
 have hr' := Rd.mono (α := List Int) (hb.mono hW) hr
 obtain ⟨v', w', F, r1, r2, r3, r4⟩ := run_append_lit (α := Int) (P := P) (ty := ty) i z bytes ht hi hz hsize hby hzs hh hr' hl1 hl2
 have hk : ∀ {G : List Nat}, (∀ x, x ∈ [g] → x ∈ G → False) → (∀ x ∈ G, lo ≤ x ∧ x < w.heap.size) → ∀ x ∈ G, w'.heap[x]? = w.heap[x]? := fun hd hG x hx => r4.block x (hG x hx).2 fun e => hd x (by simp [Option.some.inj e]) hx
 exact ⟨v', w', r1, F, F2, F3, F4, r2, i2.kept (hk ha.d12 ha.b2), i3.kept (hk ha.d13 ha.b3), i4.kept (hk ha.d14 ha.b4), ha.g1 (grows_app hl r3 r4 (Ow.lt (α := List Int) r2)), grownBelow hb hl (ha.b1 g (by simp)).1 r4, Nat.le_trans hl r4.size⟩
theorem CF.a2 {P : Program} {t ty : TypeId} {c : Value} (i : TypeInfo) (z : Value) (bytes : Nat) (ht : P.underlying t = some (.slice 132)) (hi : P.info? 132 = some i) (hz : i.zero = some z) (hsize : i.size = 2) (hby : i.bytes = bytes) (hzs : z.cells.size = 2)
  (h : CF lo W0 p zs q1 1 q3 q4 v11 v14 v15 v18 v19 v22 v3 w) (hr : RdL W0 [c] p.exts) (hW : W0.heap.size ≤ lo) (hl1 : p.exts.length * bytes ≤ 140737488355328) (hl2 : p.exts.length ≤ 140737488355328) :
  ∃ v' w', (Builtin.append_ #[t, t] ty #[v15, c]).run P w = .ok v' w' ∧ CF lo W0 p zs q1 2 q3 q4 v11 v14 v15 v' v19 v22 v3 w' := by
 obtain ⟨F1, F2, F3, F4, i1, i2, i3, i4, ha, hb, hl⟩ := h
 obtain ⟨g, rfl, hh, rfl⟩ := i2
 have hr' := Rd.mono (α := List (Int × Int)) (hb.mono hW) hr
 obtain ⟨v', w', F, r1, r2, r3, r4⟩ := run_append_lit (α := Int × Int) (P := P) (ty := ty) i z bytes ht hi hz hsize hby hzs hh hr' hl1 hl2
 have hk : ∀ {G : List Nat}, (∀ x, x ∈ [g] → x ∈ G → False) → (∀ x ∈ G, lo ≤ x ∧ x < w.heap.size) → ∀ x ∈ G, w'.heap[x]? = w.heap[x]? := fun hd hG x hx => r4.block x (hG x hx).2 fun e => hd x (by simp [Option.some.inj e]) hx
 exact ⟨v', w', r1, F1, F, F3, F4, i1.kept (hk (fun x a b => ha.d12 x b a) ha.b1), r2, i3.kept (hk ha.d23 ha.b3), i4.kept (hk ha.d24 ha.b4), ha.g2 (grows_app hl r3 r4 (Ow.lt (α := List (Int × Int)) r2)), grownBelow hb hl (ha.b2 g (by simp)).1 r4, Nat.le_trans hl r4.size⟩
theorem CF.a3 {P : Program} {t ty : TypeId} {c : Value} (i : TypeInfo) (z : Value) (bytes : Nat) (ht : P.underlying t = some (.slice 3)) (hi : P.info? 3 = some i) (hz : i.zero = some z) (hsize : i.size = 1) (hby : i.bytes = bytes) (hzs : z.cells.size = 1)
  (h : CF lo W0 p zs q1 q2 1 q4 v11 v14 v15 v18 v19 v22 v3 w) (hr : RdL W0 [c] p.assume) (hW : W0.heap.size ≤ lo) (hl1 : p.assume.length * bytes ≤ 140737488355328) (hl2 : p.assume.length ≤ 140737488355328) :
  ∃ v' w', (Builtin.append_ #[t, t] ty #[v19, c]).run P w = .ok v' w' ∧ CF lo W0 p zs q1 q2 2 q4 v11 v14 v15 v18 v19 v' v3 w' := by
 obtain ⟨F1, F2, F3, F4, i1, i2, i3, i4, ha, hb, hl⟩ := h
 obtain ⟨g, rfl, hh, rfl⟩ := i3
 have hr' := Rd.mono (α := List Int) (hb.mono hW) hr
 obtain ⟨v', w', F, r1, r2, r3, r4⟩ := run_append_lit (α := Int) (P := P) (ty := ty) i z bytes ht hi hz hsize hby hzs hh hr' hl1 hl2
 have hk : ∀ {G : List Nat}, (∀ x, x ∈ [g] → x ∈ G → False) → (∀ x ∈ G, lo ≤ x ∧ x < w.heap.size) → ∀ x ∈ G, w'.heap[x]? = w.heap[x]? := fun hd hG x hx => r4.block x (hG x hx).2 fun e => hd x (by simp [Option.some.inj e]) hx
 exact ⟨v', w', r1, F1, F2, F, F4, i1.kept (hk (fun x a b => ha.d13 x b a) ha.b1), i2.kept (hk (fun x a b => ha.d23 x b a) ha.b2), r2, i4.kept (hk ha.d34 ha.b4), ha.g3 (grows_app hl r3 r4 (Ow.lt (α := List Int) r2)), grownBelow hb hl (ha.b3 g (by simp)).1 r4, Nat.le_trans hl r4.size⟩
theorem CF.drew (h : CF lo W0 p zs q1 q2 q3 q4 v11 v14 v15 v18 v19 v22 v3 w) : CF lo W0 p zs q1 q2 q3 q4 v11 v14 v15 v18 v19 v22 v3 w.drew := by
 obtain ⟨F1, F2, F3, F4, i1, i2, i3, i4, ha, hb, hl⟩ := h
 exact ⟨F1, F2, F3, F4, i1.kept fun _ _ => rfl, i2.kept fun _ _ => rfl, i3.kept fun _ _ => rfl, i4.kept fun _ _ => rfl, ⟨ha.d12, ha.d13, ha.d14, ha.d23, ha.d24, ha.d34, ha.b1, ha.b2, ha.b3, ha.b4⟩, hb.drew, hl⟩
end

end Go.Proofs.YthikhkeofcjdfaaGreat
