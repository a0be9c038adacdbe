/-
 A drawn program, one in so many spoilt: what any answers. No condition of its own.
-/
import Derived.Test.YthikhkeofcjdfaaGreatLent
namespace Go.Proofs.YthikhkeofcjdfaaGreat
set_option linter.unusedVariables false
set_option linter.unusedSimpArgs false
open Go.RowKit
set_option maxRecDepth 100000

/-- A program that has been drawn and is being spoilt: its box at G, the result's box ahead of it. -/
structure AN (w : World) (c N G : Nat) (wz : World) (bx : List Value) (p : ProgD) : Prop where
 res : wz.heap[w.heap.size]? = some (.cells zP.toArray 30 (0, 0))
 box : wz.heap[G]? = some (.cells bx.toArray 30 (0, 0))
 own : ∃ fp, Ow.O (α := ProgD) wz bx p fp ∧ ∀ g ∈ fp, w.heap.size < g ∧ g ≠ G
 lt : w.heap.size < G
 cur : Cur wz c N
 cg : Cg (New c w) w wz
/-- The blocks that may be written while a spoilt program is handed on: what was there (the cursor with it), the result's box, its own box. -/
def AS (w : World) (G : Nat) (x : Nat) : Prop := x ≤ w.heap.size ∨ x = G
/-- .. that has been spoilt: it can be read, whatever these become. -/
structure AF (w : World) (c N G : Nat) (wz : World) (bx : List Value) (p : ProgD) : Prop where
 res : wz.heap[w.heap.size]? = some (.cells zP.toArray 30 (0, 0))
 box : wz.heap[G]? = some (.cells bx.toArray 30 (0, 0))
 lent : Lent (w.heap.size + 1) (AS w G) wz bx p
 wee : Wee p
 lt : w.heap.size < G
 cur : Cur wz c N
 cg : Cg (New c w) w wz
section
variable {w wz w2 : World} {c N N' G : Nat} {bx : List Value} {p : ProgD}
theorem AN.fin (h : AN w c N G wz bx p) (hc : c < w.heap.size) (hN : N ≤ N') (hw : Wee p) : AF w c N' G wz bx p := by
 obtain ⟨fp, h1, h2⟩ := h.own
 refine ⟨h.res, h.box, lent_of_own h1 (fun g hg => ⟨(h2 g hg).1, ?_⟩) hw.1.1, hw, h.lt, h.cur.mono hN, h.cg⟩
 have h3 := h2 g hg
 rintro (e | e)
 ·omega
 ·exact h3.2 e
theorem AF.drew (h : AF w c N G wz bx p) : AF w c N G wz.drew bx p := by
 have k := fun S => (Cg.refl S wz).drew
 exact ⟨(k (fun _ => False)).at h.res (fun h => h), (k (fun _ => False)).at h.box (fun h => h), h.lent.cg (k _), h.wee, h.lt, h.cur.cg (k _), h.cg.trans (k _)⟩
theorem AF.rd (h : AF w c N G wz bx p) : Rd.R wz bx p := h.lent.rd
/-- A copy of one of its rules appended, and the row stored into the box. -/
theorem AF.push {P : Program} {a b c2 c4 c5 c6 c7 : Value} {g cap : Nat} {cur : Array Value} {e : TypeId} {fe : List Nat} {k ga cp : Nat} {ecs : List Value} {f : List Nat} {t ty e2 : TypeId} {w6 : World} (h : AF w c N G wz [a, .slice (some ⟨g, 0, none⟩) p.rules.length cap, c2, b, c4, c5, c6, c7] p)
  (hL : LentAt (w.heap.size + 1) (AS w G) wz a b c2 c4 c5 c6 c7 g cap cur e fe p) (hc : c < w.heap.size)
  (i : TypeInfo) (z : Value) (bytes : Nat) (ht : P.underlying t = some (.slice e2)) (hi : P.info? e2 = some i) (hz : i.zero = some z) (hsize : i.size = 5) (hby : i.bytes = bytes) (hzs : z.cells.size = 5)
  (hk : k < p.rules.length) (he : Ow.O wz ecs (nth p.rules k) f) (hef : ∀ x ∈ f, w.heap.size + 1 ≤ x ∧ ¬ AS w G x ∧ x ≠ g ∧ x ∉ fe) (hw6 : Cg (fun _ => False) wz w6) (hcl : Cells w6 ga 0 ecs)
  (hl : p.rules.length ≤ 60) (hb : bytes ≤ 1000) :
  ∃ g' cap' w8, (Builtin.append_ #[t, t] ty #[.slice (some ⟨g, 0, none⟩) p.rules.length cap, .slice (some ⟨ga, 0, none⟩) 1 cp]).run P w6 = .ok (.slice (some ⟨g', 0, none⟩) (p.rules.length + 1) cap') w8 ∧
   w8.heap[G]? = some (.cells [a, .slice (some ⟨g, 0, none⟩) p.rules.length cap, c2, b, c4, c5, c6, c7].toArray 30 (0, 0)) ∧
   AF w c N G (w8.setCell ⟨G, 1, none⟩ (.slice (some ⟨g', 0, none⟩) (p.rules.length + 1) cap')) [a, .slice (some ⟨g', 0, none⟩) (p.rules.length + 1) cap', c2, b, c4, c5, c6, c7] { p with rules := p.rules ++ [nth p.rules k] } := by
 have hbl := block_lt h.box
 have hG := h.lt
 have hg := hL.gne
 have hgG : g ≠ G := fun e => hg.2 (.inr e)
 obtain ⟨g', cap', cur', e', w8, r, k1, k2⟩ := hL.push (P := P) (ty := ty) (cp := cp) (fun x hx => by rintro (e | e) <;> omega) (by omega) i z bytes ht hi hz hsize hby hzs he hef hw6 hcl (by have := Nat.mul_le_mul (show p.rules.length + 1 ≤ 61 by omega) hb; omega) (by omega)
 have hb8 := k1.at h.box (fun e => hgG e.symm)
 have kz : Cg (fun x => x = G ∨ x = g) wz (w8.setCell ⟨G, 1, none⟩ (.slice (some ⟨g', 0, none⟩) (p.rules.length + 1) cap')) := Cg.set (k1.more fun x _ hx => .inr hx) 1 _ (.inl rfl)
 have k3 := (k2.cg (Cg.set (S := AS w G) (Cg.refl _ w8) (g := G) 1 (.slice (some ⟨g', 0, none⟩) (p.rules.length + 1) cap') (.inr rfl))).lent
 have hLn : (p.rules ++ [nth p.rules k]).length = p.rules.length + 1 := by rw [List.length_append]; rfl
 refine ⟨g', cap', w8, r, hb8, ⟨kz.at h.res (by rintro (e | e) <;> omega), box_set hb8 _, ?_, wee_push h.wee hk hl, hG, h.cur.cg (kz.more fun x _ hx => by omega), h.cg.trans (kz.more fun x _ hx => .inr (by omega))⟩⟩
 have k4 : Lent (w.heap.size + 1) (AS w G) _ [a, .slice (some ⟨g', 0, none⟩) (p.rules ++ [nth p.rules k]).length cap', c2, b, c4, c5, c6, c7] { p with rules := p.rules ++ [nth p.rules k] } := k3
 rw [hLn] at k4
 exact k4
theorem AN.pick (h : AN w c N G wz bx p) (hc : c < w.heap.size) (hw : Wrote c wz w2) (hcur : Cur w2 c N') : AN w c N' G w2 bx p := by
 have k := Cg.wrote (S := fun g => g = c) hw rfl
 have hl := h.lt
 obtain ⟨fp, h1, h2⟩ := h.own
 exact ⟨k.at h.res (by omega), k.at h.box (by omega), ⟨fp, Ow.kept h1 fun g hg => k.block g (Ow.lt h1 g hg) (fun e => by have := (h2 g hg).1; omega), h2⟩, h.lt, hcur, h.cg.trans (Cg.wrote hw (.inl rfl))⟩
theorem AN.mono (h : AN w c N G wz bx p) (hN : N ≤ N') : AN w c N' G wz bx p := ⟨h.res, h.box, h.own, h.lt, h.cur.mono hN, h.cg⟩
theorem AN.blt (h : AN w c N G wz bx p) : G < wz.heap.size := block_lt h.box
theorem AN.start {w1 : World} {cs : List Value} (hc : c < w.heap.size) (ho : Own (α := ProgD) (w.heap.size + 1) w1 cs p) (hw : Wrote c (w.alloc (.cells zP.toArray 30)) w1) (hcur : Cur w1 c N) : AN w c N w1.heap.size (w1.alloc (.cells cs.toArray 30)) cs p := by
 have hz := hw.size
 rw [World.size_alloc] at hz
 have k := Cg.wrote (S := fun g => g = c) hw rfl
 have b0 := k.at (alloc_block w zP.toArray 30) (by omega)
 obtain ⟨fp, h1, h2⟩ := ho
 refine ⟨(Cg.alloc (Cg.refl (fun _ => False) w1) _).at b0 (fun h => h), alloc_block w1 _ _, ⟨fp, Ow.kept h1 fun g hg => Below.heap_alloc _ _ _ (Ow.lt h1 g hg), fun g hg => ⟨by have := h2 g hg; omega, by have := Ow.lt h1 g hg; omega⟩⟩, by omega, hcur.cg (Cg.alloc (Cg.refl _ w1) _), ?_⟩
 exact (((Cg.refl (New c w) w).alloc _).trans (k.more fun g _ hg => .inl hg)).alloc _
/-- .. one element more on one of its rows, and that row stored into the box. -/
theorem AN.push {α : Type} [Ow α] {P : Program} {cv : Value} {xs : List α} {csf : Value → List Value} {q : List α → ProgD} {y : α} {ecs : List Value} {ga cp : Nat} {t ty e : TypeId} (h : AN w c N G wz bx p) (hcw : c < w.heap.size) (j : Nat)
  (hL : ∀ fp, Ow.O (α := ProgD) wz bx p fp → Lens wz p fp cv xs csf q) (hcs : ∀ v, csf v = bx.set j v)
  (i : TypeInfo) (z : Value) (bytes : Nat) (ht : P.underlying t = some (.slice e)) (hi : P.info? e = some i) (hz : i.zero = some z) (hsize : i.size = Rd.k α) (hby : i.bytes = bytes) (hzs : z.cells.size = Rd.k α) (hK : 0 < Rd.k α)
  (hc : Cells wz ga 0 ecs) (ho : Ow.O wz ecs y []) (hl : (xs.length + 1) * bytes ≤ 140737488355328) (hl2 : xs.length + 1 ≤ 140737488355328) :
  ∃ v' w', (Builtin.append_ #[t, t] ty #[cv, .slice (some ⟨ga, 0, none⟩) 1 cp]).run P wz = .ok v' w' ∧ w'.heap[G]? = some (.cells bx.toArray 30 (0, 0)) ∧ (∃ a q, v' = .slice a (xs.length + 1) q) ∧ AN w c N G (w'.setCell ⟨G, j, none⟩ v') (bx.set j v') (q (xs ++ [y])) := by
 obtain ⟨fp, h1, h2⟩ := h.own
 obtain ⟨f, fr, o1, s1, s2, s3, k⟩ := hL fp h1
 obtain ⟨v', w', r, ⟨fp', a1, a2⟩, b1, b2, b3, b4, b5⟩ := OwL.push (P := P) (ty := ty) (c := cp) i z bytes ht hi hz hsize hby hzs hK o1 hc ho (fun b _ => List.not_mem_nil) hl hl2
 have hb := h.blt
 have hlt := h.lt
 have hG : w'.heap[G]? = some (.cells bx.toArray 30 (0, 0)) := by
  rw [b5 G hb fun hm => (h2 G (s1 G hm)).2 rfl]
  exact h.box
 obtain ⟨fp2, c1, c2⟩ := k w' v' (xs ++ [y]) fp' a1 (fun g hg => b5 g (Ow.lt h1 g (s2 g hg)) fun hm => s3 g hm hg) (fun g hg hm => by
  rcases a2 g hg with h3 | h3 | h3
  ·exact s3 g h3 hm
  ·cases h3
  ·have := Ow.lt h1 g (s2 g hm); omega)
 rw [hcs] at c1
 have hlo : ∀ g ∈ fp2, w.heap.size < g ∧ g ≠ G := fun g hg => by
  rcases c2 g hg with h3 | h3
  ·rcases a2 g h3 with h4 | h4 | h4
   ·exact h2 g (s1 g h4)
   ·cases h4
   ·exact ⟨by omega, by omega⟩
  ·exact h2 g (s2 g h3)
 have hcg : Cg (fun g => w.heap.size < g) wz (w'.setCell ⟨G, j, none⟩ v') := Cg.set ⟨b1, b2, b3, b4, fun g hg hn => b5 g hg fun hm => hn (h2 g (s1 g hm)).1⟩ j v' hlt
 have hfm : ∃ a q, v' = .slice a (xs.length + 1) q := by
  obtain ⟨a, q, he, _⟩ := a1
  simp only [List.cons.injEq, and_true, List.length_append, List.length_singleton] at he
  exact ⟨a, q, he⟩
 exact ⟨v', w', r, hG, hfm, ⟨hcg.at h.res (by omega), box_set hG v', ⟨fp2, Ow.kept c1 fun g hg => Below.heap_setCell _ _ _ _ (by intro e; have e : g = G := e; exact (hlo g hg).2 e), hlo⟩, hlt, h.cur.cg (hcg.more fun g _ hg => by omega), h.cg.trans (hcg.more fun g _ hg => .inr (by omega))⟩⟩
theorem AN.alloc (h : AN w c N G wz bx p) (hcw : c < w.heap.size) (o : Obj) : AN w c N G (wz.alloc o) bx p := by
 have k : Cg (fun _ => False) wz (wz.alloc o) := (Cg.refl _ wz).alloc o
 obtain ⟨fp, h1, h2⟩ := h.own
 exact ⟨k.at h.res (fun h => h), k.at h.box (fun h => h), ⟨fp, Ow.kept h1 fun g hg => k.block g (Ow.lt h1 g hg) (fun h => h), h2⟩, h.lt, h.cur.cg (k.more fun g _ hg => hg.elim), h.cg.trans (k.more fun g _ hg => hg.elim)⟩
theorem owL_nil {α : Type} [Ow α] {w : World} : OwL (α := α) w [.slice none 0 0] [] [] := ⟨none, 0, rfl, by simp, by simp, .inl ⟨rfl, rfl, rfl⟩⟩
theorem owL_form {α : Type} [Ow α] {v : Value} {xs : List α} {fp : List Nat} (h : OwL w [v] xs fp) : ∃ a q, v = .slice a xs.length q := by
 obtain ⟨a, q, he, _⟩ := h
 simp only [List.cons.injEq, and_true] at he
 exact ⟨a, q, he⟩
/-- The form of the box. -/
theorem AN.forms {a b c1 c2 c4 c5 c6 c7 : Value} (h : AN w c N G wz [a, c1, c2, b, c4, c5, c6, c7] p) :
  (∃ a q, c1 = .slice a p.rules.length q) ∧ (∃ a q, c2 = .slice a p.levels.length q) ∧ (∃ a q, c4 = .slice a p.project.length q) ∧ (∃ a q, c5 = .slice a p.shows.length q) ∧ (∃ a q, c6 = .slice a p.exts.length q) ∧ (∃ a q, c7 = .slice a p.assume.length q) := by
 obtain ⟨fp, h1, h2⟩ := h.own
 obtain ⟨_, _, o1, _⟩ := lens_rules h1
 obtain ⟨_, _, o2, _⟩ := lens_levels h1
 obtain ⟨_, _, o4, _⟩ := lens_project h1
 obtain ⟨_, _, o5, _⟩ := lens_shows h1
 obtain ⟨_, _, o6, _⟩ := lens_exts h1
 obtain ⟨_, _, o7, _⟩ := lens_assume h1
 exact ⟨owL_form o1, owL_form o2, owL_form o4, owL_form o5, owL_form o6, owL_form o7⟩
/-- .. its number of atoms. -/
theorem AN.atoms (h : AN w c N G wz bx p) (hcw : c < w.heap.size) (n : Int) (hn : Fits n) : AN w c N G (wz.setCell ⟨G, 0, none⟩ (.int .i64 n)) (bx.set 0 (.int .i64 n)) { p with atoms := n } := by
 obtain ⟨fp, h1, h2⟩ := h.own
 have hlt := h.lt
 have hcg : Cg (fun g => g = G) wz (wz.setCell ⟨G, 0, none⟩ (.int .i64 n)) := Cg.set (Cg.refl _ wz) 0 _ rfl
 have h3 := Ow.kept h1 fun g hg => hcg.block g (Ow.lt h1 g hg) (h2 g hg).2
 obtain ⟨d1, d2, d4, d5, d6, d7, f1, f2, f4, f5, f6, f7, e, hf, o1, o2, o4, o5, o6, o7, rfl, hnd⟩ := h3
 subst e
 exact ⟨hcg.at h.res (by omega), box_set h.box _, ⟨_, ⟨d1, d2, d4, d5, d6, d7, f1, f2, f4, f5, f6, f7, rfl, hn, o1, o2, o4, o5, o6, o7, rfl, hnd⟩, h2⟩, hlt, h.cur.cg (hcg.more fun g _ hg => by omega), h.cg.trans (hcg.more fun g _ hg => .inr (by omega))⟩
/-- Where a rule of the program being spoilt lies, and what a store into one of its cells makes. -/
theorem AN.rule {a b c1 c2 c4 c5 c6 c7 : Value} {k : Nat} (h : AN w c N G wz [a, c1, c2, b, c4, c5, c6, c7] p) (hcw : c < w.heap.size) (hk : k < p.rules.length) :
  ∃ (g cap : Nat) (cur : Array Value) (e : TypeId) (f : List Nat) (ecs : List Value), c1 = .slice (some ⟨g, 0, none⟩) p.rules.length cap ∧ wz.heap[g]? = some (.cells cur e (0, 0)) ∧ k * 5 + 5 ≤ cur.size ∧ Cells wz g (k * 5) ecs ∧ Ow.O wz ecs (nth p.rules k) f ∧ (w.heap.size < g ∧ g ≠ G) ∧ g ∉ f ∧ (∀ x ∈ f, w.heap.size < x ∧ x ≠ G) ∧
   ∀ (w' : World) (N' m : Nat) (v : Value) (y : RuleD) (f' : List Nat), m < 5 → Cg (fun x => x = c ∨ x ∈ f) wz w' → Cur w' c N' → Ow.O w' (ecs.set m v) y f' → (∀ x ∈ f', x ∈ f ∨ wz.heap.size ≤ x) →
    w'.heap[g]? = some (.cells cur e (0, 0)) ∧ w'.heap[G]? = some (.cells [a, c1, c2, b, c4, c5, c6, c7].toArray 30 (0, 0)) ∧ AN w c N' G (w'.setCell ⟨g, k * 5 + m, none⟩ v) [a, c1, c2, b, c4, c5, c6, c7] { p with rules := p.rules.set k y } := by
 obtain ⟨fp, h1, h2⟩ := h.own
 have hlt := h.lt
 have hbl := h.blt
 obtain ⟨F, FR, o1, s1, s2, s3, K⟩ := lens_rules h1
 obtain ⟨g, e, cur, cap, f, fr, ecs, hv, hh, hsz, hC, hO, hgF, hgf, hfF, hfr, K2⟩ := o1.lensAt hk
 have e5 : Rd.k RuleD = 5 := rfl
 have h5 : ecs.length = 5 := Rd.len (Ow.rd hO)
 rw [e5] at hsz hC K2
 have hgl := block_lt hh
 refine ⟨g, cap, cur, e, f, ecs, hv, hh, hsz, hC, hO, h2 g (s1 g hgF), hgf, fun x hx => h2 x (s1 x (hfF x hx)), fun w' N' m v y f' hm hw hcur' hO' hf' => ?_⟩
 have hgS := h2 g (s1 g hgF)
 have hgg : w'.heap[g]? = some (.cells cur e (0, 0)) := hw.at hh (by rintro (h6 | h6); omega; exact hgf h6)
 have hGG : w'.heap[G]? = some (.cells [a, c1, c2, b, c4, c5, c6, c7].toArray 30 (0, 0)) := hw.at h.box (by rintro (h6 | h6); omega; exact (h2 _ (s1 _ (hfF _ h6))).2 rfl)
 have hset := heap_setCell_same w' g (k * 5 + m) _ _ v hgg
 have hcg : Cg (fun x => x = g ∨ x = c ∨ x ∈ f) wz (w'.setCell ⟨g, k * 5 + m, none⟩ v) := Cg.set (hw.more fun x _ hx => .inr hx) _ v (.inl rfl)
 have hcn : ∀ x ∈ fp, x ≠ c := fun x hx e => by have := (h2 x hx).1; omega
 have hfg : ∀ x ∈ f', x ≠ g := fun x hx e => by
  subst e
  rcases hf' x hx with h3 | h3
  ·exact hgf h3
  ·omega
 have hO2 := Ow.kept hO' fun x hx => Below.heap_setCell w' ⟨g, k * 5 + m, none⟩ v x (by intro e; exact hfg x hx e)
 obtain ⟨F', k1, k2⟩ := K2 (w'.setCell ⟨g, k * 5 + m, none⟩ v) _ (ecs.set m v) y f' hset (by simp) (fun j hj => by rw [Array.getElem?_setIfInBounds_ne (by omega)]) (fun j u hu => by
   rw [cell_of_row _ g _ _ _ _ hset]
   by_cases hj : m = j
   ·subst hj
    rw [List.getElem?_set_self (by omega)] at hu
    rw [Array.getElem?_setIfInBounds_self_of_lt (by omega)]
    exact hu
   ·rw [List.getElem?_set_ne hj] at hu
    rw [Array.getElem?_setIfInBounds_ne (by omega)]
    have h6 := hC j u hu
    rw [cell_of_row _ g _ _ _ _ hh] at h6
    exact h6) hO2 (fun x hx => hcg.block x (Ow.lt h1 x (s1 x (hfr x hx).1)) (by rintro (h6 | h6 | h6); exact (hfr x hx).2.1 h6; exact hcn x (s1 x (hfr x hx).1) h6; exact (hfr x hx).2.2 h6)) (fun x hx => ⟨hfg x hx, fun hm => by
   rcases hf' x hx with h6 | h6
   ·exact (hfr x hm).2.2 h6
   ·have := Ow.lt h1 x (s1 x (hfr x hm).1); omega⟩)
 obtain ⟨fp', q1, q2⟩ := K _ c1 (p.rules.set k y) F' k1 (fun x hx => hcg.block x (Ow.lt h1 x (s2 x hx)) (by
   rintro (h6 | h6 | h6)
   ·exact s3 g hgF (h6 ▸ hx)
   ·exact hcn x (s2 x hx) h6
   ·exact s3 x (hfF x h6) hx)) (fun x hx hm => by
   rcases k2 x hx with h6 | h6 | h6
   ·exact s3 g hgF (h6 ▸ hm)
   ·rcases hf' x h6 with h7 | h7
    ·exact s3 x (hfF x h7) hm
    ·have := Ow.lt h1 x (s2 x hm); omega
   ·exact s3 x (hfr x h6).1 hm)
 have hcur2 : Cur (w'.setCell ⟨g, k * 5 + m, none⟩ v) c N' := hcur'.cg ((Cg.set (Cg.refl (fun x => x = g) w') (k * 5 + m) v rfl).more fun x _ hx => by omega)
 refine ⟨hgg, hGG, hcg.at h.res (by rintro (h6 | h6 | h6); omega; omega; exact absurd (h2 _ (s1 _ (hfF _ h6))).1 (by omega)), hcg.at h.box (by rintro (h6 | h6 | h6); omega; omega; exact (h2 _ (s1 _ (hfF _ h6))).2 rfl), ⟨fp', q1, fun x hx => ?_⟩, hlt, hcur2, h.cg.trans (hcg.more fun x _ hx => ?_)⟩
 ·rcases q2 x hx with h6 | h6
  ·rcases k2 x h6 with h7 | h7 | h7
   ·rw [h7]; exact h2 g (s1 g hgF)
   ·rcases hf' x h7 with h8 | h8
    ·exact h2 x (s1 x (hfF x h8))
    ·exact ⟨by omega, by omega⟩
   ·exact h2 x (s1 x (hfr x h7).1)
  ·exact h2 x (s2 x h6)
 ·rcases hx with h6 | h6 | h6
  ·exact .inr (by omega)
  ·exact .inl h6
  ·have := (h2 x (s1 x (hfF x h6))).1; exact .inr (by omega)
theorem sm_nth {k : Nat} (h : SmP p) (hk : k < p.rules.length) : SmR (nth p.rules k) := h.1.2 _ (by unfold nth; rw [List.getD_eq_getElem?_getD, List.getElem?_eq_getElem hk]; exact List.getElem_mem hk)
/-- .. one literal more on its body, or one head more: what the call's append makes of the rule k. -/
theorem AN.heads {P : Program} {a b c1 c2 c4 c5 c6 c7 : Value} {k : Nat} (h : AN w c N G wz [a, c1, c2, b, c4, c5, c6, c7] p) (hcw : c < w.heap.size) (hk : k < p.rules.length) :
  ∃ (g cap : Nat) (cur : Array Value) (e : TypeId) (al : Option Addr) (ql : Nat), c1 = .slice (some ⟨g, 0, none⟩) p.rules.length cap ∧ wz.heap[g]? = some (.cells cur e (0, 0)) ∧ k * 5 + 5 ≤ cur.size ∧ cur[k * 5 + 1]? = some (.slice al (nth p.rules k).heads.length ql) ∧ (g ≠ c ∧ g ≠ G) ∧
   ∀ (w6 : World) (N' : Nat) (y : Int) (ecs : List Value) (ga cp : Nat) (t ty e2 : TypeId) (i : TypeInfo) (z : Value) (bytes : Nat), P.underlying t = some (.slice e2) → P.info? e2 = some i → i.zero = some z → i.size = Rd.k Int → i.bytes = bytes → z.cells.size = Rd.k Int → 0 < Rd.k Int →
    Cg (fun x => x = c) wz w6 → Cur w6 c N' → Cells w6 ga 0 ecs → Ow.O w6 ecs y [] → ((nth p.rules k).heads.length + 1) * bytes ≤ 140737488355328 → (nth p.rules k).heads.length + 1 ≤ 140737488355328 →
    ∃ v' w8, (Builtin.append_ #[t, t] ty #[.slice al (nth p.rules k).heads.length ql, .slice (some ⟨ga, 0, none⟩) 1 cp]).run P w6 = .ok v' w8 ∧ (∃ a q, v' = .slice a ((nth p.rules k).heads.length + 1) q) ∧ w8.heap[g]? = some (.cells cur e (0, 0)) ∧ w8.heap[G]? = some (.cells [a, c1, c2, b, c4, c5, c6, c7].toArray 30 (0, 0)) ∧
     AN w c N' G (w8.setCell ⟨g, k * 5 + 1, none⟩ v') [a, c1, c2, b, c4, c5, c6, c7] { p with rules := p.rules.set k { nth p.rules k with heads := (nth p.rules k).heads ++ [y] } } := by
 obtain ⟨g, cap, cur, e, f, ecs, hv, hh, hsz, hC, hO, hgS, hgf, hff, K⟩ := h.rule hcw hk
 obtain ⟨v1, v4, f1, f2, rfl, hb, o1, o2, rfl, hnd⟩ := hO
 obtain ⟨al, ql, rfl⟩ := owL_form o1
 have hx := hC 1 _ rfl
 rw [cell_of_row _ g _ _ _ _ hh] at hx
 refine ⟨g, cap, cur, e, al, ql, hv, hh, hsz, hx, ⟨by omega, hgS.2⟩, fun w6 N' y es ga cp t ty e2 i z bytes ht hi hz hsize hby hzs hK hg6 hcur hc ho hl hl2 => ?_⟩
 have hnc : ∀ x ∈ f1 ++ f2, x ≠ c := fun x hx e => by have := (hff x hx).1; omega
 have k1 := Ow.kept (α := List Int) o1 fun x hx => hg6.block x (Ow.lt (α := List Int) o1 x hx) (hnc x (by simp only [List.mem_append]; simp [hx]))
 obtain ⟨v', w8, r, ⟨fp', a1, a2⟩, b1, b2, b3, b4, b5⟩ := OwL.push (P := P) (ty := ty) (c := cp) i z bytes ht hi hz hsize hby hzs hK k1 hc ho (fun b _ => List.not_mem_nil) hl hl2
 obtain ⟨a', q', rfl⟩ := owL_form a1
 rw [List.length_append, List.length_singleton] at r a1
 have hcg : Cg (fun x => x ∈ f1) w6 w8 := ⟨b1, b2, b3, b4, fun x hx hn => b5 x hx hn⟩
 have hcg2 : Cg (fun x => x = c ∨ x ∈ f1 ++ f2) wz w8 := (hg6.more fun x _ hx => .inl hx).trans (hcg.more fun x _ hx => .inr (by simp only [List.mem_append]; simp [hx]))
 have hdj : ∀ x ∈ f1, ∀ y ∈ f2, x ≠ y := (List.nodup_append.1 hnd).2.2
 have hAB : ∀ x ∈ f2, x ∉ f1 := fun x hx hm => by first | exact hdj x hx x hm rfl | exact hdj x hm x hx rfl
 have oB := Ow.kept (α := List (Int × Int)) o2 fun x hx => (hcg.block x (Nat.lt_of_lt_of_le (Ow.lt (α := List (Int × Int)) o2 x hx) hg6.size) (hAB x hx)).trans (hg6.block x (Ow.lt (α := List (Int × Int)) o2 x hx) (hnc x (by simp only [List.mem_append]; simp [hx])))
 have hz6 := hg6.size
 have hd : ∀ x ∈ fp', ∀ y ∈ f2, x ≠ y := fun x hx y hy e => by
  subst e
  rcases a2 x hx with h3 | h3 | h3
  ·exact hAB x hy h3
  ·cases h3
  ·have := Ow.lt (α := List (Int × Int)) o2 x hy; omega
 have hnA := Ow.nodup (α := List Int) a1
 have hnB := Ow.nodup (α := List (Int × Int)) o2
 have hn2 : (fp' ++ f2).Nodup := List.nodup_append.2 (by first | exact ⟨hnA, hnB, hd⟩ | exact ⟨hnB, hnA, fun x hx y hy e => hd y hy x hx e.symm⟩)
 obtain ⟨r1, r2, r3⟩ := K w8 N' 1 (.slice a' ((nth p.rules k).heads.length + 1) q') { nth p.rules k with heads := (nth p.rules k).heads ++ [y] } (fp' ++ f2) (by omega) hcg2 (hcur.cg (hcg.more fun x _ hx => by have := (hff x (by simp only [List.mem_append]; simp [hx])).1; omega)) (by
  first
  | exact ⟨_, v4, fp', f2, rfl, hb, a1, oB, rfl, hn2⟩
  | exact ⟨v1, _, f1, fp', rfl, hb, oB, a1, rfl, hn2⟩) (fun x hx => by
  have h9 : x ∈ fp' ∨ x ∈ f2 := by
   rcases List.mem_append.1 hx with h | h
   ·first | exact .inl h | exact .inr h
   ·first | exact .inl h | exact .inr h
  rcases h9 with h9 | h9
  ·rcases a2 x h9 with h3 | h3 | h3
   ·exact .inl (by simp only [List.mem_append]; simp [h3])
   ·cases h3
   ·exact .inr (by omega)
  ·exact .inl (by simp only [List.mem_append]; simp [h9]))
 exact ⟨_, w8, r, ⟨a', q', rfl⟩, r1, r2, r3⟩
theorem AN.body {P : Program} {a b c1 c2 c4 c5 c6 c7 : Value} {k : Nat} (h : AN w c N G wz [a, c1, c2, b, c4, c5, c6, c7] p) (hcw : c < w.heap.size) (hk : k < p.rules.length) :
  ∃ (g cap : Nat) (cur : Array Value) (e : TypeId) (al : Option Addr) (ql : Nat), c1 = .slice (some ⟨g, 0, none⟩) p.rules.length cap ∧ wz.heap[g]? = some (.cells cur e (0, 0)) ∧ k * 5 + 5 ≤ cur.size ∧ cur[k * 5 + 4]? = some (.slice al (nth p.rules k).body.length ql) ∧ (g ≠ c ∧ g ≠ G) ∧
   ∀ (w6 : World) (N' : Nat) (y : (Int × Int)) (ecs : List Value) (ga cp : Nat) (t ty e2 : TypeId) (i : TypeInfo) (z : Value) (bytes : Nat), P.underlying t = some (.slice e2) → P.info? e2 = some i → i.zero = some z → i.size = Rd.k (Int × Int) → i.bytes = bytes → z.cells.size = Rd.k (Int × Int) → 0 < Rd.k (Int × Int) →
    Cg (fun x => x = c) wz w6 → Cur w6 c N' → Cells w6 ga 0 ecs → Ow.O w6 ecs y [] → ((nth p.rules k).body.length + 1) * bytes ≤ 140737488355328 → (nth p.rules k).body.length + 1 ≤ 140737488355328 →
    ∃ v' w8, (Builtin.append_ #[t, t] ty #[.slice al (nth p.rules k).body.length ql, .slice (some ⟨ga, 0, none⟩) 1 cp]).run P w6 = .ok v' w8 ∧ (∃ a q, v' = .slice a ((nth p.rules k).body.length + 1) q) ∧ w8.heap[g]? = some (.cells cur e (0, 0)) ∧ w8.heap[G]? = some (.cells [a, c1, c2, b, c4, c5, c6, c7].toArray 30 (0, 0)) ∧
     AN w c N' G (w8.setCell ⟨g, k * 5 + 4, none⟩ v') [a, c1, c2, b, c4, c5, c6, c7] { p with rules := p.rules.set k { nth p.rules k with body := (nth p.rules k).body ++ [y] } } := by
 obtain ⟨g, cap, cur, e, f, ecs, hv, hh, hsz, hC, hO, hgS, hgf, hff, K⟩ := h.rule hcw hk
 obtain ⟨v1, v4, f1, f2, rfl, hb, o1, o2, rfl, hnd⟩ := hO
 obtain ⟨al, ql, rfl⟩ := owL_form o2
 have hx := hC 4 _ rfl
 rw [cell_of_row _ g _ _ _ _ hh] at hx
 refine ⟨g, cap, cur, e, al, ql, hv, hh, hsz, hx, ⟨by omega, hgS.2⟩, fun w6 N' y es ga cp t ty e2 i z bytes ht hi hz hsize hby hzs hK hg6 hcur hc ho hl hl2 => ?_⟩
 have hnc : ∀ x ∈ f1 ++ f2, x ≠ c := fun x hx e => by have := (hff x hx).1; omega
 have k1 := Ow.kept (α := List (Int × Int)) o2 fun x hx => hg6.block x (Ow.lt (α := List (Int × Int)) o2 x hx) (hnc x (by simp only [List.mem_append]; simp [hx]))
 obtain ⟨v', w8, r, ⟨fp', a1, a2⟩, b1, b2, b3, b4, b5⟩ := OwL.push (P := P) (ty := ty) (c := cp) i z bytes ht hi hz hsize hby hzs hK k1 hc ho (fun b _ => List.not_mem_nil) hl hl2
 obtain ⟨a', q', rfl⟩ := owL_form a1
 rw [List.length_append, List.length_singleton] at r a1
 have hcg : Cg (fun x => x ∈ f2) w6 w8 := ⟨b1, b2, b3, b4, fun x hx hn => b5 x hx hn⟩
 have hcg2 : Cg (fun x => x = c ∨ x ∈ f1 ++ f2) wz w8 := (hg6.more fun x _ hx => .inl hx).trans (hcg.more fun x _ hx => .inr (by simp only [List.mem_append]; simp [hx]))
 have hdj : ∀ x ∈ f1, ∀ y ∈ f2, x ≠ y := (List.nodup_append.1 hnd).2.2
 have hAB : ∀ x ∈ f1, x ∉ f2 := fun x hx hm => by first | exact hdj x hx x hm rfl | exact hdj x hm x hx rfl
 have oB := Ow.kept (α := List Int) o1 fun x hx => (hcg.block x (Nat.lt_of_lt_of_le (Ow.lt (α := List Int) o1 x hx) hg6.size) (hAB x hx)).trans (hg6.block x (Ow.lt (α := List Int) o1 x hx) (hnc x (by simp only [List.mem_append]; simp [hx])))
 have hz6 := hg6.size
 have hd : ∀ x ∈ fp', ∀ y ∈ f1, x ≠ y := fun x hx y hy e => by
  subst e
  rcases a2 x hx with h3 | h3 | h3
  ·exact hAB x hy h3
  ·cases h3
  ·have := Ow.lt (α := List Int) o1 x hy; omega
 have hnA := Ow.nodup (α := List (Int × Int)) a1
 have hnB := Ow.nodup (α := List Int) o1
 have hn2 : (f1 ++ fp').Nodup := List.nodup_append.2 (by first | exact ⟨hnA, hnB, hd⟩ | exact ⟨hnB, hnA, fun x hx y hy e => hd y hy x hx e.symm⟩)
 obtain ⟨r1, r2, r3⟩ := K w8 N' 4 (.slice a' ((nth p.rules k).body.length + 1) q') { nth p.rules k with body := (nth p.rules k).body ++ [y] } (f1 ++ fp') (by omega) hcg2 (hcur.cg (hcg.more fun x _ hx => by have := (hff x (by simp only [List.mem_append]; simp [hx])).1; omega)) (by
  first
  | exact ⟨_, v4, fp', f2, rfl, hb, a1, oB, rfl, hn2⟩
  | exact ⟨v1, _, f1, fp', rfl, hb, oB, a1, rfl, hn2⟩) (fun x hx => by
  have h9 : x ∈ fp' ∨ x ∈ f1 := by
   rcases List.mem_append.1 hx with h | h
   ·first | exact .inl h | exact .inr h
   ·first | exact .inl h | exact .inr h
  rcases h9 with h9 | h9
  ·rcases a2 x h9 with h3 | h3 | h3
   ·exact .inl (by simp only [List.mem_append]; simp [h3])
   ·cases h3
   ·exact .inr (by omega)
  ·exact .inl (by simp only [List.mem_append]; simp [h9]))
 exact ⟨_, w8, r, ⟨a', q', rfl⟩, r1, r2, r3⟩
/-- .. another bound, another choice. -/
theorem AN.bound {a b c1 c2 c4 c5 c6 c7 : Value} {k : Nat} (h : AN w c N G wz [a, c1, c2, b, c4, c5, c6, c7] p) (hcw : c < w.heap.size) (hk : k < p.rules.length) :
  ∃ (g cap : Nat) (cur : Array Value) (e : TypeId), c1 = .slice (some ⟨g, 0, none⟩) p.rules.length cap ∧ wz.heap[g]? = some (.cells cur e (0, 0)) ∧ k * 5 + 5 ≤ cur.size ∧ cur[k * 5 + 3]? = some (.int .i64 (nth p.rules k).bound) ∧ (g ≠ c ∧ g ≠ G) ∧
   ∀ (w6 : World) (N' : Nat) (y : Int), Fits y → Cg (fun x => x = c) wz w6 → Cur w6 c N' → w6.heap[g]? = some (.cells cur e (0, 0)) ∧ w6.heap[G]? = some (.cells [a, c1, c2, b, c4, c5, c6, c7].toArray 30 (0, 0)) ∧
     AN w c N' G (w6.setCell ⟨g, k * 5 + 3, none⟩ (.int .i64 y)) [a, c1, c2, b, c4, c5, c6, c7] { p with rules := p.rules.set k { nth p.rules k with bound := y } } := by
 obtain ⟨g, cap, cur, e, f, ecs, hv, hh, hsz, hC, hO, hgS, hgf, hff, K⟩ := h.rule hcw hk
 obtain ⟨v1, v4, f1, f2, rfl, hb, o1, o2, rfl, hnd⟩ := hO
 have hx := hC 3 _ rfl
 rw [cell_of_row _ g _ _ _ _ hh] at hx
 refine ⟨g, cap, cur, e, hv, hh, hsz, hx, ⟨by omega, hgS.2⟩, fun w6 N' y hy hg6 hcur => ?_⟩
 have hnc : ∀ x ∈ f1 ++ f2, x ≠ c := fun x hx e => by have := (hff x hx).1; omega
 have k1 := Ow.kept (α := List Int) o1 fun x hx => hg6.block x (Ow.lt (α := List Int) o1 x hx) (hnc x (by simp only [List.mem_append]; simp [hx]))
 have k2 := Ow.kept (α := List (Int × Int)) o2 fun x hx => hg6.block x (Ow.lt (α := List (Int × Int)) o2 x hx) (hnc x (by simp only [List.mem_append]; simp [hx]))
 exact K w6 N' 3 (.int .i64 y) { nth p.rules k with bound := y } (f1 ++ f2) (by omega) (hg6.more fun x _ hx => .inl hx) hcur ⟨v1, v4, f1, f2, rfl, hy, k1, k2, rfl, hnd⟩ (fun x hx => .inl hx)
theorem AN.choice {a b c1 c2 c4 c5 c6 c7 : Value} {k : Nat} (h : AN w c N G wz [a, c1, c2, b, c4, c5, c6, c7] p) (hcw : c < w.heap.size) (hk : k < p.rules.length) :
  ∃ (g cap : Nat) (cur : Array Value) (e : TypeId), c1 = .slice (some ⟨g, 0, none⟩) p.rules.length cap ∧ wz.heap[g]? = some (.cells cur e (0, 0)) ∧ k * 5 + 5 ≤ cur.size ∧ cur[k * 5 + 0]? = some (.bool (nth p.rules k).choice) ∧ (g ≠ c ∧ g ≠ G) ∧
   ∀ (w6 : World) (N' : Nat) (y : Bool), True → Cg (fun x => x = c) wz w6 → Cur w6 c N' → w6.heap[g]? = some (.cells cur e (0, 0)) ∧ w6.heap[G]? = some (.cells [a, c1, c2, b, c4, c5, c6, c7].toArray 30 (0, 0)) ∧
     AN w c N' G (w6.setCell ⟨g, k * 5 + 0, none⟩ (.bool y)) [a, c1, c2, b, c4, c5, c6, c7] { p with rules := p.rules.set k { nth p.rules k with choice := y } } := by
 obtain ⟨g, cap, cur, e, f, ecs, hv, hh, hsz, hC, hO, hgS, hgf, hff, K⟩ := h.rule hcw hk
 obtain ⟨v1, v4, f1, f2, rfl, hb, o1, o2, rfl, hnd⟩ := hO
 have hx := hC 0 _ rfl
 rw [cell_of_row _ g _ _ _ _ hh] at hx
 refine ⟨g, cap, cur, e, hv, hh, hsz, hx, ⟨by omega, hgS.2⟩, fun w6 N' y hy hg6 hcur => ?_⟩
 have hnc : ∀ x ∈ f1 ++ f2, x ≠ c := fun x hx e => by have := (hff x hx).1; omega
 have k1 := Ow.kept (α := List Int) o1 fun x hx => hg6.block x (Ow.lt (α := List Int) o1 x hx) (hnc x (by simp only [List.mem_append]; simp [hx]))
 have k2 := Ow.kept (α := List (Int × Int)) o2 fun x hx => hg6.block x (Ow.lt (α := List (Int × Int)) o2 x hx) (hnc x (by simp only [List.mem_append]; simp [hx]))
 exact K w6 N' 0 (.bool y) { nth p.rules k with choice := y } (f1 ++ f2) (by omega) (hg6.more fun x _ hx => .inl hx) hcur ⟨v1, v4, f1, f2, rfl, hb, k1, k2, rfl, hnd⟩ (fun x hx => .inl hx)
end
/-- The row of three texts that any draws from. -/
theorem tx_new (W : World) {ob : Obj} {a b d : ByteArray} {ty : TypeId} (h : Obj.cells #[.string a, .string b, .string d] ty = ob) (ha : a.size ≤ 100) (hb : b.size ≤ 100) (hd : d.size ≤ 100) :
  ∀ k, k < 3 → ∃ s : ByteArray, s.size ≤ 100 ∧ (W.alloc ob).cell? ⟨W.heap.size, k, none⟩ = some (.string s) := by
 subst h
 intro k hk
 have hb' := heap_alloc_new W (Obj.cells #[.string a, .string b, .string d] ty)
 have hc : k = 0 ∨ k = 1 ∨ k = 2 := by omega
 rcases hc with rfl | rfl | rfl
 ·exact ⟨a, ha, (cell_of_row _ _ _ _ _ _ hb').trans rfl⟩
 ·exact ⟨b, hb, (cell_of_row _ _ _ _ _ _ hb').trans rfl⟩
 ·exact ⟨d, hd, (cell_of_row _ _ _ _ _ _ hb').trans rfl⟩
theorem tx_kept {c T : Nat} {w1 w2 : World} (hw : Wrote c w1 w2) (hT : T < w1.heap.size) (hne : T ≠ c) (h : ∀ k, k < 3 → ∃ s : ByteArray, s.size ≤ 100 ∧ w1.cell? ⟨T, k, none⟩ = some (.string s)) :
  ∀ k, k < 3 → ∃ s : ByteArray, s.size ≤ 100 ∧ w2.cell? ⟨T, k, none⟩ = some (.string s) := fun k hk => by
 obtain ⟨s, h1, h2⟩ := h k hk
 exact ⟨s, h1, (World.cell?_of_block (w := w1) (w' := w2) (a := ⟨T, k, none⟩) ((Cg.wrote (S := fun g => g = c) hw rfl).block T hT hne)).trans h2⟩
/-- How long a slice is that lies in a box's second cell. -/
def lenAt (w : World) (G : Nat) : Nat := match w.cell? ⟨G, 1, none⟩ with | some (.slice _ n _) => n | _ => 0
theorem lenAt_box {w : World} {G n cap : Nat} {al : Option Addr} {a c2 b c4 c5 c6 c7 : Value} {e : TypeId} (h : w.heap[G]? = some (.cells [a, .slice al n cap, c2, b, c4, c5, c6, c7].toArray e (0, 0))) : lenAt w G = n := by
 have h1 := (cells8 (box_cells h)).2.1
 unfold lenAt
 rw [h1]
/-- What any answers. -/
def AnyPost (w : World) (c N : Nat) (e : Ending) (w' : World) : Prop := ∃ cs p, e = .returned (.agg (List.toArray cs)) ∧ Lent w.heap.size (fun x => x < w.heap.size) w' cs p ∧ Wee p ∧ Cur w' c N ∧ Wrote c w w'
end Go.Proofs.YthikhkeofcjdfaaGreat
