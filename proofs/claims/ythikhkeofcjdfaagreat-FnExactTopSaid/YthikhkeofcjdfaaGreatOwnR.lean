/-
 A row of the call's own whose elements own memory too, and 'append' to it. No condition of its own.
-/
import Derived.Test.YthikhkeofcjdfaaGreatAppend
import Derived.Deep.AppendLies
namespace Go.Proofs.YthikhkeofcjdfaaGreat
set_option linter.unusedVariables false
set_option linter.unusedSimpArgs false
open Go.RowKit
set_option maxRecDepth 100000

/-- Elements that lie in a list of values, one behind the other, each with the blocks that it owns. -/
def Els {α : Type} [Ow α] (w : World) (ys : List Value) (xs : List α) (fps : List (List Nat)) : Prop :=
 fps.length = xs.length ∧ fps.flatten.Nodup ∧ ∀ i, i < xs.length → ∃ ecs, (∀ j u, ecs[j]? = some u → ys[i * Rd.k α + j]? = some u) ∧ Ow.O w ecs (nth xs i) (fps.getD i [])

theorem Els.nil {α : Type} [Ow α] (w : World) (ys : List Value) : Els (α := α) w ys [] [] := ⟨rfl, by simp, fun i hi => absurd hi (by simp)⟩
theorem Els.kept {α : Type} [Ow α] {w w' : World} {ys : List Value} {xs : List α} {fps : List (List Nat)} (h : Els w ys xs fps) (hk : ∀ g ∈ fps.flatten, w'.heap[g]? = w.heap[g]?) : Els w' ys xs fps :=
 ⟨h.1, h.2.1, fun i hi => by obtain ⟨ecs, h1, h2⟩ := h.2.2 i hi; exact ⟨ecs, h1, Ow.kept h2 fun g hg => hk g (mem_flat hg)⟩⟩
theorem Els.lt {α : Type} [Ow α] {w : World} {ys : List Value} {xs : List α} {fps : List (List Nat)} (h : Els w ys xs fps) : ∀ g ∈ fps.flatten, g < w.heap.size := by
 intro g hg
 obtain ⟨i, hi, hm⟩ := flat_mem hg
 obtain ⟨_, _, h2⟩ := h.2.2 i (by have := h.1; omega)
 exact Ow.lt h2 g hm
theorem nth_app_l {α : Type} [Inhabited α] {xs zs : List α} {i : Nat} (h : i < xs.length) : nth (xs ++ zs) i = nth xs i := by
 unfold nth; rw [List.getD_eq_getElem?_getD, List.getD_eq_getElem?_getD, List.getElem?_append_left h]
theorem nth_app_r {α : Type} [Inhabited α] {xs zs : List α} {i : Nat} (h : xs.length ≤ i) : nth (xs ++ zs) i = nth zs (i - xs.length) := by
 unfold nth; rw [List.getD_eq_getElem?_getD, List.getD_eq_getElem?_getD, List.getElem?_append_right h]
theorem getD_app_l {α : Type} {xs zs : List (List α)} {i : Nat} (h : i < xs.length) : (xs ++ zs).getD i [] = xs.getD i [] := by
 rw [List.getD_eq_getElem?_getD, List.getD_eq_getElem?_getD, List.getElem?_append_left h]
theorem getD_app_r {α : Type} {xs zs : List (List α)} {i : Nat} (h : xs.length ≤ i) : (xs ++ zs).getD i [] = zs.getD (i - xs.length) [] := by
 rw [List.getD_eq_getElem?_getD, List.getD_eq_getElem?_getD, List.getElem?_append_right h]
theorem Els.app {α : Type} [Ow α] {w : World} {ys ns : List Value} {xs zs : List α} {f1 f2 : List (List Nat)} (h : Els w ys xs f1) (h2 : Els w ns zs f2) (hl : ys.length = xs.length * Rd.k α)
  (hd : ∀ g, g ∈ f1.flatten → g ∈ f2.flatten → False) : Els w (ys ++ ns) (xs ++ zs) (f1 ++ f2) := by
 refine ⟨by rw [List.length_append, List.length_append, h.1, h2.1], ?_, fun i hi => ?_⟩
 ·rw [List.flatten_append]
  exact List.nodup_append.2 ⟨h.2.1, h2.2.1, fun a ha b hb e => hd a ha (e ▸ hb)⟩
 by_cases hlt : i < xs.length
 ·obtain ⟨ecs, e1, e2⟩ := h.2.2 i hlt
  refine ⟨ecs, fun j u hu => ?_, by rw [nth_app_l hlt, getD_app_l (by rw [h.1]; exact hlt)]; exact e2⟩
  have hj : j < ecs.length := (List.getElem?_eq_some_iff.1 hu).1
  rw [Rd.len (Ow.rd e2)] at hj
  have := mul_room (K := Rd.k α) hlt
  rw [List.getElem?_append_left (by omega)]
  exact e1 j u hu
 ·obtain ⟨ecs, e1, e2⟩ := h2.2.2 (i - xs.length) (by rw [List.length_append] at hi; omega)
  refine ⟨ecs, fun j u hu => ?_, by rw [nth_app_r (by omega), getD_app_r (by rw [h.1]; omega), h.1]; exact e2⟩
  have hm : i * Rd.k α = xs.length * Rd.k α + (i - xs.length) * Rd.k α := by rw [← Nat.add_mul]; congr 1; omega
  rw [List.getElem?_append_right (by omega), show i * Rd.k α + j - ys.length = (i - xs.length) * Rd.k α + j by omega]
  exact e1 j u hu

/-- v is nil, or a row of the call's own that holds xs; what the elements own is the call's too. -/
def OwnR {α : Type} [Ow α] (B : Nat) (e : TypeId) (w : World) (v : Value) (xs : List α) : Prop :=
 ∃ ys fps, w.ownsRow B e (Rd.k α) v xs.length ys ∧ Els w ys xs fps ∧ ∀ f ∈ fps.flatten, B ≤ f ∧ v.ownBlock ≠ some f

theorem OwnR.nil {α : Type} [Ow α] (B : Nat) (e : TypeId) (w : World) : OwnR (α := α) B e w (.slice none 0 0) [] :=
 ⟨[], [], World.ownsRow_nil _ _ _ _, Els.nil _ _, by simp⟩
theorem OwnR.start {α : Type} [Ow α] {B : Nat} {e : TypeId} {w : World} {v : Value} (h : w.ownsRow B e (Rd.k α) v 0 []) : OwnR (α := α) B e w v [] := ⟨[], [], h, Els.nil _ _, by simp⟩
theorem OwnR.later {α : Type} [Ow α] {B : Nat} {e : TypeId} {w w' : World} {v : Value} {xs : List α} (h : OwnR B e w v xs) (hb : Below w.heap.size w w') : OwnR B e w' v xs := by
 obtain ⟨ys, fps, h1, h2, h3⟩ := h
 refine ⟨ys, fps, ?_, h2.kept fun g hg => hb.block g (h2.lt g hg), h3⟩
 refine ⟨h1.1, h1.2.imp id fun ⟨g, cap, cur, e1, e2, e3, r⟩ => ⟨g, cap, cur, e1, e2, ?_, r⟩⟩
 rw [hb.block g (block_lt e3)]; exact e3
theorem OwnR.mono {α : Type} [Ow α] {B B' : Nat} {e : TypeId} {w : World} {v : Value} {xs : List α} (h : OwnR B e w v xs) (hB : B' ≤ B) : OwnR B' e w v xs := by
 obtain ⟨ys, fps, h1, h2, h3⟩ := h
 exact ⟨ys, fps, ⟨h1.1, h1.2.imp id fun ⟨g, cap, cur, e1, e2, r⟩ => ⟨g, cap, cur, e1, Nat.le_trans hB e2, r⟩⟩, h2, fun f hf => ⟨Nat.le_trans hB (h3 f hf).1, (h3 f hf).2⟩⟩
theorem OwnR.form {α : Type} [Ow α] {B : Nat} {e : TypeId} {w : World} {v : Value} {xs : List α} (h : OwnR B e w v xs) : ∃ a cap, v = .slice a xs.length cap ∧ (∀ p, a = some p → B ≤ p.block) := by
 obtain ⟨ys, fps, ⟨_, h1⟩, _⟩ := h
 rcases h1 with ⟨rfl, hn⟩ | ⟨g, cap, cur, rfl, hg, _⟩
 ·exact ⟨none, 0, by rw [hn], fun p hp => by cases hp⟩
 ·exact ⟨some ⟨g, 0, none⟩, cap, rfl, fun p hp => by cases hp; exact hg⟩
theorem OwnR.far {α : Type} [Ow α] {B : Nat} {e : TypeId} {w : World} {v : Value} {xs : List α} (h : OwnR B e w v xs) {p : Addr} (hp : p.block < B) (u : Value) : OwnR B e (w.setCell p u) v xs := by
 obtain ⟨ys, fps, h1, h2, h3⟩ := h
 refine ⟨ys, fps, ?_, h2.kept fun g hg => Below.heap_setCell _ _ _ _ (by have := (h3 g hg).1; omega), h3⟩
 refine ⟨h1.1, h1.2.imp id fun ⟨g, cap, cur, e1, e2, e3, r⟩ => ⟨g, cap, cur, e1, e2, ?_, r⟩⟩
 rw [Below.heap_setCell _ _ _ _ (by omega)]; exact e3

theorem OwnR.own {α : Type} [Ow α] {B : Nat} {e : TypeId} {w : World} {v : Value} {xs : List α} (h : OwnR B e w v xs) : Own B w [v] xs := by
 obtain ⟨ys, fps, hr, hE, h3⟩ := h
 have hr0 := hr
 obtain ⟨h1, h2⟩ := hr
 rcases h2 with ⟨rfl, hn⟩ | ⟨g, cap, cur, rfl, hg, hh, hnc, hcm, hcs, ht⟩
 ·have : xs = [] := List.eq_nil_of_length_eq_zero hn
  subst this
  exact Own.nilL _ _ _ _ (by omega)
 ·refine ⟨g :: fps.flatten, ⟨_, _, rfl, hnc, by unfold maxLen at hcm; omega, .inr ⟨g, e, cur, fps, rfl, hh, by rw [hcs]; exact Nat.le_refl _, hE.1, rfl, List.nodup_cons.2 ⟨fun hm => (h3 g hm).2 rfl, hE.2.1⟩, fun i hi => ?_⟩⟩, fun x hx => ?_⟩
  ·obtain ⟨ecs, e1, e2⟩ := hE.2.2 i hi
   refine ⟨ecs, fun j u hu => ?_, e2⟩
   have hj : j < ecs.length := (List.getElem?_eq_some_iff.1 hu).1
   rw [Rd.len (Ow.rd e2)] at hj
   have hroom := mul_room (K := Rd.k α) hi
   rw [hr0.cellAt _ (by omega)]
   exact e1 j u hu
  ·rcases List.mem_cons.1 hx with rfl | hx
   ·exact hg
   ·exact (h3 x hx).1

/-- The values that lie from an address on. -/
def valsAt (w : World) (b off n : Nat) : List Value := (List.range n).map fun j => (w.cell? ⟨b, off + j, none⟩).getD default
theorem valsAt_at {w : World} {b off n j : Nat} (h : j < n) : (valsAt w b off n)[j]? = some ((w.cell? ⟨b, off + j, none⟩).getD default) := by
 unfold valsAt; rw [List.getElem?_map, List.getElem?_range h]; rfl

/-- What is appended: its elements, from an address on, with what they own. -/
def Src {α : Type} [Ow α] (w : World) (a : Addr) (zs : List α) (fps : List (List Nat)) : Prop :=
 ∃ b off, a = ⟨b, off, none⟩ ∧ fps.length = zs.length ∧ fps.flatten.Nodup ∧ ∀ i, i < zs.length → ∃ ecs, Cells w b (off + i * Rd.k α) ecs ∧ Ow.O w ecs (nth zs i) (fps.getD i [])

theorem Src.els {α : Type} [Ow α] {w : World} {a : Addr} {zs : List α} {fps : List (List Nat)} (h : Src w a zs fps) (hK : 0 < Rd.k α) :
  ∃ news : List Value, news.length = zs.length * Rd.k α ∧ (∀ j u, news[j]? = some u → w.cell? (a.add j) = some u) ∧ (∀ u ∈ news, u.oneCell' = true) ∧ Els w news zs fps := by
 obtain ⟨b, off, rfl, h1, h2, h3⟩ := h
 have hat : ∀ j, j < zs.length * Rd.k α → ∃ u, w.cell? ⟨b, off + j, none⟩ = some u ∧ u.oneCell' = true := by
  intro j hj
  have hi : j / Rd.k α < zs.length := Nat.div_lt_of_lt_mul (by rw [Nat.mul_comm]; exact hj)
  obtain ⟨ecs, hc, ho⟩ := h3 _ hi
  have hm : j % Rd.k α < ecs.length := by rw [Rd.len (Ow.rd ho)]; exact Nat.mod_lt _ hK
  have e : j = j / Rd.k α * Rd.k α + j % Rd.k α := by rw [Nat.mul_comm]; exact (Nat.div_add_mod j (Rd.k α)).symm
  have h2 := hc _ _ (List.getElem?_eq_getElem hm)
  rw [Nat.add_assoc, ← e] at h2
  exact ⟨_, h2, Rd.one (Ow.rd ho) _ (List.getElem_mem _)⟩
 refine ⟨valsAt w b off (zs.length * Rd.k α), by simp [valsAt], fun j u hu => ?_, fun u hu => ?_, h1, h2, fun i hi => ?_⟩
 ·have hj : j < zs.length * Rd.k α := by have := (List.getElem?_eq_some_iff.1 hu).1; simpa [valsAt] using this
  rw [valsAt_at hj] at hu
  obtain ⟨x, hx, _⟩ := hat j hj
  rw [hx] at hu
  unfold Addr.add
  by_cases e : j = 0
  ·subst e; simpa [← Option.some.inj hu] using hx
  ·rw [if_neg e]; exact hx.trans hu
 ·obtain ⟨j, hj, rfl⟩ := List.getElem_of_mem hu
  have hj' : j < zs.length * Rd.k α := by simpa [valsAt] using hj
  have h5 := valsAt_at (w := w) (b := b) (off := off) hj'
  rw [List.getElem?_eq_getElem hj] at h5
  obtain ⟨x, hx, h6⟩ := hat j hj'
  rw [Option.some.inj h5, hx]
  exact h6
 ·obtain ⟨ecs, hc, ho⟩ := h3 i hi
  refine ⟨ecs, fun j u hu => ?_, ho⟩
  have hj : j < ecs.length := (List.getElem?_eq_some_iff.1 hu).1
  rw [Rd.len (Ow.rd ho)] at hj
  have hroom := mul_room (K := Rd.k α) hi
  rw [valsAt_at (by omega), show off + (i * Rd.k α + j) = off + i * Rd.k α + j by omega, hc j u hu]
  rfl

theorem run_append_R {α : Type} [Ow α] {P : Program} {w : World} {B : Nat} {t ty e : TypeId} {v : Value} {xs zs : List α} {ad : Addr} {c : Nat} {fps2 : List (List Nat)}
  (i : TypeInfo) (z : Value) (bytes : Nat) (ht : P.underlying t = some (.slice e)) (hi : P.info? e = some i) (hz : i.zero = some z) (hsize : i.size = Rd.k α) (hby : i.bytes = bytes) (hzs : z.cells.size = Rd.k α) (hK : 0 < Rd.k α)
  (hown : OwnR B e w v xs) (hs : Src w ad zs fps2) (hd : ∀ f ∈ fps2.flatten, B ≤ f ∧ v.ownBlock ≠ some f) (hdd : ∀ ys fps, w.ownsRow B e (Rd.k α) v xs.length ys → Els w ys xs fps → (∀ f ∈ fps.flatten, B ≤ f ∧ v.ownBlock ≠ some f) → ∃ ys' fps', w.ownsRow B e (Rd.k α) v xs.length ys' ∧ Els w ys' xs fps' ∧ (∀ f ∈ fps'.flatten, B ≤ f ∧ v.ownBlock ≠ some f) ∧ ∀ f ∈ fps'.flatten, f ∈ fps2.flatten → False)
  (hl : (xs.length + zs.length) * bytes ≤ 140737488355328) (hl2 : xs.length + zs.length ≤ 140737488355328) (hB : B ≤ w.heap.size) :
  ∃ v' w', (Builtin.append_ #[t, t] ty #[v, .slice (some ad) zs.length c]).run P w = .ok v' w' ∧ OwnR B e w' v' (xs ++ zs) ∧ Below B w w' ∧ w.grownBy w' v.ownBlock := by
 obtain ⟨ys0, fps0, hr0, hE0, h30⟩ := hown
 obtain ⟨ys, fps, hr, hE, h3, hdis⟩ := hdd ys0 fps0 hr0 hE0 h30
 obtain ⟨news, n1, n2, n3, n4⟩ := hs.els hK
 obtain ⟨v', w', r1, r2, r3, _, r5⟩ := run_append_own_at (P := P) w B t ty e i z (Rd.k α) bytes ht hi hz hsize hby hzs hK v xs.length ys hr ad zs.length c news n1 n2 n3 (by unfold maxLen; omega) hl hB
 refine ⟨v', w', r1, ⟨ys ++ news, fps ++ fps2, by rw [List.length_append]; exact r2, ?_, fun f hf => ?_⟩, (Below.refl _ _).grown r3 hB fun k hk => (hr.lt k hk).1, r3⟩
 ·exact Els.app (hE.kept fun g hg => r3.block g (hE.lt g hg) fun e => (h3 g hg).2 e.symm) (n4.kept fun g hg => r3.block g (n4.lt g hg) fun e => (hd g hg).2 e.symm) hr.1 hdis
 ·rw [List.flatten_append, List.mem_append] at hf
  have hlt : f < w.heap.size ∧ B ≤ f ∧ v.ownBlock ≠ some f := hf.elim (fun h => ⟨hE.lt f h, h3 f h⟩) (fun h => ⟨n4.lt f h, hd f h⟩)
  refine ⟨hlt.2.1, fun e => ?_⟩
  rcases r5 with r5 | r5
  ·exact hlt.2.2 (r5 ▸ e)
  ·rw [r5] at e; have := Option.some.inj e; omega

/-- One element that has just been made (its blocks from M on, where all that v has lies below M). -/
theorem run_append_one {α : Type} [Ow α] {P : Program} {w0 w : World} {B M : Nat} {t ty e : TypeId} {v : Value} {xs : List α} {y : α} {ecs : List Value} {g c : Nat}
  (i : TypeInfo) (z : Value) (bytes : Nat) (ht : P.underlying t = some (.slice e)) (hi : P.info? e = some i) (hz : i.zero = some z) (hsize : i.size = Rd.k α) (hby : i.bytes = bytes) (hzs : z.cells.size = Rd.k α) (hK : 0 < Rd.k α)
  (hown : OwnR B e w0 v xs) (hM : w0.heap.size ≤ M) (hb : Below w0.heap.size w0 w) (hc : Cells w g 0 ecs) (ho : Own M w ecs y)
  (hl : (xs.length + 1) * bytes ≤ 140737488355328) (hl2 : xs.length + 1 ≤ 140737488355328) (hB : B ≤ w0.heap.size) :
  ∃ v' w', (Builtin.append_ #[t, t] ty #[v, .slice (some ⟨g, 0, none⟩) 1 c]).run P w = .ok v' w' ∧ OwnR B e w' v' (xs ++ [y]) ∧ Below B w w' ∧ w.grownBy w' v.ownBlock := by
 obtain ⟨fp, ho, hfp⟩ := ho
 have hsz := hb.size
 have hbl : ∀ k, v.ownBlock = some k → k < w0.heap.size := by
  obtain ⟨ys, fps, hr, _⟩ := hown
  exact fun k hk => (hr.lt k hk).2
 obtain ⟨ys0, fps0, q1, q2, q3⟩ := hown
 have q1' : w.ownsRow B e (Rd.k α) v xs.length ys0 := ⟨q1.1, q1.2.imp id fun ⟨g, cap, cur, e1, e2, e3, r⟩ => ⟨g, cap, cur, e1, e2, by rw [hb.block g (block_lt e3)]; exact e3, r⟩⟩
 have q2' := q2.kept fun g hg => hb.block g (q2.lt g hg)
 have := run_append_R (α := α) (zs := [y]) (fps2 := [fp]) (ad := ⟨g, 0, none⟩) (c := c) (ty := ty) i z bytes ht hi hz hsize hby hzs hK ⟨ys0, fps0, q1', q2', q3⟩ ⟨g, 0, rfl, rfl, by simpa using Ow.nodup ho, fun j hj => by
   have : j = 0 := by simp at hj; omega
   subst this
   exact ⟨ecs, by rw [Nat.zero_mul]; exact hc, ho⟩⟩ (fun f hf => by
   have hf : f ∈ fp := by simpa using hf
   have := hfp f hf
   exact ⟨by omega, fun e => by have := hbl f e; omega⟩) (fun _ _ _ _ _ => ⟨ys0, fps0, q1', q2', q3, fun f hf hf2 => by
   have hf2 : f ∈ fp := by simpa using hf2
   have := hfp f hf2
   have := q2.lt f hf
   omega⟩) hl hl2 (by omega)
 exact this

theorem wpList_append_one {α : Type} [Ow α] {P : Program} {ops : Array Oper} {rest : List Oper} {o : Oper} {a : Act} {Q : Exit → Act → World → Prop} {w0 w : World} {B M : Nat} {t e : TypeId} {v : Value} {xs : List α} {y : α} {ecs : List Value} {g c : Nat} (hgd : o.guard = none) (s x : Operand)
  (hop : o.op = .call { callee := .builtin .append, args := #[s, x], argTypes := #[t, t] })
  (i : TypeInfo) (z : Value) (bytes : Nat) (ht : P.underlying t = some (.slice e)) (hi : P.info? e = some i) (hz : i.zero = some z) (hsize : i.size = Rd.k α) (hby : i.bytes = bytes) (hzs : z.cells.size = Rd.k α) (hK : 0 < Rd.k α)
  (hs : a.eval s = v) (hx : a.eval x = .slice (some ⟨g, 0, none⟩) 1 c)
  (hown : OwnR B e w0 v xs) (hM : w0.heap.size ≤ M) (hb : Below w0.heap.size w0 w) (hc : Cells w g 0 ecs) (ho : Own M w ecs y)
  (hl : (xs.length + 1) * bytes ≤ 140737488355328) (hl2 : xs.length + 1 ≤ 140737488355328) (hB : B ≤ w0.heap.size)
  (h : ∀ v' w', OwnR B e w' v' (xs ++ [y]) → Below B w w' → w.grownBy w' v.ownBlock → wpList P ops Q rest (a.put o.dst v') w') : wpList P ops Q (o :: rest) a w := by
 obtain ⟨v', w', r1, r2, r3, r4⟩ := run_append_one (P := P) (ty := o.type) (c := c) i z bytes ht hi hz hsize hby hzs hK hown hM hb hc ho hl hl2 hB
 refine wpList_plain hgd fun K hK => ?_
 unfold Oper.wp execOp
 simp only [hop, resolve, invoke, builtin, Sem.run_bind, Sem.run_pure, Result.andThen_ok, List.map_toArray, List.map_cons, List.map_nil, hs, hx, r1]
 exact hK _ _ (h v' w' r2 r3 r4)

theorem wp_append_one {α : Type} [Ow α] {P : Program} {o : Oper} {a : Act} {K : Act → World → Prop} {Q : Exit → Act → World → Prop} {w0 w : World} {B M : Nat} {t e : TypeId} {v : Value} {xs : List α} {y : α} {ecs : List Value} {g c : Nat} (s x : Operand)
  (hop : o.op = .call { callee := .builtin .append, args := #[s, x], argTypes := #[t, t] })
  (i : TypeInfo) (z : Value) (bytes : Nat) (ht : P.underlying t = some (.slice e)) (hi : P.info? e = some i) (hz : i.zero = some z) (hsize : i.size = Rd.k α) (hby : i.bytes = bytes) (hzs : z.cells.size = Rd.k α) (hK : 0 < Rd.k α)
  (hs : a.eval s = v) (hx : a.eval x = .slice (some ⟨g, 0, none⟩) 1 c)
  (hown : OwnR B e w0 v xs) (hM : w0.heap.size ≤ M) (hb : Below w0.heap.size w0 w) (hc : Cells w g 0 ecs) (ho : Own M w ecs y)
  (hl : (xs.length + 1) * bytes ≤ 140737488355328) (hl2 : xs.length + 1 ≤ 140737488355328) (hB : B ≤ w0.heap.size)
  (h : ∀ v' w', OwnR B e w' v' (xs ++ [y]) → Below B w w' → w.grownBy w' v.ownBlock → K (a.put o.dst v') w') : o.wp P a w K Q := by
 obtain ⟨v', w', r1, r2, r3, r4⟩ := run_append_one (P := P) (ty := o.type) (c := c) i z bytes ht hi hz hsize hby hzs hK hown hM hb hc ho hl hl2 hB
 unfold Oper.wp execOp
 simp only [hop, resolve, invoke, builtin, Sem.run_bind, Sem.run_pure, Result.andThen_ok, List.map_toArray, List.map_cons, List.map_nil, hs, hx, r1]
 exact h v' w' r2 r3 r4

/-! ### .. with a word on where its blocks lie -/
def OwnD {α : Type} [Ow α] (B : Nat) (D : Nat → Prop) (e : TypeId) (w : World) (v : Value) (xs : List α) : Prop :=
 ∃ ys fps, w.ownsRow B e (Rd.k α) v xs.length ys ∧ Els w ys xs fps ∧ (∀ f ∈ fps.flatten, D f ∧ v.ownBlock ≠ some f) ∧ ∀ g, v.ownBlock = some g → D g
theorem OwnR.toD {α : Type} [Ow α] {B : Nat} {e : TypeId} {w : World} {v : Value} {xs : List α} (h : OwnR B e w v xs) : OwnD B (fun f => B ≤ f ∧ f < w.heap.size) e w v xs := by
 obtain ⟨ys, fps, h1, h2, h3⟩ := h
 exact ⟨ys, fps, h1, h2, fun f hf => ⟨⟨(h3 f hf).1, h2.lt f hf⟩, (h3 f hf).2⟩, fun g hg => h1.lt g hg⟩
theorem OwnD.weak {α : Type} [Ow α] {B B' : Nat} {D D' : Nat → Prop} {e : TypeId} {w : World} {v : Value} {xs : List α} (h : OwnD B D e w v xs) (hB : B' ≤ B) (hD : ∀ f, D f → D' f) : OwnD B' D' e w v xs := by
 obtain ⟨ys, fps, h1, h2, h3, h4⟩ := h
 exact ⟨ys, fps, ⟨h1.1, h1.2.imp id fun ⟨g, cap, cur, e1, e2, r⟩ => ⟨g, cap, cur, e1, Nat.le_trans hB e2, r⟩⟩, h2, fun f hf => ⟨hD f (h3 f hf).1, (h3 f hf).2⟩, fun g hg => hD g (h4 g hg)⟩
theorem OwnD.kept {α : Type} [Ow α] {B : Nat} {D : Nat → Prop} {e : TypeId} {w w' : World} {v : Value} {xs : List α} (h : OwnD B D e w v xs) (hk : ∀ f, D f → f < w.heap.size → w'.heap[f]? = w.heap[f]?) : OwnD B D e w' v xs := by
 obtain ⟨ys, fps, h1, h2, h3, h4⟩ := h
 refine ⟨ys, fps, ⟨h1.1, h1.2.imp id fun ⟨g, cap, cur, e1, e2, e3, r⟩ => ⟨g, cap, cur, e1, e2, ?_, r⟩⟩, h2.kept fun g hg => hk g (h3 g hg).1 (h2.lt g hg), h3, h4⟩
 rw [hk g (h4 g (by rw [e1]; rfl)) (block_lt e3)]; exact e3
theorem OwnD.later {α : Type} [Ow α] {B : Nat} {D : Nat → Prop} {e : TypeId} {w w' : World} {v : Value} {xs : List α} (h : OwnD B D e w v xs) (hb : Below w.heap.size w w') : OwnD B D e w' v xs := h.kept fun f _ hf => hb.block f hf
theorem OwnD.far {α : Type} [Ow α] {B : Nat} {D : Nat → Prop} {e : TypeId} {w : World} {v : Value} {xs : List α} (h : OwnD B D e w v xs) {p : Addr} (hp : ¬ D p.block) (u : Value) : OwnD B D e (w.setCell p u) v xs :=
 h.kept fun f hf _ => Below.heap_setCell _ _ _ _ fun e => hp (e ▸ hf)
theorem OwnD.form {α : Type} [Ow α] {B : Nat} {D : Nat → Prop} {e : TypeId} {w : World} {v : Value} {xs : List α} (h : OwnD B D e w v xs) : ∃ a cap, v = .slice a xs.length cap := by
 obtain ⟨ys, fps, ⟨_, h1⟩, _⟩ := h
 rcases h1 with ⟨rfl, hn⟩ | ⟨g, cap, cur, rfl, hg, _⟩
 ·exact ⟨none, 0, by rw [hn]⟩
 ·exact ⟨some ⟨g, 0, none⟩, cap, rfl⟩
theorem OwnD.own {α : Type} [Ow α] {B : Nat} {D : Nat → Prop} {e : TypeId} {w : World} {v : Value} {xs : List α} (h : OwnD B D e w v xs) : ∃ fp, OwL w [v] xs fp ∧ ∀ f ∈ fp, D f := by
 obtain ⟨ys, fps, hr, hE, h3, h4⟩ := h
 have hr0 := hr
 obtain ⟨h1, h2⟩ := hr
 rcases h2 with ⟨rfl, hn⟩ | ⟨g, cap, cur, rfl, hg, hh, hnc, hcm, hcs, ht⟩
 ·have : xs = [] := List.eq_nil_of_length_eq_zero hn
  subst this
  exact ⟨[], ⟨none, 0, rfl, Nat.le_refl _, by omega, .inl ⟨rfl, rfl, rfl⟩⟩, by simp⟩
 ·refine ⟨g :: fps.flatten, ⟨_, _, rfl, hnc, by unfold maxLen at hcm; omega, .inr ⟨g, e, cur, fps, rfl, hh, by rw [hcs]; exact Nat.le_refl _, hE.1, rfl, List.nodup_cons.2 ⟨fun hm => (h3 g hm).2 rfl, hE.2.1⟩, fun i hi => ?_⟩⟩, fun x hx => ?_⟩
  ·obtain ⟨ecs, e1, e2⟩ := hE.2.2 i hi
   refine ⟨ecs, fun j u hu => ?_, e2⟩
   have hj : j < ecs.length := (List.getElem?_eq_some_iff.1 hu).1
   rw [Rd.len (Ow.rd e2)] at hj
   have hroom := mul_room (K := Rd.k α) hi
   rw [hr0.cellAt _ (by omega)]
   exact e1 j u hu
  ·rcases List.mem_cons.1 hx with rfl | hx
   ·exact h4 _ rfl
   ·exact (h3 x hx).1

theorem run_append_D {α : Type} [Ow α] {P : Program} {w : World} {B : Nat} {D D2 : Nat → Prop} {t ty e : TypeId} {v : Value} {xs zs : List α} {ad : Addr} {c : Nat} {fps2 : List (List Nat)}
  (i : TypeInfo) (z : Value) (bytes : Nat) (ht : P.underlying t = some (.slice e)) (hi : P.info? e = some i) (hz : i.zero = some z) (hsize : i.size = Rd.k α) (hby : i.bytes = bytes) (hzs : z.cells.size = Rd.k α) (hK : 0 < Rd.k α)
  (hown : OwnD B D e w v xs) (hs : Src w ad zs fps2) (hd2 : ∀ f ∈ fps2.flatten, D2 f) (hdis : ∀ f, D f → D2 f → False)
  (hl : (xs.length + zs.length) * bytes ≤ 140737488355328) (hl2 : xs.length + zs.length ≤ 140737488355328) (hB : B ≤ w.heap.size) :
  ∃ v' w', (Builtin.append_ #[t, t] ty #[v, .slice (some ad) zs.length c]).run P w = .ok v' w' ∧ OwnD B (fun f => D f ∨ D2 f ∨ w.heap.size ≤ f) e w' v' (xs ++ zs) ∧ Below B w w' ∧ w.grownBy w' v.ownBlock := by
 obtain ⟨ys, fps, hr, hE, h3, h4⟩ := hown
 obtain ⟨news, n1, n2, n3, n4⟩ := hs.els hK
 obtain ⟨v', w', r1, r2, r3, _, r5⟩ := run_append_own_at (P := P) w B t ty e i z (Rd.k α) bytes ht hi hz hsize hby hzs hK v xs.length ys hr ad zs.length c news n1 n2 n3 (by unfold maxLen; omega) hl hB
 have hv2 : ∀ f ∈ fps2.flatten, v.ownBlock ≠ some f := fun f hf e => hdis f (h4 f e) (hd2 f hf)
 refine ⟨v', w', r1, ⟨ys ++ news, fps ++ fps2, by rw [List.length_append]; exact r2, ?_, fun f hf => ?_, fun g hg => ?_⟩, (Below.refl _ _).grown r3 hB fun k hk => (hr.lt k hk).1, r3⟩
 ·exact Els.app (hE.kept fun g hg => r3.block g (hE.lt g hg) fun e => (h3 g hg).2 e.symm) (n4.kept fun g hg => r3.block g (n4.lt g hg) fun e => hv2 g hg e.symm) hr.1 fun g h1 h2 => hdis g (h3 g h1).1 (hd2 g h2)
 ·rw [List.flatten_append, List.mem_append] at hf
  have hlt : f < w.heap.size ∧ (D f ∨ D2 f) ∧ v.ownBlock ≠ some f := hf.elim (fun h => ⟨hE.lt f h, .inl (h3 f h).1, (h3 f h).2⟩) (fun h => ⟨n4.lt f h, .inr (hd2 f h), hv2 f h⟩)
  refine ⟨hlt.2.1.imp id .inl, fun e => ?_⟩
  rcases r5 with r5 | r5
  ·exact hlt.2.2 (r5 ▸ e)
  ·rw [r5] at e; have := Option.some.inj e; omega
 ·rcases r5 with r5 | r5
  ·exact .inl (h4 g (r5 ▸ hg))
  ·rw [r5] at hg; have := Option.some.inj hg; exact .inr (.inr (by omega))

/-- What a row of the call's own holds, as something to append. -/
theorem OwnR.src {α : Type} [Ow α] {B : Nat} {e : TypeId} {w : World} {v : Value} {xs : List α} (h : OwnR B e w v xs) (hp : ∃ p, v.ownBlock = some p) :
  ∃ g cap fps, v = .slice (some ⟨g, 0, none⟩) xs.length cap ∧ Src w ⟨g, 0, none⟩ xs fps ∧ ∀ f ∈ fps.flatten, B ≤ f ∧ f < w.heap.size := by
 obtain ⟨ys, fps, hr, hE, h3⟩ := h
 have hr0 := hr
 obtain ⟨h1, h2⟩ := hr
 rcases h2 with ⟨rfl, _⟩ | ⟨g, cap, cur, rfl, _⟩
 ·obtain ⟨p, hp⟩ := hp; cases hp
 refine ⟨g, cap, fps, rfl, ⟨g, 0, rfl, hE.1, hE.2.1, fun i hi => ?_⟩, fun f hf => ⟨(h3 f hf).1, hE.lt f hf⟩⟩
 obtain ⟨ecs, e1, e2⟩ := hE.2.2 i hi
 refine ⟨ecs, fun j u hu => ?_, e2⟩
 have hj : j < ecs.length := (List.getElem?_eq_some_iff.1 hu).1
 rw [Rd.len (Ow.rd e2)] at hj
 have hroom := mul_room (K := Rd.k α) hi
 rw [Nat.zero_add, hr0.cellAt _ (by omega)]
 exact e1 j u hu

theorem wp_append_of {P : Program} {o : Oper} {a : Act} {K : Act → World → Prop} {Q : Exit → Act → World → Prop} {w w' : World} {t : TypeId} {v x v' : Value} (s y : Operand)
  (hop : o.op = .call { callee := .builtin .append, args := #[s, y], argTypes := #[t, t] }) (hs : a.eval s = v) (hx : a.eval y = x)
  (hr : (Builtin.append_ #[t, t] o.type #[v, x]).run P w = .ok v' w') (h : K (a.put o.dst v') w') : o.wp P a w K Q := by
 unfold Oper.wp execOp
 simp only [hop, resolve, invoke, builtin, Sem.run_bind, Sem.run_pure, Result.andThen_ok, List.map_toArray, List.map_cons, List.map_nil, hs, hx, hr]
 exact h

/-! ### a program of the call's own whose rules can be appended to -/
def Rest (w : World) (c2 c4 c5 c6 c7 : Value) (p : ProgD) (fp : List Nat) : Prop :=
 ∃ f2 f4 f5 f6 f7, OwL w [c2] p.levels f2 ∧ OwL w [c4] p.project f4 ∧ OwL w [c5] p.shows f5 ∧ OwL w [c6] p.exts f6 ∧ OwL w [c7] p.assume f7 ∧ fp = f2 ++ (f4 ++ (f5 ++ (f6 ++ f7))) ∧ fp.Nodup
theorem Rest.lt {w : World} {c2 c4 c5 c6 c7 : Value} {p : ProgD} {fp : List Nat} (h : Rest w c2 c4 c5 c6 c7 p fp) : ∀ g ∈ fp, g < w.heap.size := by
 obtain ⟨f2, f4, f5, f6, f7, h2, h4, h5, h6, h7, rfl, _⟩ := h
 exact two_lt (Ow.lt (α := List LevelD) h2) (two_lt (Ow.lt (α := List Int) h4) (two_lt (Ow.lt (α := List ShowD) h5) (two_lt (Ow.lt (α := List (Int × Int)) h6) (Ow.lt (α := List Int) h7))))
theorem Rest.kept {w w' : World} {c2 c4 c5 c6 c7 : Value} {p : ProgD} {fp : List Nat} (h : Rest w c2 c4 c5 c6 c7 p fp) (hk : ∀ g ∈ fp, w'.heap[g]? = w.heap[g]?) : Rest w' c2 c4 c5 c6 c7 p fp := by
 obtain ⟨f2, f4, f5, f6, f7, h2, h4, h5, h6, h7, rfl, hn⟩ := h
 simp only [List.mem_append] at hk
 exact ⟨f2, f4, f5, f6, f7, Ow.kept (α := List LevelD) h2 fun g hg => hk g (.inl hg), Ow.kept (α := List Int) h4 fun g hg => hk g (.inr (.inl hg)), Ow.kept (α := List ShowD) h5 fun g hg => hk g (.inr (.inr (.inl hg))), Ow.kept (α := List (Int × Int)) h6 fun g hg => hk g (.inr (.inr (.inr (.inl hg)))), Ow.kept (α := List Int) h7 fun g hg => hk g (.inr (.inr (.inr (.inr hg)))), rfl, hn⟩
def OwnPR (lo hi : Nat) (D : Nat → Prop) (w : World) (c1 c2 c4 c5 c6 c7 : Value) (p : ProgD) : Prop :=
 ∃ fp, Fits p.atoms ∧ OwnD lo D 34 w c1 p.rules ∧ Rest w c2 c4 c5 c6 c7 p fp ∧ (∀ g ∈ fp, lo ≤ g ∧ g < hi ∧ ¬ D g) ∧ ∀ g, D g → lo ≤ g
theorem OwnPR.later {lo hi : Nat} {D : Nat → Prop} {w w' : World} {c1 c2 c4 c5 c6 c7 : Value} {p : ProgD} (h : OwnPR lo hi D w c1 c2 c4 c5 c6 c7 p) (hb : Below w.heap.size w w') : OwnPR lo hi D w' c1 c2 c4 c5 c6 c7 p := by
 obtain ⟨fp, h1, h2, h3, h4⟩ := h
 exact ⟨fp, h1, h2.later hb, h3.kept fun g hg => hb.block g (h3.lt g hg), h4⟩
theorem OwnPR.far {lo hi : Nat} {D : Nat → Prop} {w : World} {c1 c2 c4 c5 c6 c7 : Value} {p : ProgD} (h : OwnPR lo hi D w c1 c2 c4 c5 c6 c7 p) {q : Addr} (hq : ¬ D q.block) (hq2 : q.block < lo ∨ hi ≤ q.block) (u : Value) : OwnPR lo hi D (w.setCell q u) c1 c2 c4 c5 c6 c7 p := by
 obtain ⟨fp, h1, h2, h3, h4, h5⟩ := h
 exact ⟨fp, h1, h2.far hq u, h3.kept fun g hg => Below.heap_setCell _ _ _ _ (by have := h4 g hg; omega), h4, h5⟩
theorem OwnPR.mono {lo lo' hi : Nat} {D : Nat → Prop} {w : World} {c1 c2 c4 c5 c6 c7 : Value} {p : ProgD} (h : OwnPR lo hi D w c1 c2 c4 c5 c6 c7 p) (hl : lo' ≤ lo) : OwnPR lo' hi D w c1 c2 c4 c5 c6 c7 p := by
 obtain ⟨fp, h1, h2, h3, h4, h5⟩ := h
 exact ⟨fp, h1, h2.weak hl fun _ h => h, h3, fun g hg => ⟨Nat.le_trans hl (h4 g hg).1, (h4 g hg).2⟩, fun g hg => Nat.le_trans hl (h5 g hg)⟩
theorem OwnPR.chg {lo hi : Nat} {D : Nat → Prop} {w w' : World} {c1 c2 c4 c5 c6 c7 : Value} {p : ProgD} (h : OwnPR lo hi D w c1 c2 c4 c5 c6 c7 p) {g : Nat} (hc : ChgF [g] w w') (hg : ¬ D g) (hq : g < lo ∨ hi ≤ g) : OwnPR lo hi D w' c1 c2 c4 c5 c6 c7 p := by
 obtain ⟨fp, h1, h2, h3, h4, h5⟩ := h
 exact ⟨fp, h1, h2.kept fun f hf _ => hc.block f (by simp; exact fun e => hg (e ▸ hf)), h3.kept fun f hf => hc.block f (by simp; exact fun e => by have := h4 f hf; omega), h4, h5⟩
theorem OwnPR.up {lo hi hi' : Nat} {D : Nat → Prop} {w : World} {c1 c2 c4 c5 c6 c7 : Value} {p : ProgD} (h : OwnPR lo hi D w c1 c2 c4 c5 c6 c7 p) (hl : hi ≤ hi') : OwnPR lo hi' D w c1 c2 c4 c5 c6 c7 p := by
 obtain ⟨fp, h1, h2, h3, h4, h5⟩ := h
 exact ⟨fp, h1, h2, h3, fun g hg => ⟨(h4 g hg).1, Nat.lt_of_lt_of_le (h4 g hg).2.1 hl, (h4 g hg).2.2⟩, h5⟩
theorem OwnPR.atoms {lo hi : Nat} {D : Nat → Prop} {w : World} {c1 c2 c4 c5 c6 c7 : Value} {p : ProgD} (h : OwnPR lo hi D w c1 c2 c4 c5 c6 c7 p) {n : Int} (hn : Fits n) : OwnPR lo hi D w c1 c2 c4 c5 c6 c7 { p with atoms := n } := by
 obtain ⟨fp, h1, h2, h3, h4⟩ := h
 exact ⟨fp, hn, h2, h3, h4⟩
theorem OwnPR.own {lo hi : Nat} {D : Nat → Prop} {w : World} {c1 c2 c4 c5 c6 c7 : Value} {p : ProgD} (h : OwnPR lo hi D w c1 c2 c4 c5 c6 c7 p) : Own lo w [.int .i64 p.atoms, c1, c2, .bool p.projOn, c4, c5, c6, c7] p := by
 obtain ⟨fp, h1, h2, ⟨f2, f4, f5, f6, f7, r2, r4, r5, r6, r7, rfl, hn⟩, h4, h5⟩ := h
 obtain ⟨f1, o1, d1⟩ := h2.own
 refine ⟨f1 ++ (f2 ++ (f4 ++ (f5 ++ (f6 ++ f7)))), ⟨c1, c2, c4, c5, c6, c7, f1, f2, f4, f5, f6, f7, rfl, h1, o1, r2, r4, r5, r6, r7, rfl, List.nodup_append.2 ⟨Ow.nodup (α := List RuleD) o1, hn, fun a ha b hb e => (h4 b hb).2.2 (e ▸ d1 a ha)⟩⟩, fun g hg => ?_⟩
 exact (List.mem_append.1 hg).elim (fun h => h5 g (d1 g h)) (fun h => (h4 g h).1)

theorem OwnD.bound {α : Type} [Ow α] {B : Nat} {D : Nat → Prop} {e : TypeId} {w : World} {v : Value} {xs : List α} (h : OwnD B D e w v xs) : OwnD B (fun f => D f ∧ f < w.heap.size) e w v xs := by
 obtain ⟨ys, fps, h1, h2, h3, h4⟩ := h
 exact ⟨ys, fps, h1, h2, fun f hf => ⟨⟨(h3 f hf).1, h2.lt f hf⟩, (h3 f hf).2⟩, fun g hg => ⟨h4 g hg, (h1.lt g hg).2⟩⟩

theorem OwnPR.append_run {P : Program} {lo hi : Nat} {D : Nat → Prop} {w0 w : World} {c1 c2 c4 c5 c6 c7 : Value} {p : ProgD} {zs : List RuleD} {t ty : TypeId} {ad : Addr} {c : Nat} {fps2 : List (List Nat)}
  (i : TypeInfo) (z : Value) (bytes : Nat) (ht : P.underlying t = some (.slice 34)) (hin : P.info? 34 = some i) (hz : i.zero = some z) (hsize : i.size = Rd.k RuleD) (hby : i.bytes = bytes) (hzs : z.cells.size = Rd.k RuleD)
  (h : OwnPR lo hi D w0 c1 c2 c4 c5 c6 c7 p) (hb : Below w0.heap.size w0 w) (hD : ∀ f, D f → f < w0.heap.size) (hlo : lo ≤ w0.heap.size) (hs : Src w ad zs fps2) (hd2 : ∀ f ∈ fps2.flatten, w0.heap.size ≤ f)
  (hl : (p.rules.length + zs.length) * bytes ≤ 140737488355328) (hl2 : p.rules.length + zs.length ≤ 140737488355328) :
  ∃ v' w', (Builtin.append_ #[t, t] ty #[c1, .slice (some ad) zs.length c]).run P w = .ok v' w' ∧ OwnPR lo hi (fun f => (D f ∨ w0.heap.size ≤ f) ∧ f < w'.heap.size) w' v' c2 c4 c5 c6 c7 { p with rules := p.rules ++ zs } ∧ Below lo w w' ∧ (∀ k, k < w.heap.size → ¬ D k → w'.heap[k]? = w.heap[k]?) ∧ ∃ a n, v' = .slice a (p.rules ++ zs).length n := by
 obtain ⟨fp, h1, h2, h3, h4, h5⟩ := h
 have hsz := hb.size
 have h2' := h2.later hb
 obtain ⟨v', w', r1, r2, r3, r4⟩ := run_append_D (α := RuleD) (P := P) (ty := ty) (c := c) (D2 := fun f => w0.heap.size ≤ f) i z bytes ht hin hz hsize hby hzs (by decide) h2' hs hd2 (fun f a b => by have := hD f a; omega) hl hl2 (by omega)
 have hown : ∀ g, c1.ownBlock = some g → D g := by obtain ⟨_, _, _, _, _, h⟩ := h2; exact h
 have hk : ∀ k, k < w.heap.size → ¬ D k → w'.heap[k]? = w.heap[k]? := fun k hk hd => r4.block k hk fun e => hd (hown k e.symm)
 have r2' := (r2.weak (D' := fun f => D f ∨ w0.heap.size ≤ f) (Nat.le_refl _) fun f hf => hf.elim .inl fun hf => hf.elim .inr fun hf => .inr (Nat.le_trans hsz hf)).bound
 obtain ⟨a, n, hv⟩ := r2.form
 refine ⟨v', w', r1, ⟨fp, h1, r2', h3.kept fun g hg => ?_, fun g hg => ⟨(h4 g hg).1, (h4 g hg).2.1, fun hh => ?_⟩, fun g hg => ?_⟩, r3, hk, a, n, hv⟩
 ·have hlt := h3.lt g hg
  rw [hk g (by omega) (h4 g hg).2.2]
  exact hb.block g hlt
 ·have hlt := h3.lt g hg
  rcases hh.1 with hh | hh
  ·exact (h4 g hg).2.2 hh
  ·omega
 ·rcases hg.1 with hg | hg
  ·exact h5 g hg
  ·omega

theorem wpList_append_of {P : Program} {ops : Array Oper} {rest : List Oper} {o : Oper} {a : Act} {Q : Exit → Act → World → Prop} {w w' : World} {t : TypeId} {v x v' : Value} (hgd : o.guard = none) (s y : Operand)
  (hop : o.op = .call { callee := .builtin .append, args := #[s, y], argTypes := #[t, t] }) (hs : a.eval s = v) (hx : a.eval y = x)
  (hr : (Builtin.append_ #[t, t] o.type #[v, x]).run P w = .ok v' w') (h : wpList P ops Q rest (a.put o.dst v') w') : wpList P ops Q (o :: rest) a w :=
 wpList_plain hgd fun _ hK => wp_append_of s y hop hs hx hr (hK _ _ h)
theorem step_append_of {P : Program} {ops : Array Oper} {o : Oper} {a : Act} {K : Act → World → Prop} {Q : Exit → Act → World → Prop} {E : Prop} {w w' : World} {t : TypeId} {v x v' : Value} (hgd : o.guard = none) (s y : Operand)
  (hop : o.op = .call { callee := .builtin .append, args := #[s, y], argTypes := #[t, t] }) (hs : a.eval s = v) (hx : a.eval y = x)
  (hr : (Builtin.append_ #[t, t] o.type #[v, x]).run P w = .ok v' w') (h : K (a.put o.dst v') w') : if Region.wanted o (yielded ops a.tmps) = true then Oper.wp P o a w K Q else E := by
 have hw : Region.wanted o (yielded ops a.tmps) = true := by unfold Region.wanted; rw [hgd]
 rw [if_pos hw]
 exact wp_append_of s y hop hs hx hr h

theorem alloc_block (w : World) (cs : Array Value) (e : TypeId) : (w.alloc (.cells cs e)).heap[w.heap.size]? = some (.cells cs e (0, 0)) := by show (w.heap.push (.cells cs e (0, 0)))[w.heap.size]? = _; exact Array.getElem?_push_size

end Go.Proofs.YthikhkeofcjdfaaGreat
