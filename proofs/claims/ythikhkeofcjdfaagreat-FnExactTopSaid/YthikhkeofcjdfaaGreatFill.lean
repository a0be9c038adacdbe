/-
 A slice that the call makes and fills element by element. No condition of its own.
-/
import Derived.Test.YthikhkeofcjdfaaGreatMem
namespace Go.Proofs.YthikhkeofcjdfaaGreat
set_option linter.unusedVariables false
set_option linter.unusedSimpArgs false
open Go.RowKit
set_option maxRecDepth 100000

/-- Block g, made for xs: the first k elements stand in it. -/
def Fill {α : Type} [Ow α] (lo : Nat) (w : World) (g : Nat) (e : TypeId) (xs : List α) (k : Nat) : Prop :=
 ∃ cur fps, w.heap[g]? = some (.cells cur e (0, 0)) ∧ cur.size = xs.length * Rd.k α ∧ fps.length = k ∧ (g :: List.flatten fps).Nodup ∧ (∀ f ∈ g :: List.flatten fps, lo ≤ f) ∧
  ∀ i, i < k → ∃ ecs, Cells w g (i * Rd.k α) ecs ∧ Ow.O w ecs (nth xs i) (fps.getD i [])

theorem Fill.lt_ {α : Type} [Ow α] {w : World} {k g : Nat} {xs : List α} {fps : List (List Nat)} (hl : fps.length = k) (h : ∀ i, i < k → ∃ ecs, Cells w g (i * Rd.k α) ecs ∧ Ow.O w ecs (nth xs i) (fps.getD i [])) :
  ∀ f ∈ fps.flatten, f < w.heap.size := by
 intro f hf
 obtain ⟨i, hi, hm⟩ := flat_mem hf
 obtain ⟨ecs, _, ho⟩ := h i (by omega)
 exact Ow.lt ho f hm

theorem Fill.start {α : Type} [Ow α] {lo : Nat} {w : World} {g : Nat} {e : TypeId} {xs : List α} {cap : Nat} {ys : List Value}
  (h : w.ownsRow lo e (Rd.k α) (.slice (some ⟨g, 0, none⟩) xs.length xs.length) cap ys) : Fill lo w g e xs 0 := by
 rcases h.2 with ⟨hv, _⟩ | ⟨g', cap', cur, hv, hg, hh, _, _, hs, _⟩
 ·cases hv
 ·cases hv
  exact ⟨cur, [], hh, hs, rfl, by simp, fun f hf => by simp at hf; omega, fun i hi => absurd hi (by omega)⟩

theorem Fill.later {α : Type} [Ow α] {lo : Nat} {w w' : World} {g : Nat} {e : TypeId} {xs : List α} {k : Nat} (h : Fill lo w g e xs k) (hb : Below w.heap.size w w') : Fill lo w' g e xs k := by
 obtain ⟨cur, fps, hh, hs, hl, hn, hlo, h4⟩ := h
 have hlt := Fill.lt_ hl h4
 have hg := hb.block g (block_lt hh)
 refine ⟨cur, fps, hg.trans hh, hs, hl, hn, hlo, fun i hi => ?_⟩
 obtain ⟨ecs, hc, ho⟩ := h4 i hi
 exact ⟨ecs, hc.kept hg, Ow.kept ho fun x hx => hb.block x (hlt x (mem_flat hx))⟩

theorem Fill.lo_ {α : Type} [Ow α] {lo : Nat} {w : World} {g : Nat} {e : TypeId} {xs : List α} {k : Nat} (h : Fill lo w g e xs k) : lo ≤ g ∧ g < w.heap.size := by
 obtain ⟨cur, fps, hh, _, _, _, hlo, _⟩ := h
 exact ⟨hlo g (List.mem_cons_self ..), block_lt hh⟩

theorem Fill.cell {α : Type} [Ow α] {lo : Nat} {w : World} {g : Nat} {e : TypeId} {xs : List α} {k : Nat} (h : Fill lo w g e xs k) {j : Nat} (hj : j < xs.length * Rd.k α) : ∃ v, w.cell? ⟨g, j, none⟩ = some v := by
 obtain ⟨cur, fps, hh, hs, _⟩ := h
 exact ⟨cur[j], by rw [cell_of_row w g j cur e (0, 0) hh]; exact Array.getElem?_eq_getElem (by omega)⟩
theorem Fill.frozen {α : Type} [Ow α] {lo : Nat} {w : World} {g : Nat} {e : TypeId} {xs : List α} {k : Nat} (h : Fill lo w g e xs k) (j : Nat) : w.frozen? ⟨g, j, none⟩ = false := by
 obtain ⟨cur, fps, hh, _⟩ := h
 exact frozen_of_row w g j cur e hh

theorem mul_room {i n K : Nat} (h : i < n) : i * K + K ≤ n * K := by
 have := Nat.mul_le_mul_right K (show i + 1 ≤ n from h)
 rw [Nat.add_mul, Nat.one_mul] at this
 exact this

theorem getD_snoc_lt {α : Type} {l : List α} {x d : α} {i : Nat} (h : i < l.length) : (l ++ [x]).getD i d = l.getD i d := by
 rw [List.getD_eq_getElem?_getD, List.getD_eq_getElem?_getD, List.getElem?_append_left h]
theorem getD_snoc_eq {α : Type} {l : List α} {x d : α} {i : Nat} (h : i = l.length) : (l ++ [x]).getD i d = x := by
 subst h; rw [List.getD_eq_getElem?_getD, List.getElem?_append_right (Nat.le_refl _), Nat.sub_self]; rfl

/-- Stores that lie elsewhere in a block leave cells alone. -/
theorem Cells.put_far {w : World} {g o o' : Nat} {e : TypeId} {cur : Array Value} {cs ds : List Value} (hh : w.heap[g]? = some (.cells cur e (0, 0))) (hl : o + ds.length ≤ cur.size) (h : Cells w g o' cs) (hd : o' + cs.length ≤ o ∨ o + ds.length ≤ o') : Cells (put w g o ds) g o' cs := by
 obtain ⟨cur', h1, _, h3⟩ := put_block g e ds w o cur hh hl
 intro j v hv
 have hj : j < cs.length := (List.getElem?_eq_some_iff.1 hv).1
 have := h j v hv
 rw [cell_of_row w g (o' + j) cur e (0, 0) hh] at this
 rw [cell_of_row _ g (o' + j) cur' e (0, 0) h1, h3, if_neg (by omega)]
 exact this
theorem Cells.put_here {w : World} {g o : Nat} {e : TypeId} {cur : Array Value} {ds : List Value} (hh : w.heap[g]? = some (.cells cur e (0, 0))) (hl : o + ds.length ≤ cur.size) : Cells (put w g o ds) g o ds := by
 obtain ⟨cur', h1, _, h3⟩ := put_block g e ds w o cur hh hl
 intro j v hv
 have hj : j < ds.length := (List.getElem?_eq_some_iff.1 hv).1
 rw [cell_of_row _ g (o + j) cur' e (0, 0) h1, h3, if_pos (by omega), show o + j - o = j by omega]
 exact hv

/-- One element more: w0 the world ahead of the call that made it. -/
theorem Fill.step {α : Type} [Ow α] {lo : Nat} {w0 w : World} {g : Nat} {e : TypeId} {xs : List α} {k : Nat} {ecs : List Value} (h : Fill lo w0 g e xs k) (hk : k < xs.length) (hb : Below w0.heap.size w0 w)
  (ho : Own w0.heap.size w ecs (nth xs k)) : Fill lo (put w g (k * Rd.k α) ecs) g e xs (k + 1) := by
 have hgl := h.lo_
 have hw := h.later hb
 obtain ⟨cur, fps, hh, hs, hl, hn, hlo, h4⟩ := h
 have hlt := Fill.lt_ hl h4
 obtain ⟨fp, ho, hfp⟩ := ho
 have hlen : ecs.length = Rd.k α := Rd.len (Ow.rd ho)
 have hg := hb.block g hgl.2
 have hh1 := hg.trans hh
 have hroom := mul_room (K := Rd.k α) hk
 have hfit : k * Rd.k α + ecs.length ≤ cur.size := by omega
 have hc := put_chg g ecs w (k * Rd.k α)
 obtain ⟨cur', hp1, hp2, _⟩ := put_block g e ecs w (k * Rd.k α) cur hh1 hfit
 have hfl : ∀ x ∈ fps.flatten, x ≠ g := fun x hx he => by subst he; exact (List.nodup_cons.1 hn).1 hx
 refine ⟨cur', fps ++ [fp], hp1, hp2.trans hs, by simp [hl], ?_, ?_, fun i hi => ?_⟩
 ·simp only [List.flatten_append, List.flatten_cons, List.flatten_nil, List.append_nil, List.nodup_cons, List.mem_append, List.nodup_append]
  refine ⟨fun hx => ?_, (List.nodup_cons.1 hn).2, Ow.nodup ho, fun a ha b hb' => ?_⟩
  ·rcases hx with hx | hx
   ·exact (List.nodup_cons.1 hn).1 hx
   ·have := hfp g hx; omega
  ·have := hlt a ha; have := hfp b hb'; omega
 ·intro f hf
  simp only [List.flatten_append, List.flatten_cons, List.flatten_nil, List.append_nil, List.mem_cons, List.mem_append] at hf
  rcases hf with rfl | hf | hf
  ·exact hgl.1
  ·exact hlo f (List.mem_cons_of_mem _ hf)
  ·have := hfp f hf; omega
 ·by_cases e1 : i < k
  ·obtain ⟨es, hce, hoe⟩ := h4 i e1
   have hel : es.length = Rd.k α := Rd.len (Ow.rd hoe)
   have hr2 := mul_room (K := Rd.k α) e1
   refine ⟨es, Cells.put_far hh1 hfit (hce.kept hg) (.inl (by omega)), ?_⟩
   rw [getD_snoc_lt (by omega)]
   refine Ow.kept (Ow.kept hoe fun x hx => hb.block x (hlt x (mem_flat hx))) fun x hx => hc.block x ?_
   simpa using hfl x (mem_flat hx)
  ·have hik : i = k := by omega
   subst hik
   refine ⟨ecs, Cells.put_here hh1 hfit, ?_⟩
   rw [getD_snoc_eq hl.symm]
   exact Ow.kept ho fun x hx => hc.block x (by have := hfp x hx; simp; omega)

theorem Fill.done {α : Type} [Ow α] {lo : Nat} {w : World} {g : Nat} {e : TypeId} {xs : List α} (h : Fill lo w g e xs xs.length) (hl : xs.length ≤ 9223372036854775807) : Own lo w [.slice (some ⟨g, 0, none⟩) xs.length xs.length] xs := by
 obtain ⟨cur, fps, hh, hs, hl2, hn, hlo, h4⟩ := h
 exact ⟨g :: fps.flatten, ⟨_, _, rfl, Nat.le_refl _, hl, .inr ⟨g, e, cur, fps, rfl, hh, by omega, hl2, rfl, hn, h4⟩⟩, hlo⟩

theorem Own.nilL {α : Type} [Ow α] (lo : Nat) (w : World) (a : Option Addr) (cap : Nat) (hc : cap = 0) : Own lo w [.slice a 0 cap] ([] : List α) :=
 ⟨[], ⟨a, cap, rfl, Nat.zero_le _, by omega, .inl ⟨rfl, rfl, hc⟩⟩, fun g hg => by cases hg⟩

/-- From the words for a row of ints. -/
theorem OwnI.own {B : Nat} {w : World} {v : Value} {xs : List Int} (h : OwnI B w v xs) : Own B w [v] xs := by
 obtain ⟨⟨h1, h2⟩, h3, h4⟩ := h
 rcases h2 with ⟨rfl, hn⟩ | ⟨g, cap, cur, rfl, hg, hh, hnc, hcm, hcs, ht⟩
 ·have : xs = [] := List.eq_nil_of_length_eq_zero hn
  subst this
  exact Own.nilL _ _ _ _ (by omega)
 ·refine ⟨[g], ⟨_, _, rfl, hnc, by unfold maxLen at hcm; omega, ?_⟩, fun x hx => by simp at hx; omega⟩
  refine .inr ⟨g, 3, cur, List.replicate xs.length [], rfl, hh, by rw [show Rd.k Int = 1 from rfl]; omega, by simp, by simp, by simp, fun i hi => ?_⟩
  have hr : w.ownsRow B 3 1 (.slice (some ⟨g, 0, none⟩) xs.length cap) xs.length (xs.map (Value.int .i64)) := ⟨h1, .inr ⟨g, cap, cur, rfl, hg, hh, hnc, hcm, hcs, ht⟩⟩
  have := hr.cellAt i (by omega)
  rw [el_map hi] at this
  refine ⟨[.int .i64 (nth xs i)], fun j v hv => ?_, ⟨rfl, h4 _ (nth_mem hi)⟩, by simp [List.getD_eq_getElem?_getD, List.getElem?_replicate, hi]⟩
  match j, hv with
  | 0, hv => simp at hv; subst hv; rw [show Rd.k Int = 1 from rfl, Nat.mul_one, Nat.add_zero]; exact this
  | j + 1, hv => simp at hv

theorem retO {α : Type} [Ow α] {lo : Nat} {w : World} {v : Value} {xs : List α} (h : Own lo w [v] xs) : ∃ a c, v = .slice a xs.length c ∧ Row w a xs := by
 obtain ⟨a, cap, he, _, _, hr⟩ := (Own.rd (α := List α) h : RdL w [v] xs)
 simp at he
 exact ⟨a, cap, he, hr⟩

end Go.Proofs.YthikhkeofcjdfaaGreat
