/-
 Reasons that are drawn: what DrawReasons answers. No condition of its own.
-/
import Derived.Test.YthikhkeofcjdfaaGreatDrwN
import Derived.Test.YthikhkeofcjdfaaGreatWhyM
import Derived.Test.YthikhkeofcjdfaaGreatOnto
namespace Go.Proofs.YthikhkeofcjdfaaGreat
set_option linter.unusedVariables false
set_option linter.unusedSimpArgs false
open Go.RowKit
set_option maxRecDepth 100000

theorem nth_setR {l : List (Int × Int)} {k i : Nat} {y : Int × Int} (hk : k < l.length) : nth (l.set k y) i = if i = k then y else nth l i := by
 unfold nth
 rw [List.getD_eq_getElem?_getD, List.getD_eq_getElem?_getD, List.getElem?_set]
 by_cases e : k = i
 ·subst e; simp [hk]
 ·rw [if_neg e, if_neg fun h => e h.symm]
/-- A row of pairs in the cells of block g. -/
structure RW (g cap : Nat) (w : World) (l : List (Int × Int)) : Prop where
 len : l.length ≤ cap ∧ cap ≤ 9223372036854775807
 blk : ∃ cur t, w.heap[g]? = some (.cells cur t (0, 0)) ∧ cap * 2 ≤ cur.size ∧ ∀ i, i < l.length → cur[i * 2]? = some (.int .i64 (nth l i).1) ∧ cur[i * 2 + 1]? = some (.int .i64 (nth l i).2)
 fit : ∀ i, i < l.length → Fits (nth l i).1 ∧ Fits (nth l i).2
section
variable {g cap : Nat} {w w' : World} {l : List (Int × Int)}
theorem RW.at (h : RW g cap w l) {i : Nat} (hi : i < l.length) : w.cell? ⟨g, i * 2, none⟩ = some (.int .i64 (nth l i).1) ∧ w.cell? ⟨g, i * 2 + 1, none⟩ = some (.int .i64 (nth l i).2) := by
 obtain ⟨cur, t, hb, _, he⟩ := h.blk
 rw [cell_of_row w g _ cur t (0, 0) hb, cell_of_row w g _ cur t (0, 0) hb]
 exact he i hi
theorem RW.isS (h : RW g cap w l) {j : Nat} (hj : j < cap * 2) : (w.cell? ⟨g, j, none⟩).isSome = true := by
 obtain ⟨cur, t, hb, hs, _⟩ := h.blk
 rw [cell_of_row w g _ cur t (0, 0) hb, Array.getElem?_eq_getElem (by omega)]
 rfl
theorem RW.fr (h : RW g cap w l) (j : Nat) : w.frozen? ⟨g, j, none⟩ = false := by
 obtain ⟨cur, t, hb, _⟩ := h.blk
 exact frozen_of_row w g j _ _ hb
theorem RW.lt (h : RW g cap w l) : g < w.heap.size := by
 obtain ⟨cur, t, hb, _⟩ := h.blk
 exact block_lt hb
theorem RW.cg (h : RW g cap w l) {S : Nat → Prop} (k : Cg S w w') (hn : ¬ S g) : RW g cap w' l := by
 obtain ⟨cur, t, hb, hs, he⟩ := h.blk
 exact ⟨h.len, ⟨cur, t, k.at hb hn, hs, he⟩, h.fit⟩
theorem RW.rd (h : RW g cap w l) (hl : l.length ≤ 140737488355328) : RdL w [.slice (some ⟨g, 0, none⟩) l.length cap] l := by
 have := h.len
 refine ⟨_, cap, rfl, h.len.1, by omega, ⟨by omega, fun i hi => ⟨g, 0, [.int .i64 (nth l i).1, .int .i64 (nth l i).2], rfl, fun j u hu => ?_, ⟨rfl, h.fit i hi⟩⟩⟩⟩
 obtain ⟨h0, h1⟩ := h.at hi
 rw [show 0 + i * Rd.k (Int × Int) + j = i * 2 + j from by show 0 + i * 2 + j = _; omega]
 match j, hu with
 | 0, hu => rw [Nat.add_zero, h0]; exact hu
 | 1, hu => rw [h1]; exact hu
 | j + 2, hu => simp at hu
theorem RW.upd {l' : List (Int × Int)} (h : RW g cap w l) (o : Nat) (vs : List Value) (hl : l'.length ≤ l.length) (ho : o + vs.length ≤ cap * 2)
  (hv : ∀ i, i < l'.length → (if o ≤ i * 2 ∧ i * 2 < o + vs.length then vs[i * 2 - o]? = Option.some (.int .i64 (nth l' i).1) else (nth l' i).1 = (nth l i).1) ∧ (if o ≤ i * 2 + 1 ∧ i * 2 + 1 < o + vs.length then vs[i * 2 + 1 - o]? = Option.some (.int .i64 (nth l' i).2) else (nth l' i).2 = (nth l i).2))
  (hf : ∀ i, i < l'.length → Fits (nth l' i).1 ∧ Fits (nth l' i).2) : RW g cap (put w g o vs) l' := by
 obtain ⟨cur, t, hb, hs, he⟩ := h.blk
 obtain ⟨cur', h1, h2, h3⟩ := put_block g t vs w o cur hb (by omega)
 refine ⟨⟨by have := h.len; omega, h.len.2⟩, ⟨cur', t, h1, by omega, fun i hi => ?_⟩, hf⟩
 obtain ⟨v1, v2⟩ := hv i hi
 obtain ⟨e1, e2⟩ := he i (by omega)
 rw [h3, h3]
 constructor
 ·by_cases c : o ≤ i * 2 ∧ i * 2 < o + vs.length
  ·rw [if_pos c] at v1 ⊢; exact v1
  ·rw [if_neg c] at v1 ⊢; rw [e1, v1]
 ·by_cases c : o ≤ i * 2 + 1 ∧ i * 2 + 1 < o + vs.length
  ·rw [if_pos c] at v2 ⊢; exact v2
  ·rw [if_neg c] at v2 ⊢; rw [e2, v2]
theorem RW.set1 (h : RW g cap w l) {k : Nat} (hk : k < l.length) {r : Int} (hr : Fits r) : RW g cap (w.setCell ⟨g, k * 2 + 1, none⟩ (.int .i64 r)) (l.set k ((nth l k).1, r)) := by
 have := h.len
 refine h.upd (k * 2 + 1) [.int .i64 r] (by rw [List.length_set]; omega) (by simp; omega) (fun i hi => ?_) fun i hi => ?_
 ·rw [List.length_set] at hi
  rw [nth_setR hk]
  by_cases e : i = k
  ·subst e
   rw [if_pos rfl, if_neg (by simp; omega), if_pos (by simp)]
   exact ⟨rfl, by simp⟩
  ·rw [if_neg e, if_neg (by simp; omega), if_neg (by simp; omega)]
   exact ⟨rfl, rfl⟩
 ·rw [List.length_set] at hi
  rw [nth_setR hk]
  split
  ·exact ⟨(h.fit k hk).1, hr⟩
  ·exact h.fit i hi
theorem RW.set0 (h : RW g cap w l) {k : Nat} (hk : k < l.length) {r : Int} (hr : Fits r) : RW g cap (w.setCell ⟨g, k * 2, none⟩ (.int .i64 r)) (l.set k (r, (nth l k).2)) := by
 have := h.len
 refine h.upd (k * 2) [.int .i64 r] (by rw [List.length_set]; omega) (by simp; omega) (fun i hi => ?_) fun i hi => ?_
 ·rw [List.length_set] at hi
  rw [nth_setR hk]
  by_cases e : i = k
  ·subst e
   rw [if_pos rfl, if_pos (by simp), if_neg (by simp)]
   exact ⟨by simp, rfl⟩
  ·rw [if_neg e, if_neg (by simp; omega), if_neg (by simp; omega)]
   exact ⟨rfl, rfl⟩
 ·rw [List.length_set] at hi
  rw [nth_setR hk]
  split
  ·exact ⟨hr, (h.fit k hk).2⟩
  ·exact h.fit i hi
theorem RW.set2 (h : RW g cap w l) {k : Nat} (hk : k < l.length) {y : Int × Int} (hr : Fits y.1 ∧ Fits y.2) : RW g cap ((w.setCell ⟨g, k * 2, none⟩ (.int .i64 y.1)).setCell ⟨g, k * 2 + 1, none⟩ (.int .i64 y.2)) (l.set k y) := by
 have := h.len
 refine h.upd (k * 2) [.int .i64 y.1, .int .i64 y.2] (by rw [List.length_set]; omega) (by simp; omega) (fun i hi => ?_) fun i hi => ?_
 ·rw [List.length_set] at hi
  rw [nth_setR hk]
  by_cases e : i = k
  ·subst e
   rw [if_pos rfl, if_pos (by simp), if_pos (by simp)]
   exact ⟨by simp, by simp⟩
  ·rw [if_neg e, if_neg (by simp; omega), if_neg (by simp; omega)]
   exact ⟨rfl, rfl⟩
 ·rw [List.length_set] at hi
  rw [nth_setR hk]
  split
  ·exact hr
  ·exact h.fit i hi
def encs (l : List (Int × Int)) : List Value := l.flatMap fun p => [.int .i64 p.1, .int .i64 p.2]
theorem encs_len (l : List (Int × Int)) : (encs l).length = l.length * 2 := by
 induction l with
 | nil => rfl
 | cons p r ih => show (_ :: _ :: encs r).length = _; simp [ih]; omega
theorem encs_at : ∀ (l : List (Int × Int)) (i : Nat), i < l.length → (encs l)[i * 2]? = some (.int .i64 (nth l i).1) ∧ (encs l)[i * 2 + 1]? = some (.int .i64 (nth l i).2)
 | p :: r, 0, _ => ⟨rfl, rfl⟩
 | p :: r, i + 1, h => by
  have ih := encs_at r i (by simpa using h)
  show (_ :: _ :: encs r)[_]? = _ ∧ (_ :: _ :: encs r)[_]? = _
  rw [show (i + 1) * 2 = i * 2 + 1 + 1 by omega, List.getElem?_cons_succ, List.getElem?_cons_succ, show i * 2 + 1 + 1 + 1 = i * 2 + 1 + 1 + 1 from rfl, List.getElem?_cons_succ, List.getElem?_cons_succ]
  exact ih
theorem nth_drop (l : List (Int × Int)) (n i : Nat) : nth (l.drop n) i = nth l (n + i) := by
 unfold nth; rw [List.getD_eq_getElem?_getD, List.getD_eq_getElem?_getD, List.getElem?_drop]
theorem nth_erase {l : List (Int × Int)} {k i : Nat} : nth (l.eraseIdx k) i = if i < k then nth l i else nth l (i + 1) := by
 unfold nth; rw [List.getD_eq_getElem?_getD, List.getElem?_eraseIdx]
 split <;> rw [List.getD_eq_getElem?_getD]
theorem RW.del (h : RW g cap w l) {k : Nat} (hk : k < l.length) : RW g cap (put w g (k * 2) (encs (l.drop (k + 1)))) (l.eraseIdx k) := by
 have hl := h.len
 have hle : (l.eraseIdx k).length = l.length - 1 := List.length_eraseIdx_of_lt hk
 have hde := encs_len (l.drop (k + 1))
 rw [List.length_drop] at hde
 refine h.upd (k * 2) (encs (l.drop (k + 1))) (by omega) (by omega) (fun i hi => ?_) fun i hi => ?_
 ·rw [nth_erase]
  by_cases e : i < k
  ·rw [if_pos e, if_neg (by omega), if_neg (by omega)]
   exact ⟨rfl, rfl⟩
  ·have hd : i - k < (l.drop (k + 1)).length := by rw [List.length_drop]; omega
   obtain ⟨e1, e2⟩ := encs_at _ _ hd
   rw [nth_drop, show k + 1 + (i - k) = i + 1 by omega] at e1 e2
   rw [if_neg e, if_pos (by omega), if_pos (by omega), show i * 2 - k * 2 = (i - k) * 2 by omega, show i * 2 + 1 - k * 2 = (i - k) * 2 + 1 by omega]
   exact ⟨e1, e2⟩
 ·rw [nth_erase]
  split
  ·exact h.fit i (by omega)
  ·exact h.fit (i + 1) (by omega)
/-- The delete in place. -/
theorem RW.delRun {P : Program} {t ty e : TypeId} (i : TypeInfo) (ht : P.underlying t = some (.slice e)) (hi : P.info? e = some i) (hsz : i.size = 2) (h : RW g cap w l) {k : Nat} (hk : k < l.length) :
  (Builtin.append_ #[t, t] ty #[.slice (some ⟨g, 0, none⟩) k cap, .slice (some (if cap = k + 1 then ⟨g, 0, none⟩ else ⟨g, (k + 1) * 2, none⟩)) (l.length - (k + 1)) (cap - (k + 1))]).run P w = .ok (.slice (some ⟨g, 0, none⟩) (l.eraseIdx k).length cap) (put w g (k * 2) (encs (l.drop (k + 1)))) := by
 have hl := h.len
 have hle : (l.eraseIdx k).length = l.length - 1 := List.length_eraseIdx_of_lt hk
 have hde := encs_len (l.drop (k + 1))
 rw [List.length_drop] at hde
 have hr := run_append_room_cells (P := P) w t ty e i ht hi g 0 k cap (if cap = k + 1 then ⟨g, 0, none⟩ else ⟨g, (k + 1) * 2, none⟩) (l.length - (k + 1)) (cap - (k + 1)) (encs (l.drop (k + 1))) (by rw [hde, hsz]) (fun j u hu => ?_) (fun u hu => ?_) (by omega) (fun j hj => by rw [hsz]; exact h.isS (by omega)) (fun j _ => h.fr _)
 ·rw [setCells_put, hsz, Nat.zero_add, show k + (l.length - (k + 1)) = (l.eraseIdx k).length by omega] at hr
  exact hr
 ·have hj : j < (encs (l.drop (k + 1))).length := (List.getElem?_eq_some_iff.1 hu).1
  rw [if_neg (by omega)]
  have hm : j / 2 < (l.drop (k + 1)).length := by rw [List.length_drop]; omega
  obtain ⟨e1, e2⟩ := encs_at _ _ hm
  obtain ⟨c1, c2⟩ := h.at (i := k + 1 + j / 2) (by rw [List.length_drop] at hm; omega)
  rw [nth_drop] at e1 e2
  have ea : (⟨g, (k + 1) * 2, none⟩ : Addr).add j = ⟨g, (k + 1) * 2 + j, none⟩ := Addr.add_lit ..
  rw [ea]
  rcases Nat.mod_two_eq_zero_or_one j with hp | hp
  ·have ej : j = j / 2 * 2 := by omega
   rw [ej] at hu
   rw [e1] at hu
   rw [show (k + 1) * 2 + j = (k + 1 + j / 2) * 2 by omega, c1]
   exact hu
  ·have ej : j = j / 2 * 2 + 1 := by omega
   rw [ej] at hu
   rw [e2] at hu
   rw [show (k + 1) * 2 + j = (k + 1 + j / 2) * 2 + 1 by omega, c2]
   exact hu
 ·obtain ⟨p, _, hp⟩ := List.mem_flatMap.1 hu
  simp at hp
  rcases hp with rfl | rfl <;> rfl
theorem RW.of {B : Nat} {e : TypeId} {v : Value} (h : OwnF (α := Int × Int) B e w v l) (hl : 0 < l.length) : ∃ g cap, v = .slice (some ⟨g, 0, none⟩) l.length cap ∧ B ≤ g ∧ RW g cap w l := by
 have ho := h.own
 obtain ⟨⟨h1, h2⟩, h3⟩ := h
 rcases h2 with ⟨rfl, hn⟩ | ⟨g, cap, cur, rfl, hg, hh, hnc, hcm, hcs, ht⟩
 ·omega
 ·refine ⟨g, cap, rfl, hg, ⟨hnc, by unfold maxLen at hcm; omega⟩, ⟨cur, e, hh, by rw [hcs]; exact Nat.le_refl _, fun i hi => ?_⟩, fun i hi => ?_⟩
  ·obtain ⟨g', ecs, he, -, hC, hO⟩ := own_elem ho hi
   simp only [Option.some.injEq, Addr.mk.injEq, and_true] at he
   obtain rfl := he
   obtain ⟨rfl, -⟩ : ecs = [.int .i64 (nth l i).1, .int .i64 (nth l i).2] ∧ _ := hO.rd
   have c0 := hC.c0
   have c1 := hC.c1
   rw [show Rd.k (Int × Int) = 2 from rfl, cell_of_row w g _ cur e (0, 0) hh] at c0 c1
   exact ⟨c0, c1⟩
  ·obtain ⟨g', ecs, he, -, hC, hO⟩ := own_elem ho hi
   obtain ⟨-, hf⟩ : ecs = [.int .i64 (nth l i).1, .int .i64 (nth l i).2] ∧ _ := hO.rd
   exact hf
end
/-- What DrawReasons answers. -/
def ReasPost (w : World) (e : Ending) (w' : World) : Prop := ∃ (cs : List Value) (p : ProgD) (v : Value) (xs : List Int) (u : Value) (l : List (Int × Int)), e = .returned (.tuple #[.agg (List.toArray cs), v, u]) ∧ Rd.R (α := ProgD) w' cs p ∧ RdL w' [v] xs ∧ RdL w' [u] l ∧ Below w.heap.size w w'
theorem res8R (W : World) (g : Nat) (u0 u1 u2 u3 u4 u5 u6 u7 : Value) : Cg (fun x => x = g) W ((((((((W.setCell ⟨g, 0, none⟩ u0).setCell ⟨g, 1, none⟩ u1).setCell ⟨g, 2, none⟩ u2).setCell ⟨g, 3, none⟩ u3).setCell ⟨g, 4, none⟩ u4).setCell ⟨g, 5, none⟩ u5).setCell ⟨g, 6, none⟩ u6).setCell ⟨g, 7, none⟩ u7) := by
 repeat (refine Cg.set ?_ _ _ rfl)
 exact Cg.refl _ _
/-- The program that is drawn in its box at G, the result's box, the cursor. -/
structure DS (w : World) (lo G : Nat) (w3 wz : World) (bx : List Value) (N : Nat) : Prop where
 res : wz.heap[w.heap.size]? = some (.cells #[.int .i64 0, .slice none 0 0, .slice none 0 0, .bool false, .slice none 0 0, .slice none 0 0, .slice none 0 0, .slice none 0 0] 30 (0, 0))
 box : wz.heap[G]? = some (.cells bx.toArray 30 (0, 0))
 k3 : Cg (fun x => x < lo) w3 wz
 cur : Cur wz (w.heap.size + 1) N
 bel : Below w.heap.size w wz
 lt : w.heap.size + 1 < lo ∧ lo ≤ G ∧ G < w3.heap.size
section
variable {w w3 wz w5 : World} {lo G N N' g : Nat} {bx : List Value}
theorem DS.cgc (h : DS w lo G w3 wz bx N) (k : Wrote (w.heap.size + 1) wz w5) (hc : Cur w5 (w.heap.size + 1) N') : DS w lo G w3 w5 bx N' := by
 have hl := h.lt
 have kc := Cg.wrote (S := fun x => x = w.heap.size + 1) k rfl
 exact ⟨kc.at h.res (by omega), kc.at h.box (by omega), h.k3.trans (kc.more fun x _ hx => by omega), hc, Wrote.mark h.bel k (by omega), hl⟩
theorem DS.row (h : DS w lo G w3 wz bx N) (k : Cg (fun x => w3.heap.size ≤ x) wz w5) : DS w lo G w3 w5 bx N := by
 have hl := h.lt
 refine ⟨k.at h.res (by omega), k.at h.box (by omega), ⟨k.os.trans h.k3.os, k.tape.trans h.k3.tape, k.output.trans h.k3.output, Nat.le_trans h.k3.size k.size, fun x hx hn => (k.block x (Nat.lt_of_lt_of_le hx h.k3.size) (by omega)).trans (h.k3.block x hx hn)⟩, h.cur.cg (k.more fun x _ hx => by omega), ⟨k.os.trans h.bel.os, k.tape.trans h.bel.tape, k.output.trans h.bel.output, Nat.le_trans h.bel.size k.size, fun x hx => (k.block x (Nat.lt_of_lt_of_le hx h.bel.size) (by have := h.k3.size; omega)).trans (h.bel.block x hx)⟩, hl⟩
end
set_option maxHeartbeats 8000000 in
theorem DrawReasons_calls (HA : AnyOk) (a : Option Addr) (bs : List Int) (cap : Nat) (w : World) (h : Bytes w a bs) :
  Calls Tryz.prog 21 #[.slice a bs.length cap] w (ReasPost w) := by
 have tz : Below w.heap.size w (w.alloc (.cells #[.int .i64 0, .slice none 0 0, .slice none 0 0, .bool false, .slice none 0 0, .slice none 0 0, .slice none 0 0, .slice none 0 0] 30)) := (Below.refl _ _).alloc (Nat.le_refl _) _
 have hB := h.later tz
 have hz0 := alloc_block w #[.int .i64 0, .slice none 0 0, .slice none 0 0, .bool false, .slice none 0 0, .slice none 0 0, .slice none 0 0, .slice none 0 0] 30
 go_enter Tryz.func21, Tryz.ntmps21
 go_wp2_with fail
 refine (open_calls _ _ _ _ hB).mono ?_
 rintro e w1 ⟨rfl, hc, hb⟩
 rw [World.size_alloc] at hc hb
 have hcl := hc.lt
 have hz1 := (hb.block _ (Nat.lt_succ_self _)).trans hz0
 rw [World.size_alloc]
 go_wp2_with fail
 refine (HA (w.heap.size + 1) 0 w1 hc (by omega)).mono ?_
 rintro e w2 ⟨cs, p, rfl, hL, hwee, c2, k2⟩
 obtain ⟨x0, x1, x2, x3, x4, x5, x6, x7, rfl⟩ := list8 (Rd.len hL.rd)
 have l1 := Rd.one hL.rd
 have st0 := sto Tryz.prog (l1 x0 (by simp))
 have st1 := sto Tryz.prog (l1 x1 (by simp))
 have st2 := sto Tryz.prog (l1 x2 (by simp))
 have st3 := sto Tryz.prog (l1 x3 (by simp))
 have st4 := sto Tryz.prog (l1 x4 (by simp))
 have st5 := sto Tryz.prog (l1 x5 (by simp))
 have st6 := sto Tryz.prog (l1 x6 (by simp))
 have st7 := sto Tryz.prog (l1 x7 (by simp))
 have hz2 := k2.size
 have hr2 := (Cg.wrote (S := fun x => x = w.heap.size + 1) k2 rfl).at hz1 (by omega)
 have t1 : Below w.heap.size w w1 := tz.trans (hb.mono (Nat.le_succ _))
 have t2 : Below w.heap.size w w2 := Wrote.mark t1 k2 (by omega)
 have tG := (Below.refl w2.heap.size w2).alloc (Nat.le_refl _) (.cells #[x0, x1, x2, x3, x4, x5, x6, x7] 30)
 have CG := Cells.new w2 [x0, x1, x2, x3, x4, x5, x6, x7] 30
 have hG := alloc_block w2 #[x0, x1, x2, x3, x4, x5, x6, x7] 30
 have c3 := c2.kept tG
 have hpG := Rd.mono tG hL.rd
 obtain ⟨y0, y1, y2, y3, y4, y5, y6, y7⟩ := cells8 CG
 go_wp2_with fail
 refine (near_calls _ _ _ c3 (by omega) hpG).mono ?_
 rintro e w3 ⟨v, xs, rfl, hlx, ox, c4, k4⟩
 have kc4 := Cg.wrote (S := fun x => x = w.heap.size + 1) k4 rfl
 have hz4 := kc4.size
 rw [World.size_alloc] at hz4 ox
 have k23 : Cg (fun x => x < w1.heap.size) w2 w3 := (Cg.below tG).trans (kc4.more fun x _ hx => by omega)
 have hpd : ∀ w', Cg (fun x => x < w1.heap.size) w3 w' → Rd.R (α := ProgD) w' [x0, x1, x2, x3, x4, x5, x6, x7] p := fun w' hk => (hL.cg (k23.trans hk)).rd
 have hxd : ∀ w', Cg (fun x => x < w1.heap.size) w3 w' → RdL w' [v] xs := fun w' hk => (ox.cg hk fun g hg hn => by omega).rd
 have D3 : DS w w1.heap.size w2.heap.size w3 w3 [x0, x1, x2, x3, x4, x5, x6, x7] 6200 :=
  ⟨kc4.at ((tG.block w.heap.size (by omega)).trans hr2) (by omega), kc4.at hG (by omega), Cg.refl _ _, c4.mono (by omega), Wrote.mark (t2.step tG) k4 (by omega), ⟨by omega, hz2, by omega⟩⟩
 have hp3 := hpd w3 (Cg.refl _ _)
 have hx3 := hxd w3 (Cg.refl _ _)
 obtain ⟨ax, qx, rfl, _, _⟩ := hx3.sl
 clear hL hwee c2 k2 t2 t1 hr2 hz1 hz0 hB hb hc l1 tz tG CG hG c3 hpG k4 kc4 k23 ox c4 y0 y1 y2 y3 y4 y5 y6 y7
 obtain ⟨y0, y1, y2, y3, y4, y5, y6, y7⟩ := cells8 (box_cells D3.box)
 go_wp2_with fail
 refine (specWhy_calls hp3 hx3).mono ?_
 rintro e w4 ⟨u, rfl, oW, b4⟩
 have D4 := D3.row (Cg.lo b4 fun g _ hg => hg)
 have hwl : (whyR p xs).length ≤ 12 := whyR_len p xs
 obtain ⟨l, hl⟩ : ∃ l, l = whyR p xs := ⟨_, rfl⟩
 rw [← hl] at oW hwl
 clear hl D3 hp3 hx3 b4 y0 y1 y2 y3 y4 y5 y6 y7
 have ofm : ∃ aw nw, u = .slice aw l.length nw := by
  obtain ⟨aw, nw, e, _⟩ := oW.own.rd.sl
  exact ⟨aw, nw, e⟩
 obtain ⟨aw, nw, rfl⟩ := ofm
 go_wp2_with fail
 refine (once_calls (w.heap.size + 1) 6200 4 _ D4.cur (by omega) (by omega) (by omega)).mono ?_
 rintro e w5 ⟨b, rfl, c5, k5⟩
 have D5 := D4.cgc k5 c5
 have kc5 := Cg.wrote (S := fun x => x = w.heap.size + 1) k5 rfl
 have hlt5 := D5.lt
 have oW5 := oW.own.cg kc5 fun g hg hn => by omega
 by_cases hgo : b = true ∧ 0 < l.length
 ·obtain ⟨rfl, hpos⟩ := hgo
  obtain ⟨g, cp, hv, hgB, R4⟩ := RW.of oW hpos
  simp only [Value.slice.injEq, true_and] at hv
  obtain ⟨rfl, rfl⟩ := hv
  have R5 := R4.cg kc5 (by omega)
  have hpi : (0 : Int) < (l.length : Int) := by omega
  clear R4 oW oW5 D4 k5 c5 kc5
  go_wp2_with fail
  refine (pick_calls (w.heap.size + 1) 6300 (l.length : Int) _ (D5.cur.mono (by omega)) (by omega) ⟨by omega, by omega⟩).mono ?_
  rintro e w6 ⟨kk, ⟨hk0, hk1, hk2⟩, rfl, c6, k6⟩
  obtain ⟨k, rfl⟩ := Int.eq_ofNat_of_zero_le hk0
  have hk : k < l.length := by
   by_cases h9 : (l.length : Int) < 2
   ·have := hk2 h9; omega
   ·have := hk1 (by omega); omega
  have D6 := D5.cgc k6 c6
  have R6 := R5.cg (Cg.wrote (S := fun x => x = w.heap.size + 1) k6 rfl) (by omega)
  clear R5 D5 k6 c6 hk0 hk1 hk2
  go_wp2_with fail
  refine (pick_calls (w.heap.size + 1) 6400 4 _ (D6.cur.mono (by omega)) (by omega) ⟨by omega, by omega⟩).mono ?_
  rintro e w7 ⟨s, ⟨hs0, hs1, _⟩, rfl, c7, k7⟩
  have hs1 := hs1 (by omega)
  have D7 := D6.cgc k7 c7
  have R7 := R6.cg (Cg.wrote (S := fun x => x = w.heap.size + 1) k7 rfl) (by omega)
  have hki : (k : Int) < (l.length : Int) := by omega
  have hgw : g ≠ w.heap.size := by omega
  clear R6 D6 k7 c7
  obtain rfl | rfl | rfl | rfl : s = 0 ∨ s = 1 ∨ s = 2 ∨ s = 3 := by omega
  ·go_wp2_with fail
   refine (raw_calls (w.heap.size + 1) 6500 _ (D7.cur.mono (by omega)) (by omega)).mono ?_
   rintro e w8 ⟨r, hr, rfl, c8, k8⟩
   have D8 := D7.cgc k8 c8
   have R8 := R7.cg (Cg.wrote (S := fun x => x = w.heap.size + 1) k8 rfl) (by omega)
   obtain ⟨u0, u1⟩ := R8.at hk
   have hfr := R8.fr
   clear R7 D7 k8 c8
   go_upto_region 18 with fail
   have R9 := R8.set1 hk hr
   have D9 := D8.row (Cg.set (Cg.refl (fun x => w3.heap.size ≤ x) w8) (k * 2 + 1) (.int .i64 r) hgB)
   have hL9 : ∀ w', Cg (fun x => x = w.heap.size) (w8.setCell ⟨g, k * 2 + 1, none⟩ (.int .i64 r)) w' → RdL w' [.slice (some ⟨g, 0, none⟩) l.length nw] (l.set k (((nth l k).1, r))) := fun w' hk' => by
    have := (R9.cg hk' hgw).rd (by rw [List.length_set]; omega)
    rwa [List.length_set] at this
   clear u0 u1 hfr R8 D8 R9
   generalize w8.setCell ⟨g, k * 2 + 1, none⟩ (.int .i64 r) = w9 at *
   obtain ⟨y0, y1, y2, y3, y4, y5, y6, y7⟩ := cells8 (box_cells D9.box)
   obtain ⟨z0, z1, z2, z3, z4, z5, z6, z7⟩ := cells8 (box_cells D9.res)
   have hfz := fun j => frozen_of_row _ w.heap.size j _ _ D9.res
   have hlw : w.heap.size < (w9).heap.size := block_lt D9.res
   have kk := res8R (w9) w.heap.size x0 x1 x2 x3 x4 x5 x6 x7
   have hlt9 := D9.lt
   have k3' := D9.k3.trans (kk.more fun g _ (hg : g = w.heap.size) => (by omega : g < w1.heap.size))
   have HP := Lib.hid (hpd _ k3')
   have HX := Lib.hid (hxd _ k3')
   have HL := Lib.hid (hL9 _ kk)
   have HB : Hid (Below w.heap.size w _) := ⟨kk.os.trans D9.bel.os, kk.tape.trans D9.bel.tape, kk.output.trans D9.bel.output, Nat.le_trans D9.bel.size kk.size, fun x hx => (kk.block x (Nat.lt_of_lt_of_le hx D9.bel.size) (by omega)).trans (D9.bel.block x hx)⟩
   clear kk k3' hpd hxd
   go_wp2
   exact bodyPost_ret (v := .tuple #[.agg #[x0, x1, x2, x3, x4, x5, x6, x7], .slice ax xs.length qx, .slice (some ⟨g, 0, none⟩) l.length nw]) (by simp [results, Tryz.results21, go_sem, z0, z1, z2, z3, z4, z5, z6, z7]) rfl ⟨[x0, x1, x2, x3, x4, x5, x6, x7], p, .slice ax xs.length qx, xs, .slice (some ⟨g, 0, none⟩) l.length nw, l.set k (((nth l k).1, r)), rfl, HP.out, HX.out, HL.out, HB.out⟩
  ·go_wp2_with fail
   refine (raw_calls (w.heap.size + 1) 6500 _ (D7.cur.mono (by omega)) (by omega)).mono ?_
   rintro e w8 ⟨r, hr, rfl, c8, k8⟩
   have D8 := D7.cgc k8 c8
   have R8 := R7.cg (Cg.wrote (S := fun x => x = w.heap.size + 1) k8 rfl) (by omega)
   obtain ⟨u0, u1⟩ := R8.at hk
   have hfr := R8.fr
   clear R7 D7 k8 c8
   go_upto_region 18 with fail
   have R9 := R8.set0 hk hr
   have D9 := D8.row (Cg.set (Cg.refl (fun x => w3.heap.size ≤ x) w8) (k * 2) (.int .i64 r) hgB)
   have hL9 : ∀ w', Cg (fun x => x = w.heap.size) (w8.setCell ⟨g, k * 2, none⟩ (.int .i64 r)) w' → RdL w' [.slice (some ⟨g, 0, none⟩) l.length nw] (l.set k ((r, (nth l k).2))) := fun w' hk' => by
    have := (R9.cg hk' hgw).rd (by rw [List.length_set]; omega)
    rwa [List.length_set] at this
   clear u0 u1 hfr R8 D8 R9
   generalize w8.setCell ⟨g, k * 2, none⟩ (.int .i64 r) = w9 at *
   obtain ⟨y0, y1, y2, y3, y4, y5, y6, y7⟩ := cells8 (box_cells D9.box)
   obtain ⟨z0, z1, z2, z3, z4, z5, z6, z7⟩ := cells8 (box_cells D9.res)
   have hfz := fun j => frozen_of_row _ w.heap.size j _ _ D9.res
   have hlw : w.heap.size < (w9).heap.size := block_lt D9.res
   have kk := res8R (w9) w.heap.size x0 x1 x2 x3 x4 x5 x6 x7
   have hlt9 := D9.lt
   have k3' := D9.k3.trans (kk.more fun g _ (hg : g = w.heap.size) => (by omega : g < w1.heap.size))
   have HP := Lib.hid (hpd _ k3')
   have HX := Lib.hid (hxd _ k3')
   have HL := Lib.hid (hL9 _ kk)
   have HB : Hid (Below w.heap.size w _) := ⟨kk.os.trans D9.bel.os, kk.tape.trans D9.bel.tape, kk.output.trans D9.bel.output, Nat.le_trans D9.bel.size kk.size, fun x hx => (kk.block x (Nat.lt_of_lt_of_le hx D9.bel.size) (by omega)).trans (D9.bel.block x hx)⟩
   clear kk k3' hpd hxd
   go_wp2
   exact bodyPost_ret (v := .tuple #[.agg #[x0, x1, x2, x3, x4, x5, x6, x7], .slice ax xs.length qx, .slice (some ⟨g, 0, none⟩) l.length nw]) (by simp [results, Tryz.results21, go_sem, z0, z1, z2, z3, z4, z5, z6, z7]) rfl ⟨[x0, x1, x2, x3, x4, x5, x6, x7], p, .slice ax xs.length qx, xs, .slice (some ⟨g, 0, none⟩) l.length nw, l.set k ((r, (nth l k).2)), rfl, HP.out, HX.out, HL.out, HB.out⟩
  ·obtain ⟨i0, hi0, hz0', hz1', hz2'⟩ := info_parts info_rs
   go_upto_region 17 with fail
   have D8 := D7.row ((Cg.refl (fun x => w3.heap.size ≤ x) w7).drew)
   have R8 := R7.cg ((Cg.refl (fun _ => False) w7).drew) (fun h => h)
   have hle : (l.eraseIdx k).length = l.length - 1 := List.length_eraseIdx_of_lt hk
   have hlen8 := R8.len
   refine wp_region_held_drew (S := fun _ => True) (by kernel_rfl) trivial (fun hHeld => ?_)
   generalize w7.drew = w8 at *
   have hrun := R8.delRun (P := Tryz.prog) (t := 47) (ty := 47) i0 Tryz.underlying47 hi0 hz1' hk
   have h0k : (0 : Int) ≤ (k : Int) := by omega
   have hkn : (k : Int) ≤ (nw : Int) := by omega
   have h0k1 : (0 : Int) ≤ (k : Int) + 1 := by omega
   have hk1l : (k : Int) + 1 ≤ (l.length : Int) := by omega
   have hwk : IntKind.i64.wrap ((k : Int) + 1) = (k : Int) + 1 := IntWalk.i64_in _ (by omega)
   by_cases hcap : nw = k + 1
   ·rw [if_pos hcap] at hrun
    have HC := Lib.hid hcap
    clear hcap
    refine tkY 0 (.slice (some ⟨g, 0, none⟩) l.length nw) 72 rfl rfl (fun w' hw' => ?_) hHeld ?_
    ·go_simp
    try simp only [Act.put, put1, put2, put3]
    refine tkY 1 (.int .i64 (k : Int)) 73 rfl rfl (fun w' hw' => ?_) hHeld ?_
    ·go_simp
    try simp only [Act.put, put1, put2, put3]
    refine tkY 2 (.slice (some ⟨g, 0, none⟩) k nw) 74 rfl rfl (fun w' hw' => ?_) hHeld ?_
    ·go_simp
    try simp only [Act.put, put1, put2, put3]
    refine tkY 3 (.slice (some ⟨g, 0, none⟩) l.length nw) 75 rfl rfl (fun w' hw' => ?_) hHeld ?_
    ·go_simp
    try simp only [Act.put, put1, put2, put3]
    refine tkY 4 (.int .i64 (k : Int)) 76 rfl rfl (fun w' hw' => ?_) hHeld ?_
    ·go_simp
    try simp only [Act.put, put1, put2, put3]
    refine tkY 5 (.int .i64 (k + 1 : Int)) 77 rfl rfl (fun w' hw' => ?_) hHeld ?_
    ·go_simp
    try simp only [Act.put, put1, put2, put3]
    refine tkY 6 (.slice (some ⟨g, 0, none⟩) (l.length - (k + 1)) (nw - (k + 1))) 78 rfl rfl (fun w' hw' => ?_) hHeld ?_
    ·have hcap := HC.out
     first | (go_simp; done) | (go_simp; omega) | (go_simp; intro h; exact absurd HC.out h) | (go_simp; intro h; exact absurd h HC.out) | (go_simp; simp [HC.out])
    try simp only [Act.put, put1, put2, put3]
    refine wpAnyH_ready (rs := [7]) (by kernel_rfl) (by simp) ?_
    refine AllReadyH.cons rfl (fun K hK => ?_) AllReadyH.nil
    refine step_append_of rfl _ _ rfl rfl rfl hrun ?_
    refine hK.out _ _ trivial (fun hHeld => ?_)
    clear hK K
    try simp only [Act.put, put1, put2, put3]
    refine tkY 8 (.slice (some ⟨g, 0, none⟩) (l.eraseIdx k).length nw) 8 rfl rfl (fun w' hw' => ?_) hHeld ?_
    ·go_simp
    try simp only [Act.put, put1, put2, put3]
    refine wpAnyH_done (by kernel_rfl) ?_ _
    have R9 := R8.del hk
    have kch := put_chg g (encs (l.drop (k + 1))) w8 (k * 2)
    have D9 := D8.row (w5 := put w8 g (k * 2) (encs (l.drop (k + 1)))) ⟨kch.os, kch.tape, kch.output, Nat.le_of_eq kch.size.symm, fun x _ hx => kch.block x (by intro hm; simp only [List.mem_singleton] at hm; omega)⟩
    have hL9 : ∀ w', Cg (fun x => x = w.heap.size) (put w8 g (k * 2) (encs (l.drop (k + 1)))) w' → RdL w' [.slice (some ⟨g, 0, none⟩) (l.eraseIdx k).length nw] (l.eraseIdx k) := fun w' hk' => (R9.cg hk' hgw).rd (by omega)
    clear R8 D8 R9 kch hrun hHeld R7 D7
    generalize put w8 g (k * 2) (encs (l.drop (k + 1))) = w9 at *
    obtain ⟨n9, hn9⟩ : ∃ n9, n9 = (l.eraseIdx k).length := ⟨_, rfl⟩
    rw [← hn9] at hL9 ⊢
    clear hle hn9
    go_upto_region 18 with fail
    obtain ⟨y0, y1, y2, y3, y4, y5, y6, y7⟩ := cells8 (box_cells D9.box)
    obtain ⟨z0, z1, z2, z3, z4, z5, z6, z7⟩ := cells8 (box_cells D9.res)
    have hfz := fun j => frozen_of_row _ w.heap.size j _ _ D9.res
    have hlw : w.heap.size < (w9).heap.size := block_lt D9.res
    have kk := res8R (w9) w.heap.size x0 x1 x2 x3 x4 x5 x6 x7
    have hlt9 := D9.lt
    have k3' := D9.k3.trans (kk.more fun g _ (hg : g = w.heap.size) => (by omega : g < w1.heap.size))
    have HP := Lib.hid (hpd _ k3')
    have HX := Lib.hid (hxd _ k3')
    have HL := Lib.hid (hL9 _ kk)
    have HB : Hid (Below w.heap.size w _) := ⟨kk.os.trans D9.bel.os, kk.tape.trans D9.bel.tape, kk.output.trans D9.bel.output, Nat.le_trans D9.bel.size kk.size, fun x hx => (kk.block x (Nat.lt_of_lt_of_le hx D9.bel.size) (by omega)).trans (D9.bel.block x hx)⟩
    clear kk k3' hpd hxd
    go_wp2
    exact bodyPost_ret (v := .tuple #[.agg #[x0, x1, x2, x3, x4, x5, x6, x7], .slice ax xs.length qx, .slice (some ⟨g, 0, none⟩) n9 nw]) (by simp [results, Tryz.results21, go_sem, z0, z1, z2, z3, z4, z5, z6, z7]) rfl ⟨[x0, x1, x2, x3, x4, x5, x6, x7], p, .slice ax xs.length qx, xs, .slice (some ⟨g, 0, none⟩) n9 nw, l.eraseIdx k, rfl, HP.out, HX.out, HL.out, HB.out⟩
   ·rw [if_neg hcap] at hrun
    have HC := Lib.hid hcap
    clear hcap
    refine tkY 0 (.slice (some ⟨g, 0, none⟩) l.length nw) 72 rfl rfl (fun w' hw' => ?_) hHeld ?_
    ·go_simp
    try simp only [Act.put, put1, put2, put3]
    refine tkY 1 (.int .i64 (k : Int)) 73 rfl rfl (fun w' hw' => ?_) hHeld ?_
    ·go_simp
    try simp only [Act.put, put1, put2, put3]
    refine tkY 2 (.slice (some ⟨g, 0, none⟩) k nw) 74 rfl rfl (fun w' hw' => ?_) hHeld ?_
    ·go_simp
    try simp only [Act.put, put1, put2, put3]
    refine tkY 3 (.slice (some ⟨g, 0, none⟩) l.length nw) 75 rfl rfl (fun w' hw' => ?_) hHeld ?_
    ·go_simp
    try simp only [Act.put, put1, put2, put3]
    refine tkY 4 (.int .i64 (k : Int)) 76 rfl rfl (fun w' hw' => ?_) hHeld ?_
    ·go_simp
    try simp only [Act.put, put1, put2, put3]
    refine tkY 5 (.int .i64 (k + 1 : Int)) 77 rfl rfl (fun w' hw' => ?_) hHeld ?_
    ·go_simp
    try simp only [Act.put, put1, put2, put3]
    refine tkY 6 (.slice (some ⟨g, (k + 1) * 2, none⟩) (l.length - (k + 1)) (nw - (k + 1))) 78 rfl rfl (fun w' hw' => ?_) hHeld ?_
    ·have hcap := HC.out
     first | (go_simp; done) | (go_simp; omega) | (go_simp; intro h; exact absurd HC.out h) | (go_simp; intro h; exact absurd h HC.out) | (go_simp; simp [HC.out])
    try simp only [Act.put, put1, put2, put3]
    refine wpAnyH_ready (rs := [7]) (by kernel_rfl) (by simp) ?_
    refine AllReadyH.cons rfl (fun K hK => ?_) AllReadyH.nil
    refine step_append_of rfl _ _ rfl rfl rfl hrun ?_
    refine hK.out _ _ trivial (fun hHeld => ?_)
    clear hK K
    try simp only [Act.put, put1, put2, put3]
    refine tkY 8 (.slice (some ⟨g, 0, none⟩) (l.eraseIdx k).length nw) 8 rfl rfl (fun w' hw' => ?_) hHeld ?_
    ·go_simp
    try simp only [Act.put, put1, put2, put3]
    refine wpAnyH_done (by kernel_rfl) ?_ _
    have R9 := R8.del hk
    have kch := put_chg g (encs (l.drop (k + 1))) w8 (k * 2)
    have D9 := D8.row (w5 := put w8 g (k * 2) (encs (l.drop (k + 1)))) ⟨kch.os, kch.tape, kch.output, Nat.le_of_eq kch.size.symm, fun x _ hx => kch.block x (by intro hm; simp only [List.mem_singleton] at hm; omega)⟩
    have hL9 : ∀ w', Cg (fun x => x = w.heap.size) (put w8 g (k * 2) (encs (l.drop (k + 1)))) w' → RdL w' [.slice (some ⟨g, 0, none⟩) (l.eraseIdx k).length nw] (l.eraseIdx k) := fun w' hk' => (R9.cg hk' hgw).rd (by omega)
    clear R8 D8 R9 kch hrun hHeld R7 D7
    generalize put w8 g (k * 2) (encs (l.drop (k + 1))) = w9 at *
    obtain ⟨n9, hn9⟩ : ∃ n9, n9 = (l.eraseIdx k).length := ⟨_, rfl⟩
    rw [← hn9] at hL9 ⊢
    clear hle hn9
    go_upto_region 18 with fail
    obtain ⟨y0, y1, y2, y3, y4, y5, y6, y7⟩ := cells8 (box_cells D9.box)
    obtain ⟨z0, z1, z2, z3, z4, z5, z6, z7⟩ := cells8 (box_cells D9.res)
    have hfz := fun j => frozen_of_row _ w.heap.size j _ _ D9.res
    have hlw : w.heap.size < (w9).heap.size := block_lt D9.res
    have kk := res8R (w9) w.heap.size x0 x1 x2 x3 x4 x5 x6 x7
    have hlt9 := D9.lt
    have k3' := D9.k3.trans (kk.more fun g _ (hg : g = w.heap.size) => (by omega : g < w1.heap.size))
    have HP := Lib.hid (hpd _ k3')
    have HX := Lib.hid (hxd _ k3')
    have HL := Lib.hid (hL9 _ kk)
    have HB : Hid (Below w.heap.size w _) := ⟨kk.os.trans D9.bel.os, kk.tape.trans D9.bel.tape, kk.output.trans D9.bel.output, Nat.le_trans D9.bel.size kk.size, fun x hx => (kk.block x (Nat.lt_of_lt_of_le hx D9.bel.size) (by omega)).trans (D9.bel.block x hx)⟩
    clear kk k3' hpd hxd
    go_wp2
    exact bodyPost_ret (v := .tuple #[.agg #[x0, x1, x2, x3, x4, x5, x6, x7], .slice ax xs.length qx, .slice (some ⟨g, 0, none⟩) n9 nw]) (by simp [results, Tryz.results21, go_sem, z0, z1, z2, z3, z4, z5, z6, z7]) rfl ⟨[x0, x1, x2, x3, x4, x5, x6, x7], p, .slice ax xs.length qx, xs, .slice (some ⟨g, 0, none⟩) n9 nw, l.eraseIdx k, rfl, HP.out, HX.out, HL.out, HB.out⟩
  ·go_wp2_with fail
   refine (pick_calls (w.heap.size + 1) 6500 (l.length : Int) _ (D7.cur.mono (by omega)) (by omega) ⟨by omega, by omega⟩).mono ?_
   rintro e w8 ⟨ii, ⟨hi0, hi1, hi2⟩, rfl, c8, k8⟩
   obtain ⟨i, rfl⟩ := Int.eq_ofNat_of_zero_le hi0
   have hi : i < l.length := by
    by_cases h9 : (l.length : Int) < 2
    ·have := hi2 h9; omega
    ·have := hi1 (by omega); omega
   have D8 := D7.cgc k8 c8
   have R8 := R7.cg (Cg.wrote (S := fun x => x = w.heap.size + 1) k8 rfl) (by omega)
   have hii : (i : Int) < (l.length : Int) := by omega
   obtain ⟨u0, u1⟩ := R8.at hk
   have hg8 := R8.lt
   clear R7 D7 k8 c8 hi0 hi1 hi2
   go_upto_region 10 with fail
   have CB := Cells.new w8 [.int .i64 (nth l k).1, .int .i64 (nth l k).2] 118
   have kA : Cg (fun x => w3.heap.size ≤ x) w8 (w8.alloc (.cells #[.int .i64 (nth l k).1, .int .i64 (nth l k).2] 118)) := (Cg.refl _ _).alloc _
   have DA := D8.row kA
   have RA := R8.cg ((Cg.refl (fun _ => False) w8).alloc (.cells #[.int .i64 (nth l k).1, .int .i64 (nth l k).2] 118)) (fun h => h)
   obtain ⟨B, hB⟩ : ∃ B, B = w8.heap.size := ⟨_, rfl⟩
   have hgB9 : g ≠ B := by omega
   rw [← hB] at CB ⊢
   clear u0 u1 R8 D8 kA hg8
   generalize w8.alloc (.cells #[.int .i64 (nth l k).1, .int .i64 (nth l k).2] 118) = wA at *
   obtain ⟨u0, u1⟩ := RA.at hi
   obtain ⟨v0, v1⟩ := RA.at hk
   have hfr := RA.fr
   obtain ⟨r0, r1⟩ := cells2 CB
   clear hB
   go_upto_region 11 with fail
   have RB := RA.set2 hk (y := nth l i) (RA.fit i hi)
   have DB := DA.row (Cg.set (Cg.set (Cg.refl (fun x => w3.heap.size ≤ x) wA) (k * 2) (.int .i64 (nth l i).1) hgB) (k * 2 + 1) (.int .i64 (nth l i).2) hgB)
   have CB2 := (CB.kept (Below.heap_setCell wA ⟨g, k * 2, none⟩ (.int .i64 (nth l i).1) B (by show B ≠ g; omega))).kept (Below.heap_setCell (wA.setCell ⟨g, k * 2, none⟩ (.int .i64 (nth l i).1)) ⟨g, k * 2 + 1, none⟩ (.int .i64 (nth l i).2) B (by show B ≠ g; omega))
   have hfit := RA.fit k hk
   have hiB : i < (l.set k (nth l i)).length := by rw [List.length_set]; exact hi
   clear u0 u1 v0 v1 hfr r0 r1 RA DA CB
   generalize (wA.setCell ⟨g, k * 2, none⟩ (.int .i64 (nth l i).1)).setCell ⟨g, k * 2 + 1, none⟩ (.int .i64 (nth l i).2) = wB at *
   obtain ⟨v0, v1⟩ := RB.at hiB
   have hfr := RB.fr
   obtain ⟨r0, r1⟩ := cells2 CB2
   go_upto_region 18 with fail
   have RC := RB.set2 hiB (y := nth l k) hfit
   have DC := DB.row (Cg.set (Cg.set (Cg.refl (fun x => w3.heap.size ≤ x) wB) (i * 2) (.int .i64 (nth l k).1) hgB) (i * 2 + 1) (.int .i64 (nth l k).2) hgB)
   have hL9 : ∀ w', Cg (fun x => x = w.heap.size) ((wB.setCell ⟨g, i * 2, none⟩ (.int .i64 (nth l k).1)).setCell ⟨g, i * 2 + 1, none⟩ (.int .i64 (nth l k).2)) w' → RdL w' [.slice (some ⟨g, 0, none⟩) l.length nw] ((l.set k (nth l i)).set i (nth l k)) := fun w' hk' => by
    have := (RC.cg hk' hgw).rd (by rw [List.length_set, List.length_set]; omega)
    rwa [List.length_set, List.length_set] at this
   clear v0 v1 r0 r1 hfr RB DB RC CB2
   generalize (wB.setCell ⟨g, i * 2, none⟩ (.int .i64 (nth l k).1)).setCell ⟨g, i * 2 + 1, none⟩ (.int .i64 (nth l k).2) = w9 at *
   obtain ⟨y0, y1, y2, y3, y4, y5, y6, y7⟩ := cells8 (box_cells DC.box)
   obtain ⟨z0, z1, z2, z3, z4, z5, z6, z7⟩ := cells8 (box_cells DC.res)
   have hfz := fun j => frozen_of_row _ w.heap.size j _ _ DC.res
   have hlw : w.heap.size < (w9).heap.size := block_lt DC.res
   have kk := res8R (w9) w.heap.size x0 x1 x2 x3 x4 x5 x6 x7
   have hlt9 := DC.lt
   have k3' := DC.k3.trans (kk.more fun g _ (hg : g = w.heap.size) => (by omega : g < w1.heap.size))
   have HP := Lib.hid (hpd _ k3')
   have HX := Lib.hid (hxd _ k3')
   have HL := Lib.hid (hL9 _ kk)
   have HB : Hid (Below w.heap.size w _) := ⟨kk.os.trans DC.bel.os, kk.tape.trans DC.bel.tape, kk.output.trans DC.bel.output, Nat.le_trans DC.bel.size kk.size, fun x hx => (kk.block x (Nat.lt_of_lt_of_le hx DC.bel.size) (by omega)).trans (DC.bel.block x hx)⟩
   clear kk k3' hpd hxd
   go_wp2
   exact bodyPost_ret (v := .tuple #[.agg #[x0, x1, x2, x3, x4, x5, x6, x7], .slice ax xs.length qx, .slice (some ⟨g, 0, none⟩) l.length nw]) (by simp [results, Tryz.results21, go_sem, z0, z1, z2, z3, z4, z5, z6, z7]) rfl ⟨[x0, x1, x2, x3, x4, x5, x6, x7], p, .slice ax xs.length qx, xs, .slice (some ⟨g, 0, none⟩) l.length nw, (l.set k (nth l i)).set i (nth l k), rfl, HP.out, HX.out, HL.out, HB.out⟩
 ·have hL5 : ∀ w', Cg (fun x => x = w.heap.size) w5 w' → RdL w' [.slice aw l.length nw] l := fun w' hk => (oW5.cg hk fun g hg hn => by omega).rd
  clear oW D4 k5 c5 kc5
  cases b
  ·go_upto_region 18 with fail
   obtain ⟨y0, y1, y2, y3, y4, y5, y6, y7⟩ := cells8 (box_cells D5.box)
   obtain ⟨z0, z1, z2, z3, z4, z5, z6, z7⟩ := cells8 (box_cells D5.res)
   have hfz := fun j => frozen_of_row _ w.heap.size j _ _ D5.res
   have hlw : w.heap.size < (w5).heap.size := block_lt D5.res
   have kk := res8R (w5) w.heap.size x0 x1 x2 x3 x4 x5 x6 x7
   have hlt9 := D5.lt
   have k3' := D5.k3.trans (kk.more fun g _ (hg : g = w.heap.size) => (by omega : g < w1.heap.size))
   have HP := Lib.hid (hpd _ k3')
   have HX := Lib.hid (hxd _ k3')
   have HL := Lib.hid (hL5 _ kk)
   have HB : Hid (Below w.heap.size w _) := ⟨kk.os.trans D5.bel.os, kk.tape.trans D5.bel.tape, kk.output.trans D5.bel.output, Nat.le_trans D5.bel.size kk.size, fun x hx => (kk.block x (Nat.lt_of_lt_of_le hx D5.bel.size) (by omega)).trans (D5.bel.block x hx)⟩
   clear kk k3' hpd hxd
   go_wp2
   exact bodyPost_ret (v := .tuple #[.agg #[x0, x1, x2, x3, x4, x5, x6, x7], .slice ax xs.length qx, .slice aw l.length nw]) (by simp [results, Tryz.results21, go_sem, z0, z1, z2, z3, z4, z5, z6, z7]) rfl ⟨[x0, x1, x2, x3, x4, x5, x6, x7], p, .slice ax xs.length qx, xs, .slice aw l.length nw, l, rfl, HP.out, HX.out, HL.out, HB.out⟩
  ·have hle : l.length = 0 := by
    rcases Nat.eq_zero_or_pos l.length with h | h
    ·exact h
    ·exact absurd ⟨rfl, h⟩ hgo
   have hni : ¬ (0 : Int) < (l.length : Int) := by omega
   have hnd : decide ((0 : Int) < (l.length : Int)) = false := decide_eq_false hni
   clear hle
   go_upto_region 18 with fail
   obtain ⟨y0, y1, y2, y3, y4, y5, y6, y7⟩ := cells8 (box_cells D5.box)
   obtain ⟨z0, z1, z2, z3, z4, z5, z6, z7⟩ := cells8 (box_cells D5.res)
   have hfz := fun j => frozen_of_row _ w.heap.size j _ _ D5.res
   have hlw : w.heap.size < (w5).heap.size := block_lt D5.res
   have kk := res8R (w5) w.heap.size x0 x1 x2 x3 x4 x5 x6 x7
   have hlt9 := D5.lt
   have k3' := D5.k3.trans (kk.more fun g _ (hg : g = w.heap.size) => (by omega : g < w1.heap.size))
   have HP := Lib.hid (hpd _ k3')
   have HX := Lib.hid (hxd _ k3')
   have HL := Lib.hid (hL5 _ kk)
   have HB : Hid (Below w.heap.size w _) := ⟨kk.os.trans D5.bel.os, kk.tape.trans D5.bel.tape, kk.output.trans D5.bel.output, Nat.le_trans D5.bel.size kk.size, fun x hx => (kk.block x (Nat.lt_of_lt_of_le hx D5.bel.size) (by omega)).trans (D5.bel.block x hx)⟩
   clear kk k3' hpd hxd
   go_wp2
   exact bodyPost_ret (v := .tuple #[.agg #[x0, x1, x2, x3, x4, x5, x6, x7], .slice ax xs.length qx, .slice aw l.length nw]) (by simp [results, Tryz.results21, go_sem, z0, z1, z2, z3, z4, z5, z6, z7]) rfl ⟨[x0, x1, x2, x3, x4, x5, x6, x7], p, .slice ax xs.length qx, xs, .slice aw l.length nw, l, rfl, HP.out, HX.out, HL.out, HB.out⟩
end Go.Proofs.YthikhkeofcjdfaaGreat
