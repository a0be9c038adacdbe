/-
 A rule's cell stored into; programs drawn without Choice. No condition of its own.
-/
import Derived.Test.YthfbnalgnnjbbaaGreatLent
import Derived.Test.YthfbnalgnnjbbaaGreatDrawM
import Derived.Laws.OwnMore
namespace Go.Proofs.YthfbnalgnnjbbaaGreat
set_option linter.unusedVariables false
set_option linter.unusedSimpArgs false
open Go.RowKit
set_option maxRecDepth 100000

section
variable {lo : Nat} {S : Nat → Prop} {wz w' : World} {g cap : Nat} {cur : Array Value} {e : TypeId} {fe : List Nat} {a b c2 c4 c5 c6 c7 : Value} {p : ProgD}
theorem LentAt.set {k m : Nat} {v : Value} {y : RuleD} {f' : List Nat} {ecs : List Value} (h : LentAt lo S wz a b c2 c4 c5 c6 c7 g cap cur e fe p) (hk : k < p.rules.length) (hm : m < 5)
  (h1 : ∀ (j : Nat) (u : Value), ecs[j]? = some u → cur[k * 5 + j]? = some u) (hl : ecs.length = 5) (hw : Cg (fun _ => False) wz w') (hO : Ow.O w' (ecs.set m v) y f') (hf' : ∀ x ∈ f', lo ≤ x ∧ ¬ S x ∧ x ≠ g ∧ x ∉ fe) :
  LentAt lo S (w'.setCell ⟨g, k * 5 + m, none⟩ v) a b c2 c4 c5 c6 c7 g cap (cur.setIfInBounds (k * 5 + m) v) e fe { p with rules := p.rules.set k y } := by
 have hrow := hw.at h.row (fun h => h)
 have hset := heap_setCell_same w' g (k * 5 + m) _ _ v hrow
 have hroom := mul_room (K := 5) hk
 have hcs := h.len
 have hsz : k * 5 + 5 ≤ cur.size := by have := Nat.mul_le_mul_right 5 hcs.1; omega
 have ks : Cg (fun x => x = g) w' (w'.setCell ⟨g, k * 5 + m, none⟩ v) := Cg.set (Cg.refl _ w') _ v rfl
 have kz : Cg (fun x => x = g) wz (w'.setCell ⟨g, k * 5 + m, none⟩ v) := (hw.more fun x _ hx => hx.elim).trans ks
 refine ⟨hset, by rw [List.length_set, Array.size_setIfInBounds]; exact h.len, h.gne, fun i hi => ?_, ⟨Ow.kept (α := List (Int × Int)) h.ext.1 fun x hx => kz.block x (Ow.lt (α := List (Int × Int)) h.ext.1 x hx) (h.ext.2 x hx).2.2, h.ext.2⟩, fun w2 hw2 v rs hv v6 es h6 => h.rest w2 ((kz.more fun x _ hx => .inr (.inl hx)).trans hw2) v rs hv v6 es h6⟩
 rw [List.length_set] at hi
 by_cases hik : i = k
 ·subst hik
  refine ⟨ecs.set m v, f', fun j u hu => ?_, ?_, hf'⟩
  ·by_cases hj : m = j
   ·subst hj
    rw [List.getElem?_set_self (by omega)] at hu
    rw [Array.getElem?_setIfInBounds_self_of_lt (by omega)]
    exact hu
   ·rw [List.getElem?_set_ne hj] at hu
    rw [Array.getElem?_setIfInBounds_ne (by omega)]
    exact h1 j u hu
  ·show Ow.O _ (ecs.set m v) (nth (p.rules.set i y) i) f'
   rw [nth_set hk, if_pos rfl]
   exact Ow.kept hO fun x hx => ks.block x (Ow.lt hO x hx) (hf' x hx).2.2.1
 ·obtain ⟨es, f1, k1, k2, k3⟩ := h.els i hi
  have hes : es.length = 5 := Rd.len (Ow.rd k2)
  refine ⟨es, f1, fun j u hu => ?_, ?_, k3⟩
  ·have hj : j < es.length := (List.getElem?_eq_some_iff.1 hu).1
   have hne : k * 5 + m ≠ i * 5 + j := by omega
   rw [Array.getElem?_setIfInBounds_ne hne]
   exact k1 j u hu
  ·show Ow.O _ es (nth (p.rules.set k y) i) f1
   rw [nth_set hk, if_neg hik]
   exact Ow.kept k2 fun x hx => kz.block x (Ow.lt k2 x hx) (k3 x hx).2.2.1
theorem LentAt.ext_at {i : Nat} (h : LentAt lo S wz a b c2 c4 c5 c6 c7 g cap cur e fe p) (hi : i < p.exts.length) :
  ∃ ge ce, c6 = .slice (some ⟨ge, 0, none⟩) p.exts.length ce ∧ (wz.cell? ⟨ge, i * 2, none⟩ = some (.int .i64 (nth p.exts i).1) ∧ wz.cell? ⟨ge, i * 2 + 1, none⟩ = some (.int .i64 (nth p.exts i).2)) ∧ Fits (nth p.exts i).2 ∧ (∃ c6c e6, wz.heap[ge]? = some (.cells c6c e6 (0, 0))) ∧ (lo ≤ ge ∧ ¬ S ge ∧ ge ≠ g) ∧
   ∀ (w' : World) (y : Int), Fits y → Cg (fun _ => False) wz w' → ∃ fe', LentAt lo S (w'.setCell ⟨ge, i * 2 + 1, none⟩ (.int .i64 y)) a b c2 c4 c5 c6 c7 g cap cur e fe' { p with exts := p.exts.set i ((nth p.exts i).1, y) } := by
 obtain ⟨ge, e6, cur6, ce, f, fr, ecs, hv, hh, hsz, hC, hO, hgF, hgf, hff, hfr, K⟩ := h.ext.1.lensAt hi
 obtain ⟨⟨rfl, hF1, hF2⟩, rfl⟩ := hO
 have hgs := h.ext.2 ge hgF
 have u0 := hC.c0
 have u1 := hC.c1
 rw [show Rd.k (Int × Int) = 2 from rfl] at u0 u1 hsz
 refine ⟨ge, ce, hv, ⟨u0, u1⟩, hF2, ⟨cur6, e6, hh⟩, hgs, fun w' y hy hw => ?_⟩
 have hh' := hw.at hh (fun h => h)
 have hset := heap_setCell_same w' ge (i * 2 + 1) _ _ (.int .i64 y) hh'
 have ks : Cg (fun x => x = ge) w' (w'.setCell ⟨ge, i * 2 + 1, none⟩ (.int .i64 y)) := Cg.set (Cg.refl _ w') _ _ rfl
 have kz : Cg (fun x => x = ge) wz (w'.setCell ⟨ge, i * 2 + 1, none⟩ (.int .i64 y)) := (hw.more fun x _ hx => hx.elim).trans ks
 have hcl : ∀ j, (w'.setCell ⟨ge, i * 2 + 1, none⟩ (.int .i64 y)).cell? ⟨ge, j, none⟩ = (cur6.setIfInBounds (i * 2 + 1) (.int .i64 y))[j]? := fun j => cell_of_row _ ge j _ _ _ hset
 obtain ⟨fe', k1, k2⟩ := K (w'.setCell ⟨ge, i * 2 + 1, none⟩ (.int .i64 y)) (cur6.setIfInBounds (i * 2 + 1) (.int .i64 y)) [.int .i64 (nth p.exts i).1, .int .i64 y] ((nth p.exts i).1, y) [] hset (by simp) (fun m hm => by
   rw [show Rd.k (Int × Int) = 2 from rfl] at hm
   rw [Array.getElem?_setIfInBounds_ne (by omega)]) (fun j u hu => by
   rw [show Rd.k (Int × Int) = 2 from rfl, hcl]
   match j, hu with
   | 0, hu =>
    have hu : Value.int .i64 (nth p.exts i).1 = u := by simpa using hu
    subst hu
    rw [Array.getElem?_setIfInBounds_ne (by omega)]
    rw [cell_of_row _ ge _ _ _ _ hh] at u0
    exact u0
   | 1, hu =>
    have hu : Value.int .i64 y = u := by simpa using hu
    subst hu
    rw [Array.getElem?_setIfInBounds_self_of_lt (by omega)]
   | j + 2, hu => simp at hu) ⟨⟨rfl, hF1, hy⟩, rfl⟩ (fun x hx => kz.block x (Ow.lt (α := List (Int × Int)) h.ext.1 x (hfr x hx).1) (hfr x hx).2.1) (fun x hx => by cases hx)
 have hsub : ∀ x ∈ fe', x ∈ fe := fun x hx => by
  rcases k2 x hx with h3 | h3 | h3
  ·rw [h3]; exact hgF
  ·cases h3
  ·exact (hfr x h3).1
 refine ⟨fe', kz.at h.row (fun e => hgs.2.2 e.symm), h.len, h.gne, fun j hj => ?_, ⟨k1, fun x hx => h.ext.2 x (hsub x hx)⟩, fun w2 hw2 v rs hv v6 es h6 => h.rest w2 ((kz.more fun x _ hx => .inr (.inr (hx ▸ hgF))).trans (hw2.more fun x _ hx => hx.imp id fun hx => hx.imp id fun hx => hsub x hx)) v rs hv v6 es h6⟩
 obtain ⟨es, f1, q1, q2, q3⟩ := h.els j hj
 exact ⟨es, f1, q1, Ow.kept q2 fun x hx => kz.block x (Ow.lt q2 x hx) (fun e => (q3 x hx).2.2.2 (e ▸ hgF)), fun x hx => ⟨(q3 x hx).1, (q3 x hx).2.1, (q3 x hx).2.2.1, fun hm => (q3 x hx).2.2.2 (hsub x hm)⟩⟩
end
theorem Lent.widen {lo : Nat} {S S' : Nat → Prop} {w2 w3 : World} {cs : List Value} {p : ProgD} (h : Lent lo S w2 cs p) (hw : Cg (fun _ => False) w2 w3) (hS : ∀ x, S' x → S x ∨ w2.heap.size ≤ x) : Lent lo S' w3 cs p := by
 obtain ⟨a, b, c2, c4, c5, c6, c7, g, cap, cur, e, fe, rfl, h1⟩ := h
 have hgl := block_lt h1.row
 refine ⟨a, b, c2, c4, c5, c6, c7, g, cap, cur, e, fe, rfl, hw.at h1.row (fun h => h), h1.len, ⟨h1.gne.1, fun k => (hS g k).elim h1.gne.2 (fun k => by omega)⟩, fun i hi => ?_, ⟨Ow.kept (α := List (Int × Int)) h1.ext.1 fun x hx => hw.block x (Ow.lt (α := List (Int × Int)) h1.ext.1 x hx) (fun h => h), fun x hx => ⟨(h1.ext.2 x hx).1, fun k => (hS x k).elim (h1.ext.2 x hx).2.1 (fun k => by have := Ow.lt (α := List (Int × Int)) h1.ext.1 x hx; omega), (h1.ext.2 x hx).2.2⟩⟩, fun w4 hw4 => h1.rest w4 (hw.join hw4 (fun x _ hx => hx.elim) fun x hx hT => ?_)⟩
 ·obtain ⟨ecs, f, k1, k2, k3⟩ := h1.els i hi
  refine ⟨ecs, f, k1, Ow.kept k2 fun x hx => hw.block x (Ow.lt k2 x hx) (fun h => h), fun x hx => ⟨(k3 x hx).1, fun k => (hS x k).elim (k3 x hx).2.1 (fun k => by have := Ow.lt k2 x hx; omega), (k3 x hx).2.2⟩⟩
 ·rcases hT with hT | hT
  ·exact (hS x hT).elim .inl fun k => by omega
  ·exact .inr hT


structure PD (w : World) (c N lo G : Nat) (wz : World) (bx : List Value) (p : ProgD) : Prop where
 res : wz.heap[w.heap.size]? = some (.cells zP.toArray 30 (0, 0))
 box : wz.heap[G]? = some (.cells bx.toArray 30 (0, 0))
 lent : Lent lo (fun x => x < lo ∨ x = G) wz bx p
 wee : Wee p
 lt : w.heap.size < lo ∧ lo ≤ G
 cur : Cur wz c N
 cg : Cg (New c w) w wz
section
variable {w wz w2 : World} {c N lo G : Nat} {bx : List Value} {p p' : ProgD}
theorem PD.to {a b c2 c4 c5 c6 c7 : Value} {g cap : Nat} {cur' : Array Value} {e' : TypeId} {fe' : List Nat} (h : PD w c N lo G wz [a, .slice (some ⟨g, 0, none⟩) p.rules.length cap, c2, b, c4, c5, c6, c7] p) (hc : c < w.heap.size)
  (hw : Cg (fun x => lo ≤ x ∧ x ≠ G) wz w2) (hL : LentAt lo (fun x => x < lo ∨ x = G) w2 a b c2 c4 c5 c6 c7 g cap cur' e' fe' p') (hl : p'.rules.length = p.rules.length) (hwee : Wee p') :
  PD w c N lo G w2 [a, .slice (some ⟨g, 0, none⟩) p.rules.length cap, c2, b, c4, c5, c6, c7] p' := by
 have hlt := h.lt
 have k := hL.lent
 rw [hl] at k
 exact ⟨hw.at h.res (by omega), hw.at h.box (by omega), k, hwee, hlt, h.cur.cg (hw.more fun x _ hx => by omega), h.cg.trans (hw.more fun x _ hx => .inr (by omega))⟩
theorem PD.drew (h : PD w c N lo G wz bx p) : PD w c N lo G wz.drew bx p := by
 have k := fun S => (Cg.refl S wz).drew
 exact ⟨(k (fun _ => False)).at h.res (fun h => h), (k (fun _ => False)).at h.box (fun h => h), h.lent.cg (k _), h.wee, h.lt, h.cur.cg (k _), h.cg.trans (k _)⟩
end
theorem wee_rule {p : ProgD} {k : Nat} {y : RuleD} (h : Wee p) (hy : y.heads.length ≤ 40 ∧ y.body.length ≤ 40) : Wee { p with rules := p.rules.set k y } := by
 unfold Wee
 refine ⟨by rw [List.length_set]; exact h.1, fun r hr => ?_⟩
 rcases List.mem_or_eq_of_mem_set hr with hr | rfl
 ·exact h.2 r hr
 ·exact hy
theorem run_append_ints {w : World} {B : Nat} {v src : Value} {xs ys : List Int} (hown : OwnI B w v xs) (hr : RdL w [src] ys) (hnone : ∀ n c, src = .slice none n c → c = 0) (hl : xs.length + ys.length ≤ 1000000) (hB : B ≤ w.heap.size) :
  ∃ v' w', (Builtin.append_ #[26, 26] 26 #[v, src]).run Tryz.prog w = .ok v' w' ∧ OwnI B w' v' (xs ++ ys) ∧ Below B w w' ∧ w.grownBy w' v.ownBlock := by
 obtain ⟨i0, hi, hz0, hz1, hz2⟩ := info_parts info_int
 obtain ⟨ad, c, rfl, _, hrow⟩ := hr.sl
 have hF := hown.flat
 cases ad with
 | none =>
  have hn : ys = [] := by
   cases ys with
   | nil => rfl
   | cons y r => obtain ⟨b, off, _, ha, _⟩ := hrow.2 0 (by simp); cases ha
  subst hn
  obtain rfl := hnone _ _ rfl
  have hrun := run_append_owned_none (P := Tryz.prog) (w := w) B 26 26 3 i0 1 Tryz.underlying26 hi v xs.length _ hown.1
  exact ⟨v, w, hrun, by rw [List.append_nil]; exact hown, Below.refl _ _, World.grownBy.refl w _⟩
 | some ad =>
  have hnews : ∀ j u, (ys.map (Value.int .i64))[j]? = some u → w.cell? (ad.add j) = some u := fun j u hu => by
   by_cases hne : 0 < ys.length
   ·obtain ⟨b, off, ha, hc⟩ := hrow.base hne
    cases ha
    have hj : j < ys.length := by have := (List.getElem?_eq_some_iff.1 hu).1; rwa [List.length_map] at this
    obtain ⟨cs, h1, rfl, _⟩ := hc j hj
    have h2 := h1.c0
    rw [show Rd.k Int = 1 from rfl, Nat.mul_one] at h2
    rw [List.getElem?_map, List.getElem?_eq_getElem hj] at hu
    have hu : Value.int .i64 ys[j] = u := by simpa using hu
    subst hu
    rw [← nth_eq hj]
    unfold Addr.add
    by_cases h0 : j = 0
    ·subst h0; simpa using h2
    ·rw [if_neg h0]; exact h2
   ·have : ys = [] := by cases ys <;> simp_all
    subst this
    simp at hu
  obtain ⟨v', w', r1, r2, r3, _, _⟩ := run_append_own_at (P := Tryz.prog) (w := w) B 26 26 3 i0 (.int .i64 0) 1 8 Tryz.underlying26 hi hz0 hz1 hz2 rfl (by decide) v xs.length _ hown.1 ad ys.length c (ys.map (Value.int .i64)) (by simp) hnews (by intro u hu; obtain ⟨n, _, rfl⟩ := List.mem_map.1 hu; rfl) (by unfold maxLen; omega) (by omega) hB
  refine ⟨v', w', r1, ⟨?_, ?_⟩, (Below.refl _ _).grown r3 hB fun k hk => (hown.1.lt k hk).1, r3⟩
  ·rw [List.length_append, List.map_append]; exact r2
  ·have h1 := hown.2
   have h2 := rd_ints hr
   exact ⟨by rw [List.length_append]; omega, fun n hn => (List.mem_append.1 hn).elim (h1.2 n) (h2 n)⟩
theorem once {P Q : Prop} (h : P → Q) (key : P) : Q := h key
theorem rd_take {w : World} {ah : Option Addr} {n ch m : Nat} {xs : List Int} (h : RdL w [.slice ah n ch] xs) (hm : m ≤ xs.length) : RdL w [.slice ah m ch] (xs.take m) := by
 obtain ⟨a, c, e, h1, h2, h3, h4⟩ := h
 simp only [List.cons.injEq, and_true, Value.slice.injEq] at e
 obtain ⟨rfl, rfl, rfl⟩ := e
 have hlen : (xs.take m).length = m := by rw [List.length_take]; omega
 refine ⟨ah, ch, by rw [hlen], by omega, h2, by omega, fun i hi => ?_⟩
 obtain ⟨b, off, cs, k1, k2, k3⟩ := h4 i (by omega)
 refine ⟨b, off, cs, k1, k2, ?_⟩
 have : nth (xs.take m) i = nth xs i := by
  unfold nth
  rw [List.getD_eq_getElem?_getD, List.getD_eq_getElem?_getD, List.getElem?_take_of_lt (by omega)]
 rw [this]; exact k3
theorem PD.pick {w wz w2 : World} {c N N' lo G : Nat} {bx : List Value} {p : ProgD} (h : PD w c N lo G wz bx p) (hc : c < w.heap.size) (hw : Wrote c wz w2) (hcur : Cur w2 c N') : PD w c N' lo G w2 bx p := by
 have k := Cg.wrote (S := fun g => g = c) hw rfl
 have hl := h.lt
 exact ⟨k.at h.res (by omega), k.at h.box (by omega), h.lent.cg (k.more fun x _ hx => .inl (by omega)), h.wee, h.lt, hcur, h.cg.trans (Cg.wrote hw (.inl rfl))⟩
set_option maxHeartbeats 40000000 in
theorem plainProg_calls (HA : AnyOk) (c N : Nat) (w : World) (h : Cur w c N) (hN : N ≤ 50000) : Calls Tryz.prog 111 #[.pointer (some ⟨c, 0, none⟩)] w (AnyPost w c (N + 6100)) := by
 have hcw := h.lt
 have hz0 := alloc_block w zP.toArray 30
 have h1 := h.kept ((Below.refl w.heap.size w).alloc (Nat.le_refl _) (.cells zP.toArray 30))
 go_enter Tryz.func111, Tryz.ntmps111
 go_wp2_with fail
 refine (HA c N _ h1 (by omega)).mono ?_
 rintro e w2 ⟨cs, p, rfl, hL, hwee, c2, k2⟩
 have hz2 := k2.size
 rw [World.size_alloc] at hL hz2
 obtain ⟨x0, x1, x2, x3, x4, x5, x6, x7, rfl⟩ := list8 (Rd.len hL.rd)
 have l1 := Rd.one hL.rd
 have st0 := sto Tryz.prog (l1 x0 (by simp))
 have st1 := sto Tryz.prog (l1 x1 (by simp))
 have st2 := sto Tryz.prog (l1 x2 (by simp))
 have st3 := sto Tryz.prog (l1 x3 (by simp))
 have st4 := sto Tryz.prog (l1 x4 (by simp))
 have st5 := sto Tryz.prog (l1 x5 (by simp))
 have st6 := sto Tryz.prog (l1 x6 (by simp))
 have st7 := sto Tryz.prog (l1 x7 (by simp))
 have kc := Cg.wrote (S := fun x => x = c) k2 rfl
 have hr2 := kc.at hz0 (by omega)
 have hP : PD w c (N + 6000) (w.heap.size + 1) w2.heap.size (w2.alloc (.cells [x0, x1, x2, x3, x4, x5, x6, x7].toArray 30)) [x0, x1, x2, x3, x4, x5, x6, x7] p :=
  ⟨(Cg.alloc (Cg.refl (fun _ => False) w2) _).at hr2 (fun h => h), alloc_block w2 _ _, hL.widen (Cg.alloc (Cg.refl _ w2) _) (fun x hx => hx.imp id fun e => Nat.le_of_eq e.symm), hwee, ⟨by omega, hz2⟩, c2.kept ((Below.refl w2.heap.size w2).alloc (Nat.le_refl _) _), (((Cg.refl (New c w) w).alloc _).trans (kc.more fun x _ hx => .inl hx)).alloc _⟩
 go_upto_region 2 with fail
 obtain ⟨G, hG⟩ : ∃ G, G = w2.heap.size := ⟨_, rfl⟩
 rw [← hG] at hP
 rw [← hG]
 generalize w2.alloc _ = wb at *
 clear hG st0 st1 st2 st3 st4 st5 st6 st7 l1 hL hr2 k2 c2 kc hz0 h1
 go_wp2_with fail
 refine (pick_calls c (N + 6000) 5 _ hP.cur (by omega) ⟨by omega, by omega⟩).mono ?_
 rintro e w4 ⟨r0, ⟨hr0, hr1, _⟩, rfl, c4, k4⟩
 have hP4 := hP.pick hcw k4 c4
 clear hP k4 c4 hr1
 by_cases hr : 0 < r0
 ·obtain ⟨n0, hn0⟩ : ∃ n0, p.rules.length = n0 := ⟨_, rfl⟩
  replace hn0 := Lib.hid hn0
  go_wp2_with fail
  go_loopw [4] (fun i wr => ∃ (k : Nat) (bx : List Value) (q : ProgD), k ≤ n0 ∧ i = .int .i64 (k : Int) ∧ Hid (q.rules.length = n0) ∧ PD w c (N + 6001) (w.heap.size + 1) G wr bx q) (fun i _ => n0 - (intOf i).toNat)
  case atStart => exact ⟨0, _, p, Nat.zero_le _, rfl, hn0, hP4⟩
  case round =>
   clear hP4 hn0
   obtain ⟨k, bx, q, hk, rfl, hn, hP⟩ := hrel
   obtain ⟨bx0, bx1, bx2, bx3, bx4, bx5, bx6, bx7, rfl⟩ := list8 (Rd.len hP.lent.rd)
   obtain ⟨gq, capq, curq, eq, feq, rfl, hL⟩ := hP.lent.at
   have hlo := hP.lt
   obtain ⟨y0, y1, y2, y3, y4, y5, y6, y7⟩ := cells8 (box_cells hP.box)
   have hgl := block_lt hL.row
   have hGl := block_lt hP.box
   have hgG : gq ≠ G := fun e => hL.gne.2 (.inr e)
   have hglo := hL.gne.1
   rw [hn.out] at y1
   by_cases hlt : k < n0
   ·have hkq : k < q.rules.length := by rw [hn.out]; exact hlt
    have hki : (k : Int) < (n0 : Int) := by omega
    obtain ⟨ecs, f, e1, hO, hf⟩ := hL.els k hkq
    have hec : ecs.length = 5 := Rd.len (Ow.rd hO)
    have hw40 := hP.wee.2 _ (nth_mem hkq)
    have hwl := hP.wee.1
    rw [hn.out] at hwl
    obtain ⟨c1, c4, f1, f2, rfl, hbd, oh, ob, rfl, hnd⟩ := hO
    obtain ⟨ah, ch, rfl⟩ := owL_form oh
    have u0 : wr.cell? ⟨gq, k * 5, none⟩ = some (.bool (nth q.rules k).choice) := (cell_of_row wr gq _ _ _ _ hL.row).trans (e1 0 _ rfl)
    have hsz : k * 5 + 5 ≤ curq.size := by have := hL.len; have h9 := mul_room (K := 5) hkq; have := Nat.mul_le_mul_right 5 this.1; omega
    have xg := fun j => frozen_of_row wr gq j _ _ hL.row
    obtain ⟨r, hre⟩ : ∃ r, nth q.rules k = r := ⟨_, rfl⟩
    rw [hre] at e1 hec hw40 hbd oh ob u0
    replace hre := Lib.hid hre
    cases hch : r.choice
    ·rw [hch] at u0
     clear hch
     go_wp2
     go_roundw
     case rel => exact ⟨k + 1, _, q, by omega, by go_num, hn, hP⟩
     case measure => simp [intOf]; omega
    ·rw [hch] at u0
     obtain ⟨m9, hm9⟩ : ∃ m9, m9 = min 1 r.heads.length := ⟨_, rfl⟩
     have hm9l : m9 ≤ r.heads.length := by omega
     have hmi : min (1 : Int) (r.heads.length : Int) = (m9 : Int) := by omega
     have hmin : (if (r.heads.length : Int) < 1 then (r.heads.length : Int) else 1) = (m9 : Int) := by split <;> omega
     have hch9 : r.heads.length ≤ ch := by
      obtain ⟨_, c9, e9, h9, _⟩ := Ow.rd (α := List Int) oh
      simp only [List.cons.injEq, and_true, Value.slice.injEq] at e9
      obtain ⟨_, _, rfl⟩ := e9
      exact h9
     have hm9d : m9 ≤ ch := by omega
     have hm9c : (m9 : Int) ≤ (ch : Int) := by omega
     clear hm9
     have hnone : ∀ n c, Value.slice ah m9 ch = .slice none n c → c = 0 := fun n c e => by
      injection e with ea _ ec
      obtain ⟨a9, c9, e9, _, _, h9⟩ := oh
      simp only [List.cons.injEq, and_true, Value.slice.injEq, true_and] at e9
      obtain ⟨rfl, rfl⟩ := e9
      rcases h9 with ⟨_, _, h9⟩ | ⟨g9, _, _, _, h9, _⟩
      ·omega
      ·rw [h9] at ea; cases ea
     have hO1 : Ow.O wr ([.bool r.choice, .slice ah r.heads.length ch, .bool r.weight, .int .i64 r.bound, c4].set 0 (.bool false)) { r with choice := false } (f1 ++ f2) := ⟨_, c4, f1, f2, rfl, hbd, oh, ob, rfl, hnd⟩
     have hL1 := hL.set hkq (m := 0) (by omega) e1 hec (Cg.refl _ wr) hO1 hf
     rw [Nat.add_zero] at hL1
     have k1 : Cg (fun x => x = gq) wr (wr.setCell ⟨gq, k * 5, none⟩ (.bool false)) := Cg.set (Cg.refl _ wr) _ _ rfl
     have hb1 := k1.at hP.box (fun e => hgG e.symm)
     have hgl1 : gq < (wr.setCell ⟨gq, k * 5, none⟩ (.bool false)).heap.size := Nat.lt_of_lt_of_le hgl k1.size
     have hGl1 : G < (wr.setCell ⟨gq, k * 5, none⟩ (.bool false)).heap.size := Nat.lt_of_lt_of_le hGl k1.size
     go_upto_region 8 with fail
     generalize wr.setCell ⟨gq, k * 5, none⟩ (.bool false) = w1 at *
     clear y0 y1 y2 y3 y4 y5 y6 y7 u0 xg
     have xg := fun j => frozen_of_row w1 gq j _ _ hL1.row
     have e2 : ∀ (j : Nat) (u : Value), ([.bool false, .slice ah r.heads.length ch, .bool r.weight, .int .i64 r.bound, c4] : List Value)[j]? = some u → (curq.setIfInBounds (k * 5) (.bool false))[k * 5 + j]? = some u := fun j u hu => by
      match j, hu with
      | 0, hu =>
       have hu : Value.bool false = u := by simpa using hu
       subst hu
       rw [Nat.add_zero, Array.getElem?_setIfInBounds_self_of_lt (by omega)]
      | j + 1, hu =>
       rw [Array.getElem?_setIfInBounds_ne (by omega)]
       exact e1 (j + 1) u hu
     have u1 : w1.cell? ⟨gq, k * 5 + 1, none⟩ = some (.slice ah r.heads.length ch) := (cell_of_row w1 gq _ _ _ _ hL1.row).trans (e2 1 _ rfl)
     have hk1f : ∀ x ∈ f1 ++ f2, w1.heap[x]? = wr.heap[x]? := fun x hx => k1.block x (by
      rcases List.mem_append.1 hx with hx | hx
      ·exact Ow.lt (α := List Int) oh x hx
      ·exact Ow.lt (α := List (Int × Int)) ob x hx) (hf x hx).2.2.1
     have kT : Cg (fun _ => False) w1 (w1.drew.alloc (.cells #[] 3)) := ((Cg.refl _ w1).drew).alloc _
     have oh1 : OwL (α := Int) w1 [.slice ah r.heads.length ch] r.heads f1 := Ow.kept (α := List Int) oh fun x hx => hk1f x (List.mem_append_left _ hx)
     have ob1 : OwL (α := Int × Int) w1 [c4] r.body f2 := Ow.kept (α := List (Int × Int)) ob fun x hx => hk1f x (List.mem_append_right _ hx)
     have hsrc : RdL (α := Int) (w1.drew.alloc (.cells #[] 3)) [.slice ah r.heads.length ch] r.heads := (Ow.rd (α := List Int) (Ow.kept (α := List Int) oh1 fun x hx => kT.block x (Ow.lt (α := List Int) oh1 x hx) (fun h => h)))
     obtain ⟨v8, w8, r8, o8, b8, g8⟩ := run_append_ints (w := w1.drew.alloc (.cells #[] 3)) (B := w1.heap.size) (OwnI.new w1.drew w1.heap.size (Nat.le_refl _)) (rd_take hsrc hm9l) hnone (by rw [List.length_take]; simp; omega) (by show w1.heap.size ≤ (w1.drew.alloc _).heap.size; simp)
     rw [List.nil_append] at o8
     have hT1 : w1.heap.size < (w1.drew.alloc (.cells #[] 3)).heap.size := by show w1.heap.size < (w1.drew.alloc _).heap.size; simp
     have k8 : Cg (fun _ => False) w1 w8 := by
      refine ⟨b8.os.trans kT.os, b8.tape.trans kT.tape, b8.output.trans kT.output, Nat.le_trans kT.size b8.size, fun x hx _ => ?_⟩
      exact (b8.block x hx).trans (kT.block x hx (fun h => h))
     obtain ⟨f9, o9, hf9⟩ := o8.own
     obtain ⟨a9, q9, rfl⟩ := owL_form o9
     have hlt9 : (r.heads.take m9).length = m9 := by rw [List.length_take]; omega
     have ob8 : OwL (α := Int × Int) w8 [c4] r.body f2 := Ow.kept (α := List (Int × Int)) ob1 fun x hx => k8.block x (Ow.lt (α := List (Int × Int)) ob1 x hx) (fun h => h)
     have hd92 : ∀ x ∈ f9, ∀ z ∈ f2, x ≠ z := fun x hx z hz e => by
      have h1 := hf9 x hx
      have h2 := Ow.lt (α := List (Int × Int)) ob1 z hz
      omega
     have hO2 : Ow.O w8 ([.bool false, .slice ah r.heads.length ch, .bool r.weight, .int .i64 r.bound, c4].set 1 (.slice a9 (r.heads.take m9).length q9)) { r with choice := false, heads := r.heads.take m9 } (f9 ++ f2) :=
      ⟨_, c4, f9, f2, rfl, hbd, o9, ob8, rfl, List.nodup_append.2 ⟨Ow.nodup (α := List Int) o9, (List.nodup_append.1 hnd).2.1, hd92⟩⟩
     have hkq2 : k < ({ q with rules := q.rules.set k { r with choice := false } } : ProgD).rules.length := by show k < (q.rules.set k _).length; rw [List.length_set]; exact hkq
     have hloG := hP.lt.2
     have hsz8 := k8.size
     have hL2 := hL1.set hkq2 (m := 1) (by omega) e2 rfl k8 hO2 (fun x hx => by
      rcases List.mem_append.1 hx with hx | hx
      ·have h1 := hf9 x hx
       refine ⟨by omega, ?_, by omega, fun hm => ?_⟩
       ·rintro (e | e) <;> omega
       ·have := Ow.lt (α := List (Int × Int)) hL1.ext.1 x hm; omega
      ·exact hf x (List.mem_append_right _ hx))
     have hlen9 : ((q.rules.set k { r with choice := false }).set k { r with choice := false, heads := r.heads.take m9 }).length = q.rules.length := by rw [List.length_set, List.length_set]
     have kf : Cg (fun x => w.heap.size + 1 ≤ x ∧ x ≠ G) wr (w8.setCell ⟨gq, k * 5 + 1, none⟩ (.slice a9 (r.heads.take m9).length q9)) :=
      Cg.set ((k1.more fun x _ hx => by rw [hx]; exact ⟨hglo, hgG⟩).trans (k8.more fun x _ hx => hx.elim)) _ _ ⟨hglo, hgG⟩
     have P9 := Lib.hid (hP.to hcw kf hL2 hlen9 (wee_rule (wee_rule hP.wee (y := { r with choice := false }) hw40) (y := { r with choice := false, heads := r.heads.take m9 }) ⟨by show (r.heads.take m9).length ≤ 40; omega, hw40.2⟩))
     have hn9 : Hid (((q.rules.set k { r with choice := false }).set k { r with choice := false, heads := r.heads.take m9 }).length = n0) := by show _ = _; rw [hlen9]; exact hn.out
     rw [hn.out] at P9 hb1
     rw [hlt9] at r8 P9
     have yG : w1.cell? ⟨G, 1, none⟩ = some (.slice (some ⟨gq, 0, none⟩) n0 capq) := (cells8 (box_cells hb1)).2.1
     have hb8 := k8.at hb1 (fun h => h)
     have s8 : w8.cell? ⟨G, 1, none⟩ = some (.slice (some ⟨gq, 0, none⟩) n0 capq) := (cells8 (box_cells hb8)).2.1
     have sT : World.cell? (w1.drew.alloc (.cells #[] 3)) ⟨G, 1, none⟩ = some (.slice (some ⟨gq, 0, none⟩) n0 capq) := (cells8 (box_cells (kT.at hb1 (fun h => h)))).2.1
     have s9 : World.cell? (w8.setCell ⟨gq, k * 5 + 1, none⟩ (.slice a9 m9 q9)) ⟨G, 1, none⟩ = some (.slice (some ⟨gq, 0, none⟩) n0 capq) := (cells8 (box_cells ((Cg.set (S := fun x => x = gq) (Cg.refl _ w8) (g := gq) (k * 5 + 1) (.slice a9 m9 q9) rfl).at hb8 (fun e => hgG e.symm)))).2.1
     have row8 := k8.at hL1.row (fun h => h)
     have xg8 := fun j => frozen_of_row w8 gq j _ _ row8
     have c8 : w8.cell? ⟨gq, k * 5 + 1, none⟩ = some (.slice ah r.heads.length ch) := (cell_of_row w8 gq _ _ _ _ row8).trans (e2 1 _ rfl)
     clear hL1 hL2 hO1 hO2 oh oh1 ob ob1 ob8 o9 o8 hsrc e1 e2 hf hf9 hd92 hk1f kf g8 b8 hnd hbd hec hlen9 hb1 hb8 row8 k8 kT hP hL hnone
     refine wp_region_held_drew (S := fun wo => wo.cell? ⟨G, 1, none⟩ = some (.slice (some ⟨gq, 0, none⟩) n0 capq)) (by kernel_rfl) yG (fun hHeld => ?_)
     refine tkY 0 (.pointer (some ⟨G, 1, none⟩)) 29 rfl rfl (fun w' hw' => ?_) hHeld ?_
     ·go_simp
     try simp only [Act.put, put1, put2, put3]
     refine tkY 1 (.slice (some ⟨gq, 0, none⟩) n0 capq) 30 rfl rfl (fun w' hw' => ?_) hHeld ?_
     ·go_simp
     try simp only [Act.put, put1, put2, put3]
     refine tkY 2 (.int .i64 (k : Int)) 31 rfl rfl (fun w' hw' => ?_) hHeld ?_
     ·go_simp
     try simp only [Act.put, put1, put2, put3]
     refine tkY 4 (.pointer (some ⟨G, 1, none⟩)) 33 rfl rfl (fun w' hw' => ?_) hHeld ?_
     ·go_simp
     try simp only [Act.put, put1, put2, put3]
     refine tkY 5 (.slice (some ⟨gq, 0, none⟩) n0 capq) 34 rfl rfl (fun w' hw' => ?_) hHeld ?_
     ·go_simp
     try simp only [Act.put, put1, put2, put3]
     refine tkY 6 (.int .i64 (k : Int)) 35 rfl rfl (fun w' hw' => ?_) hHeld ?_
     ·go_simp
     try simp only [Act.put, put1, put2, put3]
     refine tkY 7 (.pointer (some ⟨gq, k * 5, none⟩)) 36 rfl rfl (fun w' hw' => ?_) hHeld ?_
     ·go_simp
     try simp only [Act.put, put1, put2, put3]
     refine tkY 8 (.pointer (some ⟨gq, k * 5 + 1, none⟩)) 37 rfl rfl (fun w' hw' => ?_) hHeld ?_
     ·go_simp
     try simp only [Act.put, put1, put2, put3]
     refine tkY 10 (.pointer (some ⟨G, 1, none⟩)) 39 rfl rfl (fun w' hw' => ?_) hHeld ?_
     ·go_simp
     try simp only [Act.put, put1, put2, put3]
     refine tkY 11 (.slice (some ⟨gq, 0, none⟩) n0 capq) 40 rfl rfl (fun w' hw' => ?_) hHeld ?_
     ·go_simp
     try simp only [Act.put, put1, put2, put3]
     refine tkY 12 (.int .i64 (k : Int)) 41 rfl rfl (fun w' hw' => ?_) hHeld ?_
     ·go_simp
     try simp only [Act.put, put1, put2, put3]
     refine tkY 13 (.pointer (some ⟨gq, k * 5, none⟩)) 42 rfl rfl (fun w' hw' => ?_) hHeld ?_
     ·go_simp
     try simp only [Act.put, put1, put2, put3]
     refine tkY 14 (.pointer (some ⟨gq, k * 5 + 1, none⟩)) 43 rfl rfl (fun w' hw' => ?_) hHeld ?_
     ·go_simp
     try simp only [Act.put, put1, put2, put3]
     apply once
     case h =>
      intro key
      refine wpAnyH_ready (rs := [3, 9, 15]) (by kernel_rfl) (by simp) ?_
      refine AllReadyH.cons rfl (fun K hK => ?_) (AllReadyH.cons rfl (fun K hK => ?_) (AllReadyH.cons rfl (fun K hK => ?_) AllReadyH.nil))
      ·skip
       go_simp
       refine hK.out _ _ (sT) (fun hHeld => ?_)
       clear hK K
       try simp only [Act.put, put1, put2, put3]
       refine wpAnyH_ready (rs := [9, 15]) (by kernel_rfl) (by simp) ?_
       refine AllReadyH.cons rfl (fun K hK => ?_) (AllReadyH.cons rfl (fun K hK => ?_) AllReadyH.nil)
       ·skip
        go_simp
        refine hK.out _ _ (hHeld) (fun hHeld => ?_)
        clear hK K
        try simp only [Act.put, put1, put2, put3]
        refine wpAnyH_ready (rs := [15]) (by kernel_rfl) (by simp) ?_
        refine AllReadyH.cons rfl (fun K hK => ?_) AllReadyH.nil
        go_simp
        refine hK.out _ _ (hHeld) (fun hHeld => ?_)
        clear hK K
        try simp only [Act.put, put1, put2, put3]
        refine tkY 16 (.int .i64 (r.heads.length : Int)) 45 rfl rfl (fun w' hw' => ?_) hHeld ?_
        ·go_simp
        try simp only [Act.put, put1, put2, put3]
        refine wpAnyH_ready (rs := [17]) (by kernel_rfl) (by simp) ?_
        refine AllReadyH.cons rfl (fun K hK => ?_) AllReadyH.nil
        go_simp
        refine hK.out _ _ (hHeld) (fun hHeld => ?_)
        clear hK K
        try simp only [Act.put, put1, put2, put3]
        refine tkY 18 (.slice ah m9 ch) 47 rfl rfl (fun w' hw' => ?_) hHeld ?_
        ·go_simp
        try simp only [Act.put, put1, put2, put3]
        exact key
       ·skip
        go_simp
        refine hK.out _ _ (hHeld) (fun hHeld => ?_)
        clear hK K
        try simp only [Act.put, put1, put2, put3]
        refine tkY 16 (.int .i64 (r.heads.length : Int)) 45 rfl rfl (fun w' hw' => ?_) hHeld ?_
        ·go_simp
        try simp only [Act.put, put1, put2, put3]
        refine wpAnyH_ready (rs := [9, 17]) (by kernel_rfl) (by simp) ?_
        refine AllReadyH.cons rfl (fun K hK => ?_) (AllReadyH.cons rfl (fun K hK => ?_) AllReadyH.nil)
        ·skip
         go_simp
         refine hK.out _ _ (hHeld) (fun hHeld => ?_)
         clear hK K
         try simp only [Act.put, put1, put2, put3]
         refine wpAnyH_ready (rs := [17]) (by kernel_rfl) (by simp) ?_
         refine AllReadyH.cons rfl (fun K hK => ?_) AllReadyH.nil
         go_simp
         refine hK.out _ _ (hHeld) (fun hHeld => ?_)
         clear hK K
         try simp only [Act.put, put1, put2, put3]
         refine tkY 18 (.slice ah m9 ch) 47 rfl rfl (fun w' hw' => ?_) hHeld ?_
         ·go_simp
         try simp only [Act.put, put1, put2, put3]
         exact key
        ·skip
         go_simp
         refine hK.out _ _ (hHeld) (fun hHeld => ?_)
         clear hK K
         try simp only [Act.put, put1, put2, put3]
         refine wpAnyH_ready (rs := [9]) (by kernel_rfl) (by simp) ?_
         refine AllReadyH.cons rfl (fun K hK => ?_) AllReadyH.nil
         go_simp
         refine hK.out _ _ (hHeld) (fun hHeld => ?_)
         clear hK K
         try simp only [Act.put, put1, put2, put3]
         refine tkY 18 (.slice ah m9 ch) 47 rfl rfl (fun w' hw' => ?_) hHeld ?_
         ·go_simp
         try simp only [Act.put, put1, put2, put3]
         exact key
      ·skip
       go_simp
       refine hK.out _ _ (hHeld) (fun hHeld => ?_)
       clear hK K
       try simp only [Act.put, put1, put2, put3]
       refine wpAnyH_ready (rs := [3, 15]) (by kernel_rfl) (by simp) ?_
       refine AllReadyH.cons rfl (fun K hK => ?_) (AllReadyH.cons rfl (fun K hK => ?_) AllReadyH.nil)
       ·skip
        go_simp
        refine hK.out _ _ (sT) (fun hHeld => ?_)
        clear hK K
        try simp only [Act.put, put1, put2, put3]
        refine wpAnyH_ready (rs := [15]) (by kernel_rfl) (by simp) ?_
        refine AllReadyH.cons rfl (fun K hK => ?_) AllReadyH.nil
        go_simp
        refine hK.out _ _ (hHeld) (fun hHeld => ?_)
        clear hK K
        try simp only [Act.put, put1, put2, put3]
        refine tkY 16 (.int .i64 (r.heads.length : Int)) 45 rfl rfl (fun w' hw' => ?_) hHeld ?_
        ·go_simp
        try simp only [Act.put, put1, put2, put3]
        refine wpAnyH_ready (rs := [17]) (by kernel_rfl) (by simp) ?_
        refine AllReadyH.cons rfl (fun K hK => ?_) AllReadyH.nil
        go_simp
        refine hK.out _ _ (hHeld) (fun hHeld => ?_)
        clear hK K
        try simp only [Act.put, put1, put2, put3]
        refine tkY 18 (.slice ah m9 ch) 47 rfl rfl (fun w' hw' => ?_) hHeld ?_
        ·go_simp
        try simp only [Act.put, put1, put2, put3]
        exact key
       ·skip
        go_simp
        refine hK.out _ _ (hHeld) (fun hHeld => ?_)
        clear hK K
        try simp only [Act.put, put1, put2, put3]
        refine tkY 16 (.int .i64 (r.heads.length : Int)) 45 rfl rfl (fun w' hw' => ?_) hHeld ?_
        ·go_simp
        try simp only [Act.put, put1, put2, put3]
        refine wpAnyH_ready (rs := [3, 17]) (by kernel_rfl) (by simp) ?_
        refine AllReadyH.cons rfl (fun K hK => ?_) (AllReadyH.cons rfl (fun K hK => ?_) AllReadyH.nil)
        ·skip
         go_simp
         refine hK.out _ _ (sT) (fun hHeld => ?_)
         clear hK K
         try simp only [Act.put, put1, put2, put3]
         refine wpAnyH_ready (rs := [17]) (by kernel_rfl) (by simp) ?_
         refine AllReadyH.cons rfl (fun K hK => ?_) AllReadyH.nil
         go_simp
         refine hK.out _ _ (hHeld) (fun hHeld => ?_)
         clear hK K
         try simp only [Act.put, put1, put2, put3]
         refine tkY 18 (.slice ah m9 ch) 47 rfl rfl (fun w' hw' => ?_) hHeld ?_
         ·go_simp
         try simp only [Act.put, put1, put2, put3]
         exact key
        ·skip
         go_simp
         refine hK.out _ _ (hHeld) (fun hHeld => ?_)
         clear hK K
         try simp only [Act.put, put1, put2, put3]
         refine tkY 18 (.slice ah m9 ch) 47 rfl rfl (fun w' hw' => ?_) hHeld ?_
         ·go_simp
         try simp only [Act.put, put1, put2, put3]
         refine wpAnyH_ready (rs := [3]) (by kernel_rfl) (by simp) ?_
         refine AllReadyH.cons rfl (fun K hK => ?_) AllReadyH.nil
         go_simp
         refine hK.out _ _ (sT) (fun hHeld => ?_)
         clear hK K
         try simp only [Act.put, put1, put2, put3]
         exact key
      ·skip
       go_simp
       refine hK.out _ _ (hHeld) (fun hHeld => ?_)
       clear hK K
       try simp only [Act.put, put1, put2, put3]
       refine tkY 16 (.int .i64 (r.heads.length : Int)) 45 rfl rfl (fun w' hw' => ?_) hHeld ?_
       ·go_simp
       try simp only [Act.put, put1, put2, put3]
       refine wpAnyH_ready (rs := [3, 9, 17]) (by kernel_rfl) (by simp) ?_
       refine AllReadyH.cons rfl (fun K hK => ?_) (AllReadyH.cons rfl (fun K hK => ?_) (AllReadyH.cons rfl (fun K hK => ?_) AllReadyH.nil))
       ·skip
        go_simp
        refine hK.out _ _ (sT) (fun hHeld => ?_)
        clear hK K
        try simp only [Act.put, put1, put2, put3]
        refine wpAnyH_ready (rs := [9, 17]) (by kernel_rfl) (by simp) ?_
        refine AllReadyH.cons rfl (fun K hK => ?_) (AllReadyH.cons rfl (fun K hK => ?_) AllReadyH.nil)
        ·skip
         go_simp
         refine hK.out _ _ (hHeld) (fun hHeld => ?_)
         clear hK K
         try simp only [Act.put, put1, put2, put3]
         refine wpAnyH_ready (rs := [17]) (by kernel_rfl) (by simp) ?_
         refine AllReadyH.cons rfl (fun K hK => ?_) AllReadyH.nil
         go_simp
         refine hK.out _ _ (hHeld) (fun hHeld => ?_)
         clear hK K
         try simp only [Act.put, put1, put2, put3]
         refine tkY 18 (.slice ah m9 ch) 47 rfl rfl (fun w' hw' => ?_) hHeld ?_
         ·go_simp
         try simp only [Act.put, put1, put2, put3]
         exact key
        ·skip
         go_simp
         refine hK.out _ _ (hHeld) (fun hHeld => ?_)
         clear hK K
         try simp only [Act.put, put1, put2, put3]
         refine wpAnyH_ready (rs := [9]) (by kernel_rfl) (by simp) ?_
         refine AllReadyH.cons rfl (fun K hK => ?_) AllReadyH.nil
         go_simp
         refine hK.out _ _ (hHeld) (fun hHeld => ?_)
         clear hK K
         try simp only [Act.put, put1, put2, put3]
         refine tkY 18 (.slice ah m9 ch) 47 rfl rfl (fun w' hw' => ?_) hHeld ?_
         ·go_simp
         try simp only [Act.put, put1, put2, put3]
         exact key
       ·skip
        go_simp
        refine hK.out _ _ (hHeld) (fun hHeld => ?_)
        clear hK K
        try simp only [Act.put, put1, put2, put3]
        refine wpAnyH_ready (rs := [3, 17]) (by kernel_rfl) (by simp) ?_
        refine AllReadyH.cons rfl (fun K hK => ?_) (AllReadyH.cons rfl (fun K hK => ?_) AllReadyH.nil)
        ·skip
         go_simp
         refine hK.out _ _ (sT) (fun hHeld => ?_)
         clear hK K
         try simp only [Act.put, put1, put2, put3]
         refine wpAnyH_ready (rs := [17]) (by kernel_rfl) (by simp) ?_
         refine AllReadyH.cons rfl (fun K hK => ?_) AllReadyH.nil
         go_simp
         refine hK.out _ _ (hHeld) (fun hHeld => ?_)
         clear hK K
         try simp only [Act.put, put1, put2, put3]
         refine tkY 18 (.slice ah m9 ch) 47 rfl rfl (fun w' hw' => ?_) hHeld ?_
         ·go_simp
         try simp only [Act.put, put1, put2, put3]
         exact key
        ·skip
         go_simp
         refine hK.out _ _ (hHeld) (fun hHeld => ?_)
         clear hK K
         try simp only [Act.put, put1, put2, put3]
         refine tkY 18 (.slice ah m9 ch) 47 rfl rfl (fun w' hw' => ?_) hHeld ?_
         ·go_simp
         try simp only [Act.put, put1, put2, put3]
         refine wpAnyH_ready (rs := [3]) (by kernel_rfl) (by simp) ?_
         refine AllReadyH.cons rfl (fun K hK => ?_) AllReadyH.nil
         go_simp
         refine hK.out _ _ (sT) (fun hHeld => ?_)
         clear hK K
         try simp only [Act.put, put1, put2, put3]
         exact key
       ·skip
        go_simp
        refine hK.out _ _ (hHeld) (fun hHeld => ?_)
        clear hK K
        try simp only [Act.put, put1, put2, put3]
        refine wpAnyH_ready (rs := [3, 9]) (by kernel_rfl) (by simp) ?_
        refine AllReadyH.cons rfl (fun K hK => ?_) (AllReadyH.cons rfl (fun K hK => ?_) AllReadyH.nil)
        ·skip
         go_simp
         refine hK.out _ _ (sT) (fun hHeld => ?_)
         clear hK K
         try simp only [Act.put, put1, put2, put3]
         refine wpAnyH_ready (rs := [9]) (by kernel_rfl) (by simp) ?_
         refine AllReadyH.cons rfl (fun K hK => ?_) AllReadyH.nil
         go_simp
         refine hK.out _ _ (hHeld) (fun hHeld => ?_)
         clear hK K
         try simp only [Act.put, put1, put2, put3]
         refine tkY 18 (.slice ah m9 ch) 47 rfl rfl (fun w' hw' => ?_) hHeld ?_
         ·go_simp
         try simp only [Act.put, put1, put2, put3]
         exact key
        ·skip
         go_simp
         refine hK.out _ _ (hHeld) (fun hHeld => ?_)
         clear hK K
         try simp only [Act.put, put1, put2, put3]
         refine tkY 18 (.slice ah m9 ch) 47 rfl rfl (fun w' hw' => ?_) hHeld ?_
         ·go_simp
         try simp only [Act.put, put1, put2, put3]
         refine wpAnyH_ready (rs := [3]) (by kernel_rfl) (by simp) ?_
         refine AllReadyH.cons rfl (fun K hK => ?_) AllReadyH.nil
         go_simp
         refine hK.out _ _ (sT) (fun hHeld => ?_)
         clear hK K
         try simp only [Act.put, put1, put2, put3]
         exact key
     case key =>
      refine wpAnyH_ready (rs := [19]) (by kernel_rfl) (by simp) ?_
      refine AllReadyH.cons rfl (fun K hK => ?_) AllReadyH.nil
      refine step_append_of rfl _ _ rfl rfl rfl r8 ?_
      refine hK.out _ _ (s8) (fun hHeld => ?_)
      clear hK K
      try simp only [Act.put, put1, put2, put3]
      refine tkY 20 (.pointer (some ⟨gq, k * 5, none⟩)) 49 rfl rfl (fun w' hw' => ?_) hHeld ?_
      ·go_simp
      try simp only [Act.put, put1, put2, put3]
      refine tkY 21 (.pointer (some ⟨gq, k * 5 + 1, none⟩)) 50 rfl rfl (fun w' hw' => ?_) hHeld ?_
      ·go_simp
      try simp only [Act.put, put1, put2, put3]
      refine wpAnyH_ready (rs := [22]) (by kernel_rfl) (by simp) ?_
      refine AllReadyH.cons rfl (fun K hK => ?_) AllReadyH.nil
      go_simp
      refine hK.out _ _ (s9) (fun hHeld => ?_)
      clear hK K
      try simp only [Act.put, put1, put2, put3]
      refine wpAnyH_done (by kernel_rfl) ?_ _
      go_wp2
      go_roundw
      case rel =>
       refine ⟨k + 1, _, _, by omega, by go_num, ?_, P9.out⟩
       exact hn9
      case measure => simp [intOf]; omega
   ·have hki : ¬ (k : Int) < (n0 : Int) := by omega
    obtain ⟨n1, hn1⟩ : ∃ n1, q.exts.length = n1 := ⟨_, rfl⟩
    replace hn1 := Lib.hid hn1
    go_wp2_with fail
    go_loopw [5] (fun i wr => ∃ (k : Nat) (bx : List Value) (q : ProgD), k ≤ n1 ∧ i = .int .i64 (k : Int) ∧ Hid (q.exts.length = n1) ∧ PD w c (N + 6001) (w.heap.size + 1) G wr bx q) (fun i _ => n1 - (intOf i).toNat)
    case atStart => exact ⟨0, _, q, Nat.zero_le _, rfl, hn1, hP⟩
    case round =>
     clear hP hn1 hL y0 y1 y2 y3 y4 y5 y6 y7 hgl hGl hgG hglo hki hlt hk hn hlo
     obtain ⟨k, bx, q, hk, rfl, hn, hP⟩ := hrel
     obtain ⟨bx0, bx1, bx2, bx3, bx4, bx5, bx6, bx7, rfl⟩ := list8 (Rd.len hP.lent.rd)
     obtain ⟨gq, capq, curq, eq, feq, rfl, hL⟩ := hP.lent.at
     have hlo := hP.lt
     obtain ⟨a6, c6, rfl⟩ := owL_form hL.ext.1
     obtain ⟨y0, y1, y2, y3, y4, y5, y6, y7⟩ := cells8 (box_cells hP.box)
     rw [hn.out] at y6
     by_cases hlt : k < n1
     ·have hki : (k : Int) < (n1 : Int) := by omega
      obtain ⟨ge, ce, hsl, ⟨u0, u1⟩, hfit, ⟨cur6, e6, hrow6⟩, hge, hset⟩ := hL.ext_at (i := k) (by rw [hn.out]; exact hlt)
      obtain ⟨_, _, _, _, _, h63, _⟩ := Ow.rd (α := List (Int × Int)) hL.ext.1
      rw [hn.out] at h63
      simp only [Value.slice.injEq, true_and] at hsl
      obtain ⟨rfl, rfl⟩ := hsl
      obtain ⟨x0, x1, hx⟩ : ∃ x0 x1, nth q.exts k = (x0, x1) := ⟨_, _, rfl⟩
      rw [hx] at u0 u1 hfit hset
      have hy : Fits (if 1 < x1 then x1 else 1) := by unfold Fits at *; split <;> omega
      obtain ⟨fe', hL2⟩ := hset wr (if 1 < x1 then x1 else 1) hy (Cg.refl _ wr)
      have kf : Cg (fun x => w.heap.size + 1 ≤ x ∧ x ≠ G) wr (wr.setCell ⟨ge, k * 2 + 1, none⟩ (.int .i64 (if 1 < x1 then x1 else 1))) :=
       Cg.set (Cg.refl _ wr) _ _ ⟨hge.1, fun e => hge.2.1 (.inr e)⟩
      have P9 := Lib.hid (hP.to hcw kf hL2 rfl hP.wee).drew
      have hn9 : Hid ((q.exts.set k (x0, if 1 < x1 then x1 else 1)).length = n1) := by show _ = _; rw [List.length_set]; exact hn.out
      have s9 : World.cell? (wr.setCell ⟨ge, k * 2 + 1, none⟩ (.int .i64 (if 1 < x1 then x1 else 1))).drew ⟨G, 6, none⟩ = some (.slice (some ⟨ge, 0, none⟩) q.exts.length c6) := (cells8 (box_cells P9.out.box)).2.2.2.2.2.2.1
      rw [hn.out] at s9
      have xg := fun j => frozen_of_row wr ge j _ _ hrow6
      have hgl := block_lt hrow6
      have hGl := block_lt hP.box
      clear hL hL2 hset hP kf hy
      go_upto_region 12 with fail
      refine wp_region_held_drew (S := fun wo => wo.cell? ⟨G, 6, none⟩ = some (.slice (some ⟨ge, 0, none⟩) n1 c6)) (by kernel_rfl) y6 (fun hHeld => ?_)
      refine tkY 0 (.pointer (some ⟨G, 6, none⟩)) 58 rfl rfl (fun w' hw' => ?_) hHeld ?_
      ·go_simp
      try simp only [Act.put, put1, put2, put3]
      refine tkY 1 (.slice (some ⟨ge, 0, none⟩) n1 c6) 59 rfl rfl (fun w' hw' => ?_) hHeld ?_
      ·go_simp
      try simp only [Act.put, put1, put2, put3]
      refine tkY 2 (.int .i64 (k : Int)) 60 rfl rfl (fun w' hw' => ?_) hHeld ?_
      ·go_simp
      try simp only [Act.put, put1, put2, put3]
      refine tkY 3 (.pointer (some ⟨G, 6, none⟩)) 61 rfl rfl (fun w' hw' => ?_) hHeld ?_
      ·go_simp
      try simp only [Act.put, put1, put2, put3]
      refine tkY 4 (.slice (some ⟨ge, 0, none⟩) n1 c6) 62 rfl rfl (fun w' hw' => ?_) hHeld ?_
      ·go_simp
      try simp only [Act.put, put1, put2, put3]
      refine tkY 5 (.int .i64 (k : Int)) 63 rfl rfl (fun w' hw' => ?_) hHeld ?_
      ·go_simp
      try simp only [Act.put, put1, put2, put3]
      refine tkY 6 (.pointer (some ⟨ge, k * 2, none⟩)) 64 rfl rfl (fun w' hw' => ?_) hHeld ?_
      ·go_simp
      try simp only [Act.put, put1, put2, put3]
      refine tkY 7 (.pointer (some ⟨ge, k * 2 + 1, none⟩)) 65 rfl rfl (fun w' hw' => ?_) hHeld ?_
      ·go_simp
      try simp only [Act.put, put1, put2, put3]
      refine wpAnyH_ready (rs := [8]) (by kernel_rfl) (by simp) ?_
      refine AllReadyH.cons rfl (fun K hK => ?_) AllReadyH.nil
      go_simp
      refine hK.out _ _ (hHeld) (fun hHeld => ?_)
      clear hK K
      try simp only [Act.put, put1, put2, put3]
      refine wpAnyH_ready (rs := [9]) (by kernel_rfl) (by simp) ?_
      refine AllReadyH.cons rfl (fun K hK => ?_) AllReadyH.nil
      go_simp
      refine hK.out _ _ (hHeld) (fun hHeld => ?_)
      clear hK K
      try simp only [Act.put, put1, put2, put3]
      refine tkY 10 (.pointer (some ⟨ge, k * 2, none⟩)) 68 rfl rfl (fun w' hw' => ?_) hHeld ?_
      ·go_simp
      try simp only [Act.put, put1, put2, put3]
      refine tkY 11 (.pointer (some ⟨ge, k * 2 + 1, none⟩)) 69 rfl rfl (fun w' hw' => ?_) hHeld ?_
      ·go_simp
      try simp only [Act.put, put1, put2, put3]
      refine wpAnyH_ready (rs := [12]) (by kernel_rfl) (by simp) ?_
      refine AllReadyH.cons rfl (fun K hK => ?_) AllReadyH.nil
      go_simp
      refine hK.out _ _ (s9) (fun hHeld => ?_)
      clear hK K
      try simp only [Act.put, put1, put2, put3]
      refine wpAnyH_done (by kernel_rfl) ?_ _
      go_wp2
      go_roundw
      case rel =>
       refine ⟨k + 1, _, _, by omega, by go_num, ?_, P9.out⟩
       exact hn9
      case measure => simp [intOf]; omega
     ·have hki : ¬ (k : Int) < (n1 : Int) := by omega
      have h3 := hP
      rw [hn.out] at h3
      clear hP y0 y1 y2 y3 y4 y5 y7 hL
      have hR3 := h3.lent.rd
      have l1 := Rd.one hR3
      obtain ⟨v0, v1, v2, v3, v4, v5, v6, v7⟩ := cells8 (box_cells h3.res)
      obtain ⟨w0, w1', w2', w3', w4', w5', w6', w7'⟩ := cells8 (box_cells h3.box)
      have vf := fun j => frozen_of_row wr w.heap.size j _ _ h3.res
      have st0 := sto Tryz.prog (l1 (bx0) (by simp))
      have st1 := sto Tryz.prog (l1 (.slice (some ⟨gq, 0, none⟩) q.rules.length capq) (by simp))
      have st2 := sto Tryz.prog (l1 (bx2) (by simp))
      have st3 := sto Tryz.prog (l1 (bx3) (by simp))
      have st4 := sto Tryz.prog (l1 (bx4) (by simp))
      have st5 := sto Tryz.prog (l1 (bx5) (by simp))
      have st6 := sto Tryz.prog (l1 (.slice a6 n1 c6) (by simp))
      have st7 := sto Tryz.prog (l1 (bx7) (by simp))
      have hk := fun u0 u1 u2 u3 u4 u5 u6 u7 => res_cg8 wr w.heap.size u0 u1 u2 u3 u4 u5 u6 u7
      have hlG := h3.lt
      have hln : (w.heap.size : Nat) < (wr).heap.size := block_lt h3.res
      have hLL := h3.lent
      have hWE := h3.wee
      have hC := h3.cur
      have hG := h3.cg
      go_wp2
      exact bodyPost_ret (v := .agg #[(bx0), (.slice (some ⟨gq, 0, none⟩) q.rules.length capq), (bx2), (bx3), (bx4), (bx5), (.slice a6 n1 c6), (bx7)]) (by first | (simp [results, Tryz.results111, go_sem, v0, v1, v2, v3, v4, v5, v6, v7]; done) | (simp [results, Tryz.results111, go_sem, v0, v1, v2, v3, v4, v5, v6, v7]; omega)) rfl
       ⟨[(bx0), (.slice (some ⟨gq, 0, none⟩) q.rules.length capq), (bx2), (bx3), (bx4), (bx5), (.slice a6 n1 c6), (bx7)], _, rfl, (hLL.cg ((hk _ _ _ _ _ _ _ _).more fun g _ hg => .inl (by omega))).weak (by omega) (fun x e => .inl (by omega)), hWE, (hC.cg ((hk _ _ _ _ _ _ _ _).more fun g _ hg => by omega)).mono (by omega), (hG.trans ((hk _ _ _ _ _ _ _ _).more fun g _ hg => .inr (by omega))).toWrote⟩
 ·have h3 := hP4
  have hR3 := h3.lent.rd
  have l1 := Rd.one hR3
  obtain ⟨v0, v1, v2, v3, v4, v5, v6, v7⟩ := cells8 (box_cells h3.res)
  obtain ⟨w0, w1', w2', w3', w4', w5', w6', w7'⟩ := cells8 (box_cells h3.box)
  have vf := fun j => frozen_of_row w4 w.heap.size j _ _ h3.res
  have st0 := sto Tryz.prog (l1 (x0) (by simp))
  have st1 := sto Tryz.prog (l1 (x1) (by simp))
  have st2 := sto Tryz.prog (l1 (x2) (by simp))
  have st3 := sto Tryz.prog (l1 (x3) (by simp))
  have st4 := sto Tryz.prog (l1 (x4) (by simp))
  have st5 := sto Tryz.prog (l1 (x5) (by simp))
  have st6 := sto Tryz.prog (l1 (x6) (by simp))
  have st7 := sto Tryz.prog (l1 (x7) (by simp))
  have hk := fun u0 u1 u2 u3 u4 u5 u6 u7 => res_cg8 w4 w.heap.size u0 u1 u2 u3 u4 u5 u6 u7
  have hlG := h3.lt
  have hln : (w.heap.size : Nat) < (w4).heap.size := block_lt h3.res
  have hLL := h3.lent
  have hWE := h3.wee
  have hC := h3.cur
  have hG := h3.cg
  go_wp2
  exact bodyPost_ret (v := .agg #[(x0), (x1), (x2), (x3), (x4), (x5), (x6), (x7)]) (by first | (simp [results, Tryz.results111, go_sem, v0, v1, v2, v3, v4, v5, v6, v7]; done) | (simp [results, Tryz.results111, go_sem, v0, v1, v2, v3, v4, v5, v6, v7]; omega)) rfl
   ⟨[(x0), (x1), (x2), (x3), (x4), (x5), (x6), (x7)], _, rfl, (hLL.cg ((hk _ _ _ _ _ _ _ _).more fun g _ hg => .inl (by omega))).weak (by omega) (fun x e => .inl (by omega)), hWE, (hC.cg ((hk _ _ _ _ _ _ _ _).more fun g _ hg => by omega)).mono (by omega), (hG.trans ((hk _ _ _ _ _ _ _ _).more fun g _ hg => .inr (by omega))).toWrote⟩

end Go.Proofs.YthfbnalgnnjbbaaGreat
