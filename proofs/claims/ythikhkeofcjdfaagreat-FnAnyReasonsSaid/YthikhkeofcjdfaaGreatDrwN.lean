/-
 What is drawn beside a program; programs drawn without Choice. No condition of its own.
-/
import Derived.Test.YthikhkeofcjdfaaGreatAny
import Derived.Test.YthikhkeofcjdfaaGreatAnsU
import Derived.Test.YthikhkeofcjdfaaGreatBody
import Derived.Deep.RegionHeld3
import Derived.Test.YthikhkeofcjdfaaGreatDraw
import Derived.Test.YthikhkeofcjdfaaGreatLent
import Derived.Laws.OwnMore
namespace Go.Proofs.YthikhkeofcjdfaaGreat
set_option linter.unusedVariables false
set_option linter.unusedSimpArgs false
open Go.RowKit
set_option maxRecDepth 100000

def AnyOk : Prop := ∀ (c N : Nat) (w : World), Cur w c N → N ≤ 100000 → Calls Tryz.prog 61 #[.pointer (some ⟨c, 0, none⟩)] w (AnyPost w c (N + 6000))

theorem own_elem {α : Type} [Ow α] {lo n cap : Nat} {w : World} {a : Option Addr} {xs : List α} (h : Own (α := List α) lo w [.slice a n cap] xs) {k : Nat} (hk : k < xs.length) :
  ∃ g ecs, a = some ⟨g, 0, none⟩ ∧ n = xs.length ∧ Cells w g (k * Rd.k α) ecs ∧ Own lo w ecs (nth xs k) := by
 obtain ⟨fp, ⟨a', cap', he, _, _, hrow⟩, hl⟩ := h
 simp only [List.cons.injEq, and_true, Value.slice.injEq] at he
 obtain ⟨rfl, rfl, rfl⟩ := he
 rcases hrow with ⟨rfl, _⟩ | ⟨g, e, cur, fps, rfl, hh, hcs, hfl, rfl, hnd, hx⟩
 ·simp at hk
 ·obtain ⟨ecs, hC, hO⟩ := hx k hk
  exact ⟨g, ecs, rfl, rfl, hC, _, hO, fun b hb => hl b (List.mem_cons_of_mem _ (mem_flat hb))⟩
theorem Own.wrote {α : Type} [Ow α] {lo c : Nat} {w w' : World} {cs : List Value} {x : α} (h : Own lo w cs x) (hw : Wrote c w w') (hc : c < lo) : Own lo w' cs x :=
 h.cg (Cg.wrote (S := fun g => g = c) hw rfl) fun g hg e => by omega
theorem Rd.wrote {α : Type} [Ow α] {lo c : Nat} {w w' : World} {cs : List Value} {x : α} (h : Own lo w cs x) (hw : Wrote c w w') (hc : c < lo) : Rd.R w' cs x := (h.wrote hw hc).rd

theorem Own.mono' {α : Type} [Ow α] {lo lo' : Nat} {w : World} {cs : List Value} {x : α} (h : Own lo w cs x) (hl : lo' ≤ lo) : Own lo' w cs x := by
 obtain ⟨fp, h1, h2⟩ := h
 exact ⟨fp, h1, fun g hg => Nat.le_trans hl (h2 g hg)⟩
theorem row_of_own {lo n cap : Nat} {w : World} {a : Option Addr} {xs : List Int} (h : Own lo w [.slice a n cap] xs) : Row w a xs := by
 obtain ⟨a', c', e, _, hr⟩ := h.rd.sl
 simp only [Value.slice.injEq] at e
 obtain ⟨rfl, _, _⟩ := e
 exact hr
theorem one_ints (w : World) {x : Int} (hx : Fits x) : Ints (w.alloc (.cells #[.int .i64 x] 3)) (some ⟨w.heap.size, 0, none⟩) [x] := by
 have : OwnI w.heap.size (w.alloc (.cells #[.int .i64 x] 3)) (.slice (some ⟨w.heap.size, 0, none⟩) 1 1) [x] :=
  ⟨World.ownsRow_lit (e := 3) (size := 1) (base := w.heap.size) w #[.int .i64 x] 1 (Nat.le_refl _) (by simp [maxLen]) (by simp), by simp, by simpa using hx⟩
 exact this.ints
theorem ans_len (p : ProgD) : (answersL p).length ≤ 4096 := by
 unfold answersL
 split
 ·rename_i hF
  have h1 := ansTo_len (foldD p) (2 ^ p.atoms.toNat)
  obtain ⟨h2, h3⟩ := progOk_atoms (foldR_ok hF)
  have h4 : (foldD p).atoms = p.atoms := rfl
  have : 2 ^ p.atoms.toNat ≤ 2 ^ 12 := Nat.pow_le_pow_right (by omega) (by omega)
  omega
 ·simp
set_option maxHeartbeats 4000000 in
theorem near_calls {cs : List Value} {p : ProgD} (c N : Nat) (w : World) (h : Cur w c N) (hN : N ≤ 200000) (hp : Rd.R w cs p) :
  Calls Tryz.prog 81 #[.pointer (some ⟨c, 0, none⟩), .agg cs.toArray] w fun e w' => ∃ v xs, e = .returned v ∧ xs.length ≤ 4096 ∧ Own w.heap.size w' [v] (xs : List Int) ∧ Cur w' c (N + 100) ∧ Wrote c w w' := by
 have hcw := h.lt
 obtain ⟨x0, x1, x2, x3, x4, x5, x6, x7, rfl⟩ := list8 (Rd.len hp)
 have t0 : Below w.heap.size w (w.alloc (.cells #[x0, x1, x2, x3, x4, x5, x6, x7] 30)) := (Below.refl _ _).alloc (by simp) _
 have hlen : ∀ x ∈ answersL p, x.length ≤ 12 := fun x hx => by
  unfold answersL at hx
  split at hx
  ·obtain ⟨k, _, rfl, _⟩ := mem_ansTo.1 hx
   unfold setN setOfS
   split
   ·exact pickTo_len _ _
   ·simp
  ·cases hx
 have hL12 := ans_len p
 go_enter Tryz.func81, Tryz.ntmps81
 go_wp2_with fail
 refine (specAnswers_calls (Rd.mono t0 hp)).mono ?_
 rintro e w1 ⟨u, rfl, o1, b1⟩
 obtain ⟨a1, q1, rfl, hq1, hr1⟩ := o1.rd.sl
 have t1 := t0.step b1
 have o1 := o1.mono' (lo' := w.heap.size) t0.size
 have c1 := h.kept t1
 have W1 : Wrote c w w1 := Wrote.below t1
 generalize hLe : answersL p = L at *
 replace hLe := Lib.hid hLe
 clear hp t0 b1
 by_cases hz : L.length = 0
 ·have hzi : (L.length : Int) = 0 := by omega
  have hzb : ((L.length : Int) == 0) = true := beq_iff_eq.2 hzi
  clear hz
  go_wp2_with fail
  refine (set_calls _ _ 8 _ (c1) (by omega) (by omega)).mono ?_
  rintro e w9 ⟨v, xs, rfl, hlx, ho9, hc9, hw9⟩
  go_wp2
  go_ret
  exact ⟨_, xs, rfl, by omega, ho9.own.mono' t1.size, hc9.mono (by omega), W1.trans hw9⟩
 ·have hzi : ¬ (L.length : Int) = 0 := by omega
  have hzb : ((L.length : Int) == 0) = false := beq_eq_false_iff_ne.2 hzi
  go_wp2_with fail
  refine (pick_calls c N 4 _ c1 (by omega) ⟨by omega, by omega⟩).mono ?_
  rintro e w2 ⟨r, ⟨hr0, hr1', _⟩, rfl, c2, k2⟩
  have hsz := t1.size
  have o2 := o1.wrote k2 hcw
  have W2 := W1.trans k2
  have hz2 := W2.size
  by_cases hr : r = 0
  ·subst hr
   go_wp2_with fail
   refine (set_calls _ _ 8 _ (c2) (by omega) (by omega)).mono ?_
   rintro e w9 ⟨v, xs, rfl, hlx, ho9, hc9, hw9⟩
   go_wp2
   go_ret
   exact ⟨_, xs, rfl, by omega, ho9.own.mono' (by omega), hc9.mono (by omega), W2.trans hw9⟩
  ·have hrb : (r == 0) = false := beq_eq_false_iff_ne.2 hr
   go_wp2_with fail
   refine (pick_calls c (N + 1) (L.length : Int) _ c2 (by omega) ⟨by omega, by omega⟩).mono ?_
   rintro e w3 ⟨k, ⟨hk0, hk1, hk2⟩, rfl, c3, k3⟩
   obtain ⟨k, rfl⟩ := Int.eq_ofNat_of_zero_le hk0
   have hk : k < L.length := by
    by_cases h9 : (L.length : Int) < 2
    ·have := hk2 h9; omega
    ·have := hk1 (by omega); omega
   have o3 := o2.wrote k3 hcw
   have W3 := W2.trans k3
   have hz3 := W3.size
   obtain ⟨g, ecs, rfl, -, hC, hO⟩ := own_elem o3 hk
   have hx12 := hlen _ (nth_mem hk)
   obtain ⟨ax, qx, rfl, _⟩ : RdL w3 ecs (nth L k) := hO.rd
   have u0 := hC.c0
   rw [show Rd.k (List Int) = 1 from rfl, Nat.mul_one] at u0
   have hki : (k : Int) < (L.length : Int) := by omega
   clear hC
   generalize nth L k = y at *
   go_wp2_with fail
   refine (pick_calls c (N + 2) 3 _ c3 (by omega) ⟨by omega, by omega⟩).mono ?_
   rintro e w4 ⟨r4, ⟨hr40, hr41, _⟩, rfl, c4, k4⟩
   have W4 := W3.trans k4
   have hz4 := W4.size
   have O4 := hO.wrote k4 hcw
   have hxi := (RdL.sl O4.rd)
   obtain ⟨ax', qx', e9, _, hxi⟩ := hxi
   injection e9 with e91 _ e93
   subst e91
   subst e93
   by_cases hr4 : r4 = 0
   ·subst hr4
    go_wp2_with fail
    refine (pick_calls c (N + 3) 8 _ c4 (by omega) ⟨by omega, by omega⟩).mono ?_
    rintro e w5 ⟨a, ⟨ha0, ha1, _⟩, rfl, c5, k5⟩
    have ha1 := ha1 (by omega)
    have W5 := W4.trans k5
    have hz5 := W5.size
    have O5 := O4.wrote k5 hcw
    have hI5 : Ints w5 ax y := (row_of_own O5).ints
    have hfa : Fits (1 + a) := ⟨by omega, by omega⟩
    cases hh : hasB y (1 + a)
    ·go_wp2_with (go_at_call 88; refine (SetHas_calls _ _ _ _ _ hI5).mono ?_; rintro e w' ⟨he, rfl⟩; rw [hh] at he; subst he)
     refine (specSetJoin_calls _ _ _ _ _ _ _ (hI5.later ((Below.refl _ _).alloc (Nat.le_refl _) _)) (one_ints w5 hfa)).mono ?_
     rintro e w6 ⟨v6, rfl, o6, b6⟩
     go_wp2
     go_ret
     have ta : Below w5.heap.size w5 w6 := ((Below.refl w5.heap.size w5).alloc (Nat.le_refl _) _).step b6
     exact ⟨_, _, rfl, by have := pickTo_len (pickJ y [1 + a]) 12; omega, o6.own.mono' (by rw [World.size_alloc]; omega), (c5.kept ta).mono (by omega), W5.trans (Wrote.below ta)⟩
    ·go_wp2_with (go_at_call 88; refine (SetHas_calls _ _ _ _ _ hI5).mono ?_; rintro e w' ⟨he, rfl⟩; rw [hh] at he; subst he)
     refine (specSetLess_calls _ _ _ _ _ _ _ (hI5.later ((Below.refl _ _).alloc (Nat.le_refl _) _)) (one_ints w5 hfa)).mono ?_
     rintro e w6 ⟨v6, rfl, o6, b6⟩
     go_wp2
     go_ret
     have ta : Below w5.heap.size w5 w6 := ((Below.refl w5.heap.size w5).alloc (Nat.le_refl _) _).step b6
     exact ⟨_, _, rfl, by have := pickTo_len (pickL y [1 + a]) 12; omega, o6.own.mono' (by rw [World.size_alloc]; omega), (c5.kept ta).mono (by omega), W5.trans (Wrote.below ta)⟩
   ·have hr4b : (r4 == 0) = false := beq_eq_false_iff_ne.2 hr4
    go_wp2
    go_ret
    exact ⟨_, y, rfl, by omega, O4, c4.mono (by omega), W4⟩

def SetDr (B c : Nat) (W : World) (e : Ending) (w' : World) : Prop := ∃ v xs, e = .returned v ∧ xs.length ≤ 4096 ∧ Own B w' [v] (xs : List Int) ∧ Cur w' c 100000 ∧ Wrote c W w'
def PairPost (w : World) (e : Ending) (w' : World) : Prop := ∃ cs p v xs, e = .returned (.tuple #[.agg (List.toArray cs), v]) ∧ Rd.R (α := ProgD) w' cs p ∧ RdL (α := Int) w' [v] xs ∧ Wee p ∧ xs.length ≤ 4096 ∧ Below w.heap.size w w'
theorem cells_putN {W : World} {b g : Nat} {cs vs : List Value} (h : Cells W b 0 cs) (hne : b ≠ g) : Cells (put W g 0 vs) b 0 cs := fun j v hv => by
 have := h j v hv
 rw [← this]
 exact World.cell?_of_block (a := ⟨b, 0 + j, none⟩) ((put_chg g vs W 0).block b (by simpa using hne))
theorem put_cg (W : World) (g : Nat) (vs : List Value) : Cg (fun x => x = g) W (put W g 0 vs) :=
 ⟨(put_chg g vs W 0).os, (put_chg g vs W 0).tape, (put_chg g vs W 0).output, Nat.le_of_eq (put_chg g vs W 0).size.symm, fun x _ hn => (put_chg g vs W 0).block x (by simpa using hn)⟩
theorem pair_end {w w1 w2 w3 : World} {c : Nat} {x0 x1 x2 x3 x4 x5 x6 x7 v : Value} {p : ProgD} {xs : List Int} {o : Obj} (hc : w.heap.size < c) (hc1 : c < w1.heap.size) (hb : Below (w.heap.size + 1) (w.alloc (.cells zP.toArray 30)) w1)
  (hL : Lent w1.heap.size (fun x => x < w1.heap.size) w2 [x0, x1, x2, x3, x4, x5, x6, x7] p) (h2 : Wrote c w1 w2) (ho : Own (w2.alloc o).heap.size w3 [v] xs) (h3 : Wrote c (w2.alloc o).drew w3) :
  Rd.R (α := ProgD) (put w3 w.heap.size 0 [x0, x1, x2, x3, x4, x5, x6, x7]) [x0, x1, x2, x3, x4, x5, x6, x7] p ∧ RdL (α := Int) (put w3 w.heap.size 0 [x0, x1, x2, x3, x4, x5, x6, x7]) [v] xs ∧ Below w.heap.size w (put w3 w.heap.size 0 [x0, x1, x2, x3, x4, x5, x6, x7]) := by
 have k3 : Cg (fun x => x = c) w2 w3 := (((Cg.refl _ w2).alloc o).drew).trans (Cg.wrote h3 rfl)
 have kp := put_cg w3 w.heap.size [x0, x1, x2, x3, x4, x5, x6, x7]
 have hz2 := h2.size
 have hz3 := h3.size
 refine ⟨(hL.cg ((k3.more fun x _ hx => by omega).trans (kp.more fun x _ hx => by omega))).rd, (ho.cg kp fun g hg e => by rw [World.size_alloc] at hg; omega).rd, ?_⟩
 have t1 : Below w.heap.size w w1 := ((Below.refl w.heap.size w).alloc (Nat.le_refl _) _).trans (hb.mono (Nat.le_succ _))
 have t2 : Below w.heap.size w w2 := Wrote.mark t1 h2 (by omega)
 have t3 : Below w.heap.size w w3 := Wrote.mark ((t2.alloc t2.size o).drew) h3 (by omega)
 refine ⟨kp.os.trans t3.os, kp.tape.trans t3.tape, kp.output.trans t3.output, Nat.le_trans t3.size kp.size, fun k hk => (kp.block k (Nat.lt_of_lt_of_le hk t3.size) (by omega)).trans (t3.block k hk)⟩







theorem below_cg {w w2 w3 : World} (t : Below w.heap.size w w2) (kp : Cg (fun x => x = w.heap.size) w2 w3) : Below w.heap.size w w3 :=
 ⟨kp.os.trans t.os, kp.tape.trans t.tape, kp.output.trans t.output, Nat.le_trans t.size kp.size, fun k hk => (kp.block k (Nat.lt_of_lt_of_le hk t.size) (by omega)).trans (t.block k hk)⟩





section
variable {lo : Nat} {S : Nat → Prop} {wz w' : World} {g cap : Nat} {cur : Array Value} {e : TypeId} {fe : List Nat} {a b c2 c4 c5 c6 c7 : Value} {p : ProgD}
theorem LentAt.set {k m : Nat} {v : Value} {y : RuleD} {f' : List Nat} {ecs : List Value} (h : LentAt lo S wz a b c2 c4 c5 c6 c7 g cap cur e fe p) (hk : k < p.rules.length) (hm : m < 5)
  (h1 : ∀ (j : Nat) (u : Value), ecs[j]? = some u → cur[k * 5 + j]? = some u) (hl : ecs.length = 5) (hw : Cg (fun _ => False) wz w') (hO : Ow.O w' (ecs.set m v) y f') (hf' : ∀ x ∈ f', lo ≤ x ∧ ¬ S x ∧ x ≠ g ∧ x ∉ fe) :
  LentAt lo S (w'.setCell ⟨g, k * 5 + m, none⟩ v) a b c2 c4 c5 c6 c7 g cap (cur.setIfInBounds (k * 5 + m) v) e fe { p with rules := p.rules.set k y } := by
 have hrow := hw.at h.row (fun h => h)
 have hset := heap_setCell_same w' g (k * 5 + m) _ _ v hrow
 have hroom := mul_room (K := 5) hk
 have hcs := h.len
 have hsz : k * 5 + 5 ≤ cur.size := by have := Nat.mul_le_mul_right 5 hcs.1; omega
 have ks : Cg (fun x => x = g) w' (w'.setCell ⟨g, k * 5 + m, none⟩ v) := Cg.set (Cg.refl _ w') _ v rfl
 have kz : Cg (fun x => x = g) wz (w'.setCell ⟨g, k * 5 + m, none⟩ v) := (hw.more fun x _ hx => hx.elim).trans ks
 refine ⟨hset, by rw [List.length_set, Array.size_setIfInBounds]; exact h.len, h.gne, fun i hi => ?_, ⟨Ow.kept (α := List (Int × Int)) h.ext.1 fun x hx => kz.block x (Ow.lt (α := List (Int × Int)) h.ext.1 x hx) (h.ext.2 x hx).2.2, h.ext.2⟩, fun w2 hw2 v rs hv v6 es h6 => h.rest w2 ((kz.more fun x _ hx => .inr (.inl hx)).trans hw2) v rs hv v6 es h6⟩
 rw [List.length_set] at hi
 by_cases hik : i = k
 ·subst hik
  refine ⟨ecs.set m v, f', fun j u hu => ?_, ?_, hf'⟩
  ·by_cases hj : m = j
   ·subst hj
    rw [List.getElem?_set_self (by omega)] at hu
    rw [Array.getElem?_setIfInBounds_self_of_lt (by omega)]
    exact hu
   ·rw [List.getElem?_set_ne hj] at hu
    rw [Array.getElem?_setIfInBounds_ne (by omega)]
    exact h1 j u hu
  ·show Ow.O _ (ecs.set m v) (nth (p.rules.set i y) i) f'
   rw [nth_set hk, if_pos rfl]
   exact Ow.kept hO fun x hx => ks.block x (Ow.lt hO x hx) (hf' x hx).2.2.1
 ·obtain ⟨es, f1, k1, k2, k3⟩ := h.els i hi
  have hes : es.length = 5 := Rd.len (Ow.rd k2)
  refine ⟨es, f1, fun j u hu => ?_, ?_, k3⟩
  ·have hj : j < es.length := (List.getElem?_eq_some_iff.1 hu).1
   have hne : k * 5 + m ≠ i * 5 + j := by omega
   rw [Array.getElem?_setIfInBounds_ne hne]
   exact k1 j u hu
  ·show Ow.O _ es (nth (p.rules.set k y) i) f1
   rw [nth_set hk, if_neg hik]
   exact Ow.kept k2 fun x hx => kz.block x (Ow.lt k2 x hx) (k3 x hx).2.2.1
end
theorem Lent.widen {lo : Nat} {S S' : Nat → Prop} {w2 w3 : World} {cs : List Value} {p : ProgD} (h : Lent lo S w2 cs p) (hw : Cg (fun _ => False) w2 w3) (hS : ∀ x, S' x → S x ∨ w2.heap.size ≤ x) : Lent lo S' w3 cs p := by
 obtain ⟨a, b, c2, c4, c5, c6, c7, g, cap, cur, e, fe, rfl, h1⟩ := h
 have hgl := block_lt h1.row
 refine ⟨a, b, c2, c4, c5, c6, c7, g, cap, cur, e, fe, rfl, hw.at h1.row (fun h => h), h1.len, ⟨h1.gne.1, fun k => (hS g k).elim h1.gne.2 (fun k => by omega)⟩, fun i hi => ?_, ⟨Ow.kept (α := List (Int × Int)) h1.ext.1 fun x hx => hw.block x (Ow.lt (α := List (Int × Int)) h1.ext.1 x hx) (fun h => h), fun x hx => ⟨(h1.ext.2 x hx).1, fun k => (hS x k).elim (h1.ext.2 x hx).2.1 (fun k => by have := Ow.lt (α := List (Int × Int)) h1.ext.1 x hx; omega), (h1.ext.2 x hx).2.2⟩⟩, fun w4 hw4 => h1.rest w4 (hw.join hw4 (fun x _ hx => hx.elim) fun x hx hT => ?_)⟩
 ·obtain ⟨ecs, f, k1, k2, k3⟩ := h1.els i hi
  refine ⟨ecs, f, k1, Ow.kept k2 fun x hx => hw.block x (Ow.lt k2 x hx) (fun h => h), fun x hx => ⟨(k3 x hx).1, fun k => (hS x k).elim (k3 x hx).2.1 (fun k => by have := Ow.lt k2 x hx; omega), (k3 x hx).2.2⟩⟩
 ·rcases hT with hT | hT
  ·exact (hS x hT).elim .inl fun k => by omega
  ·exact .inr hT


structure PD (w : World) (c N lo G : Nat) (wz : World) (bx : List Value) (p : ProgD) : Prop where
 res : wz.heap[w.heap.size]? = some (.cells zP.toArray 30 (0, 0))
 box : wz.heap[G]? = some (.cells bx.toArray 30 (0, 0))
 lent : Lent lo (fun x => x < lo ∨ x = G) wz bx p
 wee : Wee p
 lt : w.heap.size < lo ∧ lo ≤ G
 cur : Cur wz c N
 cg : Cg (New c w) w wz
section
variable {w wz w2 : World} {c N lo G : Nat} {bx : List Value} {p p' : ProgD}
theorem PD.to {a b c2 c4 c5 c6 c7 : Value} {g cap : Nat} {cur' : Array Value} {e' : TypeId} {fe' : List Nat} (h : PD w c N lo G wz [a, .slice (some ⟨g, 0, none⟩) p.rules.length cap, c2, b, c4, c5, c6, c7] p) (hc : c < w.heap.size)
  (hw : Cg (fun x => lo ≤ x ∧ x ≠ G) wz w2) (hL : LentAt lo (fun x => x < lo ∨ x = G) w2 a b c2 c4 c5 c6 c7 g cap cur' e' fe' p') (hl : p'.rules.length = p.rules.length) (hwee : Wee p') :
  PD w c N lo G w2 [a, .slice (some ⟨g, 0, none⟩) p.rules.length cap, c2, b, c4, c5, c6, c7] p' := by
 have hlt := h.lt
 have k := hL.lent
 rw [hl] at k
 exact ⟨hw.at h.res (by omega), hw.at h.box (by omega), k, hwee, hlt, h.cur.cg (hw.more fun x _ hx => by omega), h.cg.trans (hw.more fun x _ hx => .inr (by omega))⟩
theorem PD.drew (h : PD w c N lo G wz bx p) : PD w c N lo G wz.drew bx p := by
 have k := fun S => (Cg.refl S wz).drew
 exact ⟨(k (fun _ => False)).at h.res (fun h => h), (k (fun _ => False)).at h.box (fun h => h), h.lent.cg (k _), h.wee, h.lt, h.cur.cg (k _), h.cg.trans (k _)⟩
end
theorem once {P Q : Prop} (h : P → Q) (key : P) : Q := h key
theorem PD.pick {w wz w2 : World} {c N N' lo G : Nat} {bx : List Value} {p : ProgD} (h : PD w c N lo G wz bx p) (hc : c < w.heap.size) (hw : Wrote c wz w2) (hcur : Cur w2 c N') : PD w c N' lo G w2 bx p := by
 have k := Cg.wrote (S := fun g => g = c) hw rfl
 have hl := h.lt
 exact ⟨k.at h.res (by omega), k.at h.box (by omega), h.lent.cg (k.more fun x _ hx => .inl (by omega)), h.wee, h.lt, hcur, h.cg.trans (Cg.wrote hw (.inl rfl))⟩

end Go.Proofs.YthikhkeofcjdfaaGreat
