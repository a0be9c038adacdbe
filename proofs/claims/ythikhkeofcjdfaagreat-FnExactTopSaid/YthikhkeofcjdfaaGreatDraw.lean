import Derived.Test.YthikhkeofcjdfaaGreatBase
namespace Go.Proofs.YthikhkeofcjdfaaGreat
set_option linter.unusedVariables false
set_option linter.unusedSimpArgs false
open Go.RowKit

/-- The slice that begins at a reads in w as the bytes bs. -/
def Bytes (w : World) (a : Option Addr) (bs : List Int) : Prop :=
 bs.length ≤ 1048576 ∧ (∀ n ∈ bs, 0 ≤ n ∧ n ≤ 255) ∧
 ∀ i, i < bs.length → ∃ b off, a = some ⟨b, off, none⟩ ∧ w.cell? ⟨b, off + i, none⟩ = some (.int .u8 (el bs i))

theorem Bytes.at {w : World} {a : Option Addr} {xs : List Int} (h : Bytes w a xs) (hne : 0 < xs.length) :
  ∃ b off, a = some ⟨b, off, none⟩ ∧ ∀ i, i < xs.length → w.cell? ⟨b, off + i, none⟩ = some (.int .u8 (el xs i)) := by
 obtain ⟨b, off, ha, _⟩ := h.2.2 0 hne
 refine ⟨b, off, ha, fun i hi => ?_⟩
 obtain ⟨b', off', ha', hc⟩ := h.2.2 i hi
 rw [ha] at ha'
 cases ha'
 exact hc

theorem isRow_bytes {w : World} {a : Option Addr} {len cap : Nat} {zs : List Int} (h : IsRow .u8 w a len cap zs) (hs : len ≤ 1048576) : ∃ xs : List Int, len = xs.length ∧ Bytes w a xs := by
 rcases h with ⟨rfl, rfl, rfl, rfl⟩ | ⟨x, rfl, hl, hm, hz, hc, hw⟩
 ·exact ⟨[], rfl, by simp, by simp, by simp⟩
 ·refine ⟨zs.take len, by simp; omega, ⟨by simp; omega, fun n hn => bounds_u8 (hw n (List.mem_of_mem_take hn)), fun i hi => ?_⟩⟩
  have hi' : i < len := by simp at hi; omega
  obtain ⟨b, off, spot⟩ := x
  have h1 := hc i (by omega)
  have hspot : spot = none := by simpa [Addr.add] using World.cell?_spot (hc 0 (by omega))
  subst hspot
  refine ⟨b, off, rfl, ?_⟩
  have h2 : w.cell? ⟨b, off + i, none⟩ = some (.int .u8 (zs.getD i 0)) := by
   by_cases e : i = 0
   ·subst e; simpa [Addr.add] using h1
   ·simpa [Addr.add, e] using h1
  rw [h2]
  unfold el
  simp [List.getD_eq_getElem?_getD, List.getElem?_take, hi']

theorem Bytes.later {w w' : World} {a : Option Addr} {xs : List Int} (h : Bytes w a xs) (hb : Below w.heap.size w w') : Bytes w' a xs :=
 ⟨h.1, h.2.1, fun i hi => by obtain ⟨b, off, ha, hc⟩ := h.2.2 i hi; exact ⟨b, off, ha, cell_kept hb hc⟩⟩

/-- Only block c of what was there has been written. -/
def Wrote (c : Nat) (w w' : World) : Prop := w.grownBy w' (some c)
theorem Wrote.refl (c : Nat) (w : World) : Wrote c w w := ⟨rfl, rfl, rfl, Nat.le_refl _, fun _ _ _ => rfl⟩
theorem Wrote.trans {c : Nat} {a b d : World} (h : Wrote c a b) (k : Wrote c b d) : Wrote c a d :=
 ⟨k.os.trans h.os, k.tape.trans h.tape, k.output.trans h.output, Nat.le_trans h.size k.size, fun i hi hne => (k.block i (Nat.lt_of_lt_of_le hi h.size) hne).trans (h.block i hi hne)⟩
theorem Wrote.below {c : Nat} {w w' : World} (h : Below w.heap.size w w') : Wrote c w w' := ⟨h.os, h.tape, h.output, h.size, fun i hi _ => h.block i hi⟩
theorem Wrote.drewN {c : Nat} {a w : World} (h : Wrote c a w) (n : Nat) : Wrote c a (w.drewN n) := h.trans ⟨rfl, rfl, rfl, Nat.le_refl _, fun _ _ _ => rfl⟩
theorem Wrote.set {c : Nat} {a w : World} (h : Wrote c a w) (o : Nat) (u : Value) : Wrote c a (w.setCell ⟨c, o, none⟩ u) :=
 h.trans ⟨rfl, rfl, rfl, by simp [World.setCell], fun i _ hne => Below.heap_setCell _ _ _ _ (by intro e; apply hne; simp [e])⟩
theorem Wrote.mark {c : Nat} {W w w' : World} (t : Below W.heap.size W w) (g : Wrote c w w') (hc : W.heap.size ≤ c) : Below W.heap.size W w' := t.grown g t.size (fun k hk => by cases hk; exact hc)

/-- A cursor lies in block c. -/
def CurRaw (w : World) (c : Nat) (p : Option Addr) (bs : List Int) (cap : Nat) (at_ sd : Int) : Prop :=
 w.heap[c]? = some (.cells #[.slice p bs.length cap, .int .i64 at_, .int .i64 sd] 180 (0, 0)) ∧ Bytes w p bs ∧ (0 < bs.length → ∀ a, p = some a → a.block < c) ∧ 0 ≤ at_ ∧ 0 ≤ sd ∧ sd ≤ 70000
/-- A cursor that has handed out at most N numbers. -/
def Cur (w : World) (c : Nat) (N : Nat) : Prop := ∃ p bs cap at_ sd, CurRaw w c p bs cap at_ sd ∧ at_ ≤ N

theorem Cur.mono {w : World} {c N N' : Nat} (h : Cur w c N) (hN : N ≤ N') : Cur w c N' := by
 obtain ⟨p, bs, cap, a, s, hr, h1⟩ := h
 exact ⟨p, bs, cap, a, s, hr, by omega⟩

theorem Bytes.wrote {w w' : World} {a : Option Addr} {bs : List Int} {c : Nat} (h : Bytes w a bs) (hlt : 0 < bs.length → ∀ x, a = some x → x.block < c) (hg : Wrote c w w') : Bytes w' a bs := by
 refine ⟨h.1, h.2.1, fun i hi => ?_⟩
 obtain ⟨b, off, ha, hc⟩ := h.2.2 i hi
 refine ⟨b, off, ha, ?_⟩
 have hb := hlt (by omega) _ ha
 rw [World.cell?_of_block (hg.block b (cell_lt hc) (by intro e; cases e; exact absurd hb (by simp)))]
 exact hc

theorem CurRaw.lt {w : World} {c : Nat} {p : Option Addr} {bs : List Int} {cap : Nat} {a s : Int} (h : CurRaw w c p bs cap a s) : c < w.heap.size := lt_of_block h.1
theorem Cur.lt {w : World} {c N : Nat} (h : Cur w c N) : c < w.heap.size := by
 obtain ⟨_, _, _, _, _, hr, _⟩ := h
 exact hr.lt

/-- Nothing has been written in block c. -/
theorem Cur.kept {w w' : World} {c N : Nat} (h : Cur w c N) (hb : Below w.heap.size w w') : Cur w' c N := by
 obtain ⟨p, bs, cap, a, s, ⟨h1, h2, h3, h4⟩, h5⟩ := h
 exact ⟨p, bs, cap, a, s, ⟨by rw [hb.block c (lt_of_block h1)]; exact h1, h2.wrote h3 (Wrote.below hb), h3, h4⟩, h5⟩

theorem Cur.grown {w w' : World} {c N : Nat} {r : Option Nat} (h : Cur w c N) (hg : w.grownBy w' r) (hr : ∀ k, r = some k → c < k) : Cur w' c N := by
 obtain ⟨p, bs, cap, a, s, ⟨h1, h2, h3, h4⟩, h5⟩ := h
 refine ⟨p, bs, cap, a, s, ⟨?_, ?_, h3, h4⟩, h5⟩
 ·rw [hg.block c (lt_of_block h1) (by intro e; have := hr c e.symm; omega)]; exact h1
 ·refine ⟨h2.1, h2.2.1, fun i hi => ?_⟩
  obtain ⟨b, off, ha, hc⟩ := h2.2.2 i hi
  refine ⟨b, off, ha, ?_⟩
  have hb := h3 (by omega) _ ha
  rw [World.cell?_of_block (hg.block b (cell_lt hc) (by intro e; have := hr b e.symm; simp at hb; omega))]
  exact hc

theorem CurRaw.cells {w : World} {c : Nat} {p : Option Addr} {bs : List Int} {cap : Nat} {a s : Int} (h : CurRaw w c p bs cap a s) :
  w.cell? ⟨c, 0, none⟩ = some (.slice p bs.length cap) ∧ w.cell? ⟨c, 1, none⟩ = some (.int .i64 a) ∧ w.cell? ⟨c, 2, none⟩ = some (.int .i64 s) ∧ ∀ o, w.frozen? ⟨c, o, none⟩ = false := by
 have h1 := h.1
 refine ⟨by simp [World.cell?, h1], by simp [World.cell?, h1], by simp [World.cell?, h1], fun o => by simp [World.frozen?, h1]⟩

theorem CurRaw.drewN {w : World} {c : Nat} {p : Option Addr} {bs : List Int} {cap : Nat} {a s : Int} (h : CurRaw w c p bs cap a s) (n : Nat) : CurRaw (w.drewN n) c p bs cap a s := h

theorem CurRaw.setAt {w : World} {c : Nat} {p : Option Addr} {bs : List Int} {cap : Nat} {a s : Int} (h : CurRaw w c p bs cap a s) (u : Int) (hu : 0 ≤ u) : CurRaw (w.setCell ⟨c, 1, none⟩ (.int .i64 u)) c p bs cap u s := by
 obtain ⟨h1, h2, h3, h4, h5⟩ := h
 refine ⟨?_, h2.wrote h3 ((Wrote.refl c w).set 1 _), h3, hu, h5⟩
 rw [heap_setCell_same w c 1 _ _ _ h1]
 rfl

theorem CurRaw.setSeed {w : World} {c : Nat} {p : Option Addr} {bs : List Int} {cap : Nat} {a s : Int} (h : CurRaw w c p bs cap a s) (u : Int) (hu : 0 ≤ u ∧ u ≤ 70000) : CurRaw (w.setCell ⟨c, 2, none⟩ (.int .i64 u)) c p bs cap a u := by
 obtain ⟨h1, h2, h3, h4, h5⟩ := h
 refine ⟨?_, h2.wrote h3 ((Wrote.refl c w).set 2 _), h3, h4, hu⟩
 rw [heap_setCell_same w c 2 _ _ _ h1]
 rfl

/-- What pick answers. -/
def Picked (n r : Int) : Prop := 0 ≤ r ∧ (2 ≤ n → r < n) ∧ (n < 2 → r = 0)
def PickPost (w : World) (c N : Nat) (n : Int) (e : Ending) (w' : World) : Prop := ∃ r : Int, Picked n r ∧ e = .returned (.int .i64 r) ∧ Cur w' c (N + 1) ∧ Wrote c w w'

theorem pick_few {w : World} {c N : Nat} {n : Int} (h : Cur w c N) (hn : n < 2) : PickPost w c N n (.returned (.int .i64 0)) w :=
 ⟨0, ⟨by omega, fun h => by omega, fun _ => rfl⟩, rfl, h.mono (by omega), Wrote.refl _ _⟩
theorem picked_mod {n x : Int} (hn : 2 ≤ n) : Picked n (x % n) := ⟨Int.emod_nonneg _ (by omega), fun _ => Int.emod_lt_of_pos _ (by omega), fun h => by omega⟩
theorem pick_one {w : World} {c N : Nat} {n x : Int} {p : Option Addr} {bs : List Int} {cap k : Nat} {a s : Int} (h : CurRaw w c p bs cap a s) (hn : 2 ≤ n) (ha : a ≤ N) :
  PickPost w c N n (.returned (.int .i64 (x % n))) ((w.drewN k).setCell ⟨c, 1, none⟩ (.int .i64 (a + 1))) :=
 ⟨_, picked_mod hn, rfl, ⟨p, bs, cap, _, s, (h.drewN k).setAt _ (by have := h.2.2.2.1; omega), by omega⟩, ((Wrote.refl c w).drewN k).set 1 _⟩
theorem pick_two {w : World} {c N : Nat} {n x u : Int} {p : Option Addr} {bs : List Int} {cap k : Nat} {a s : Int} (h : CurRaw w c p bs cap a s) (hn : 2 ≤ n) (ha : a ≤ N) (hu : 0 ≤ u ∧ u ≤ 70000) :
  PickPost w c N n (.returned (.int .i64 (x % n))) (((w.drewN k).setCell ⟨c, 2, none⟩ (.int .i64 u)).setCell ⟨c, 1, none⟩ (.int .i64 (a + 1))) :=
 ⟨_, picked_mod hn, rfl, ⟨p, bs, cap, _, u, ((h.drewN k).setSeed u hu).setAt _ (by have := h.2.2.2.1; omega), by omega⟩, (((Wrote.refl c w).drewN k).set 2 _).set 1 _⟩

theorem pick_three {w : World} {c N : Nat} {n x u : Int} {p : Option Addr} {bs : List Int} {cap k m : Nat} {a s : Int} (h : CurRaw w c p bs cap a s) (hn : 2 ≤ n) (ha : a ≤ N) (hu : 0 ≤ u ∧ u ≤ 70000) :
  PickPost w c N n (.returned (.int .i64 (x % n))) ((((w.drewN k).setCell ⟨c, 2, none⟩ (.int .i64 u)).drewN m).setCell ⟨c, 1, none⟩ (.int .i64 (a + 1))) :=
 ⟨_, picked_mod hn, rfl, ⟨p, bs, cap, _, u, (((h.drewN k).setSeed u hu).drewN m).setAt _ (by have := h.2.2.2.1; omega), by omega⟩, ((((Wrote.refl c w).drewN k).set 2 _).drewN m).set 1 _⟩

set_option maxHeartbeats 2000000 in
theorem pick_calls (c N : Nat) (n : Int) (w : World) (h : Cur w c N) (hN : N ≤ 1000000000) (hn : Fits n) :
  Calls Tryz.prog 62 #[.pointer (some ⟨c, 0, none⟩), .int .i64 n] w (PickPost w c N n) := by
 by_cases h2 : n < 2
 ·have hp := pick_few h h2
  clear h
  go_enter Tryz.func62, Tryz.ntmps62
  go_wp2
  go_ret
  exact hp
 ·have hn2 : 2 ≤ n := by omega
  obtain ⟨p, bs, cap, a, s, hr, ha⟩ := h
  obtain ⟨hc0, hc1, hc2, hf⟩ := hr.cells
  obtain ⟨_, hB, _, ha0, hs0, hs1⟩ := id hr
  have hBl := hB.1
  have hf1 := hf 1
  have hf2 := hf 2
  clear h2 hf
  have ha9 : a ≤ 1000000000 := by omega
  have hnf : n ≤ 9223372036854775807 := hn.2
  by_cases hlt : a < bs.length
  ·obtain ⟨k, rfl⟩ := Int.eq_ofNat_of_zero_le ha0
   obtain ⟨b, off, rfl, hcb⟩ := hB.at (by omega)
   have hck := hcb k (by omega)
   have hbk := hB.2.1 _ (el_mem (show k < bs.length by omega))
   obtain ⟨hb0, hb1⟩ := hbk
   have hltd : decide (k < bs.length) = true := decide_eq_true (by omega)
   have hkl : (k : Int) < (bs.length : Int) := hlt
   have H := Lib.hid (fun (x : Int) (j : Nat) => pick_one (k := j) (x := x) hr hn2 ha)
   clear hB hcb hr hlt
   go_enter Tryz.func62, Tryz.ntmps62
   go_wp2
   go_quiet (fail)
   go_wp2
   go_quiet (fail)
   go_wp2
   go_ret
   exact H.out _ _
  ·obtain ⟨k, rfl⟩ := Int.eq_ofNat_of_zero_le ha0
   have hltd : decide (k < bs.length) = false := decide_eq_false (by omega)
   have hkl : (bs.length : Int) ≤ (k : Int) := by omega
   have hkn : bs.length ≤ k := by omega
   have hu0 : 0 ≤ (s * 1103 + 12345) % 65521 := by omega
   have hu1 : (s * 1103 + 12345) % 65521 ≤ 70000 := by omega
   by_cases hz : bs.length = 0
   ·have H := Lib.hid (fun (x : Int) (j : Nat) => pick_two (k := j) (x := x) hr hn2 ha ⟨hu0, hu1⟩)
    have hzd : decide (0 < bs.length) = false := decide_eq_false (by omega)
    clear hB hr hlt hz
    go_enter Tryz.func62, Tryz.ntmps62
    go_wp2
    go_quiet (fail)
    go_wp2
    go_ret
    first
     | exact H.out _ _
     | (have := H.out 0 nq; rw [Int.zero_emod] at this; exact this)
   ·have hj : k % bs.length < bs.length := Nat.mod_lt _ (by omega)
    obtain ⟨b, off, rfl, hcb⟩ := hB.at (by omega)
    have hbk := hB.2.1 _ (el_mem hj)
    obtain ⟨hb0, hb1⟩ := hbk
    have htm : (k : Int).tmod (bs.length : Int) = ((k % bs.length : Nat) : Int) := by rw [Int.tmod_eq_emod_of_nonneg (by omega)]; rfl
    have htd : ((s * 1103 + 12345) % 65521).tdiv 7 = (s * 1103 + 12345) % 65521 / 7 := Int.tdiv_eq_ediv_of_nonneg hu0
    have hck := hcb _ hj
    have hbc0 : b < c := hr.2.2.1 (by omega) _ rfl
    have hbc : ¬ b = c := by omega
    have hcb' : ¬ c = b := by omega
    generalize hjj : k % bs.length = j at *
    have hj0 : (0 : Int) ≤ (j : Int) := by omega
    have hjl : (j : Int) < (bs.length : Int) := by omega
    have H := Lib.hid (fun (x : Int) (j m : Nat) => pick_three (k := j) (m := m) (x := x) hr hn2 ha ⟨hu0, hu1⟩)
    have hzd : decide (0 < bs.length) = true := decide_eq_true (by omega)
    have hws : IntKind.i64.wrap ((s * 1103 + 12345) % 65521 / 7 + el bs j) = (s * 1103 + 12345) % 65521 / 7 + el bs j := IntWalk.i64_in _ (by omega)
    clear hB hr hlt hz hcb hjj
    go_enter Tryz.func62, Tryz.ntmps62
    go_wp2
    go_quiet (fail)
    go_wp2
    go_quiet (fail)
    go_wp2
    go_ret
    exact H.out _ _ _

theorem once_calls (c N : Nat) (n : Int) (w : World) (h : Cur w c N) (hN : N ≤ 1000000000) (hn0 : 2 ≤ n) (hn1 : n ≤ 1000000) :
  Calls Tryz.prog 63 #[.pointer (some ⟨c, 0, none⟩), .int .i64 n] w fun e w' => ∃ b : Bool, e = .returned (.bool b) ∧ Cur w' c (N + 1) ∧ Wrote c w w' := by
 go_enter Tryz.func63, Tryz.ntmps63
 go_wp2_with fail
 refine (pick_calls c N n w h hN ⟨by omega, by omega⟩).mono ?_
 rintro e w1 ⟨r, ⟨hr0, hr1, _⟩, rfl, hc, hw⟩
 have hr1 := hr1 hn0
 go_wp2
 go_ret
 exact ⟨_, rfl, hc, hw⟩

theorem open_calls (p : Option Addr) (bs : List Int) (cap : Nat) (w : World) (h : Bytes w p bs) :
  Calls Tryz.prog 60 #[.slice p bs.length cap] w fun e w' => e = .returned (.pointer (some ⟨w.heap.size, 0, none⟩)) ∧ Cur w' w.heap.size 0 ∧ Below w.heap.size w w' := by
 have hl := h.1
 have hlt : 0 < bs.length → ∀ x, p = some x → x.block < w.heap.size := fun h0 x hx => by
  obtain ⟨b, off, ha, hc⟩ := h.2.2 0 h0
  rw [ha] at hx; cases hx; exact cell_lt hc
 go_enter Tryz.func60, Tryz.ntmps60
 go_wp2
 go_ret
 refine ⟨rfl, ⟨p, bs, cap, 0, 41 + (bs.length : Int) % 1000, ⟨heap_alloc_new w _, h.wrote (c := w.heap.size) hlt (Wrote.below ((Below.refl _ _).alloc (Nat.le_refl _) _)), hlt, by omega, by omega, by omega⟩, by omega⟩, (Below.refl _ _).alloc (Nat.le_refl _) _⟩

/-- A struct that is read through the cursor: the law's 'big'. -/
theorem big_calls (p : Option Addr) (n cap : Nat) (w : World) (b : Bool) (hb : decide (1048576 < (n : Int)) = b) :
  Calls Tryz.prog 11 #[.slice p n cap] w fun e w' => e = .returned (.bool b) ∧ w = w' := by
 subst hb
 go_enter Tryz.func11, Tryz.ntmps11
 go_wp2
 go_ret
 exact ⟨rfl, rfl⟩

/-- The row of numbers that raw draws from. -/
abbrev edges : Obj := .cells #[.int .i64 9223372036854775807, .int .i64 (-9223372036854775808), .int .i64 4611686018427387904, .int .i64 1000, .int .i64 1001, .int .i64 (-1000), .int .i64 100000, .int .i64 100001] 3
theorem edges_cell {w1 w2 : World} {c j : Nat} (h : Wrote c (w1.alloc edges) w2) (hc : c < w1.heap.size) (hj : j < 8) : ∃ v, Fits v ∧ w2.cell? ⟨w1.heap.size, j, none⟩ = some (.int .i64 v) := by
 have hb : w2.heap[w1.heap.size]? = some edges := by
  rw [h.block _ (by simp) (by intro e; cases e; omega)]
  exact heap_alloc_new w1 _
 have hc : j = 0 ∨ j = 1 ∨ j = 2 ∨ j = 3 ∨ j = 4 ∨ j = 5 ∨ j = 6 ∨ j = 7 := by omega
 rcases hc with rfl | rfl | rfl | rfl | rfl | rfl | rfl | rfl <;> (refine ⟨_, ?_, by simp [World.cell?, hb]; rfl⟩; exact ⟨by decide, by decide⟩)

set_option maxRecDepth 100000 in
theorem raw_calls (c N : Nat) (w : World) (h : Cur w c N) (hN : N ≤ 100000000) :
  Calls Tryz.prog 83 #[.pointer (some ⟨c, 0, none⟩)] w fun e w' => ∃ r : Int, Fits r ∧ e = .returned (.int .i64 r) ∧ Cur w' c (N + 2) ∧ Wrote c w w' := by
 go_enter Tryz.func83, Tryz.ntmps83
 go_wp2_with fail
 refine (pick_calls c N 8 w h (by omega) ⟨by omega, by omega⟩).mono ?_
 rintro e w1 ⟨r, ⟨hr0, hr1, _⟩, rfl, hc, hw⟩
 have hr1 := hr1 (by omega)
 by_cases e0 : r = 0
 ·subst e0
  go_wp2_with fail
  refine (pick_calls c (N + 1) 256 w1 hc (by omega) ⟨by omega, by omega⟩).mono ?_
  rintro e w2 ⟨r, ⟨hs0, hs1, _⟩, rfl, hc2, hw2⟩
  have hs1 := hs1 (by omega)
  go_wp2
  go_ret
  exact ⟨_, ⟨by omega, by omega⟩, rfl, hc2, hw.trans hw2⟩
 ·have eb0 : (r == 0) = false := by simpa using e0
  by_cases e1 : r = 1
  ·subst e1
   clear e0 eb0
   have hc' := hc.kept ((Below.refl w1.heap.size w1).alloc (Nat.le_refl _) edges)
   have hlt := hc.lt
   go_wp2_with fail
   refine (pick_calls c (N + 1) 8 _ hc' (by omega) ⟨by omega, by omega⟩).mono ?_
   rintro e w2 ⟨r, ⟨hs0, hs1, _⟩, rfl, hc2, hw2⟩
   have hs1 := hs1 (by omega)
   obtain ⟨j, rfl⟩ := Int.eq_ofNat_of_zero_le hs0
   obtain ⟨v, hv, hcell⟩ := edges_cell hw2 hlt (show j < 8 by omega)
   go_wp2
   go_ret
   exact ⟨v, hv, rfl, hc2, (hw.trans (Wrote.below ((Below.refl _ _).alloc (Nat.le_refl _) _))).trans hw2⟩
  ·have eb1 : (r == 1) = false := by simpa using e1
   go_wp2_with fail
   refine (pick_calls c (N + 1) 14 w1 hc (by omega) ⟨by omega, by omega⟩).mono ?_
   rintro e w2 ⟨r, ⟨hs0, hs1, _⟩, rfl, hc2, hw2⟩
   have hs1 := hs1 (by omega)
   go_wp2
   go_ret
   exact ⟨_, ⟨by omega, by omega⟩, rfl, hc2, hw.trans hw2⟩

/-- Room for a row of ints that a cursor draws. -/
def SetPost (w : World) (c N : Nat) (e : Ending) (w' : World) : Prop := ∃ v xs, e = .returned v ∧ xs.length ≤ 100 ∧ OwnI w.heap.size w' v xs ∧ Cur w' c N ∧ Wrote c w w'

theorem OwnI.wrote {B c : Nat} {w w' : World} {v : Value} {xs : List Int} (h : OwnI B w v xs) (hg : Wrote c w w') (hB : c < B) : OwnI B w' v xs := by
 refine h.grown hg ?_
 cases e : v.ownBlock with
 | none => exact .inl rfl
 | some k => have := (h.lt e).1; exact .inr (by simp; omega)

theorem Wrote.grownBy {c : Nat} {w w' : World} {B : Nat} {v : Value} {xs : List Int} {w0 : World} (t : Wrote c w0 w) (h : OwnI B w v xs) (hB : w0.heap.size ≤ B) (hg : w.grownBy w' v.ownBlock) : Wrote c w0 w' := by
 refine ⟨hg.os.trans t.os, hg.tape.trans t.tape, hg.output.trans t.output, Nat.le_trans t.size hg.size, fun i hi hne => ?_⟩
 rw [hg.block i (Nat.lt_of_lt_of_le hi t.size) (by intro e; have := (h.lt e.symm).1; omega)]
 exact t.block i hi hne

set_option maxHeartbeats 2000000 in
theorem set_calls (c N n : Nat) (w : World) (h : Cur w c N) (hN : N ≤ 10000000) (hn : n ≤ 50) :
  Calls Tryz.prog 171 #[.pointer (some ⟨c, 0, none⟩), .int .i64 n] w (SetPost w c (N + n + 3)) := by
 have hcw := h.lt
 go_enter Tryz.func171, Tryz.ntmps171
 go_wp2
 go_loopw [5, 6] (fun v i wr => ∃ (k : Nat) (xs : List Int), k ≤ n ∧ i = .int .i64 ((k : Int) + 1) ∧ xs.length ≤ k ∧ OwnI w.heap.size wr v xs ∧ Cur wr c (N + k) ∧ Wrote c w wr) (fun _ i _ => n + 1 - (intOf i).toNat)
 case atStart => exact ⟨0, [], by omega, rfl, by simp, OwnI.new _ _ (Nat.le_refl _), h.kept ((Below.refl _ _).alloc (Nat.le_refl _) _), Wrote.below ((Below.refl _ _).alloc (Nat.le_refl _) _)⟩
 case round =>
  obtain ⟨k, xs, hk, rfl, hlen, ho, hc, hw⟩ := hrel
  have hsz := hw.size
  by_cases hlt : k < n
  ·go_wp2_with fail
   refine (pick_calls c (N + k) 2 wr hc (by omega) ⟨by omega, by omega⟩).mono ?_
   rintro e w1 ⟨r, ⟨hr0, hr1, _⟩, rfl, hc1, hw1⟩
   have hr1 := hr1 (by omega)
   have ho1 := ho.wrote hw1 hcw
   have hsz1 := hw1.size
   have hF := fits_small' (n := (k : Int) + 1) (by omega) (by omega)
   by_cases e0 : r = 0
   ·subst e0
    go_wp2_with (at_builtin; refine wpList_append_int rfl _ _ rfl rfl ho1 rfl (by omega) hF (by omega) ?_; intro v' w' ho' hb' hg')
    go_roundw
    case rel => exact ⟨k + 1, _, by omega, by go_num, by simp; omega, ho', hc1.grown hg' (fun j hj => by have := (ho1.lt hj).1; omega), (hw.trans hw1).grownBy ho1 (Nat.le_refl _) hg'⟩
    case measure => simp [intOf]; omega
   ·have eb0 : (r == 0) = false := by simpa using e0
    go_wp2
    go_roundw
    case rel => exact ⟨k + 1, xs, by omega, by go_num, by omega, ho1, hc1, hw.trans hw1⟩
    case measure => simp [intOf]; omega
  ·go_wp2_with fail
   refine (once_calls c (N + k) 16 wr hc (by omega) (by omega) (by omega)).mono ?_
   rintro e w1 ⟨b, rfl, hc1, hw1⟩
   have ho1 := ho.wrote hw1 hcw
   have hsz1 := hw1.size
   cases b
   ·go_wp2
    go_ret
    exact ⟨_, xs, rfl, by omega, ho1, hc1.mono (by omega), hw.trans hw1⟩
   ·go_wp2_with fail
    refine (raw_calls c (N + k + 1) w1 hc1 (by omega)).mono ?_
    rintro e w2 ⟨r, hF, rfl, hc2, hw2⟩
    have ho2 := ho1.wrote hw2 hcw
    have hsz2 := hw2.size
    go_wp2_with (at_builtin; refine wpList_append_int rfl _ _ rfl rfl ho2 rfl (by omega) hF (by omega) ?_; intro v' w' ho' hb' hg')
    go_ret
    exact ⟨_, _, rfl, by simp; omega, ho', (hc2.grown hg' (fun j hj => by have := (ho2.lt hj).1; omega)).mono (by omega), ((hw.trans hw1).trans hw2).grownBy ho2 (Nat.le_refl _) hg'⟩

/-- Two drawn rows. -/
def TwoPost (w : World) (e : Ending) (w' : World) : Prop := ∃ p1 c1 p2 c2 xs ys, e = .returned (.tuple #[.slice p1 (List.length xs) c1, .slice p2 (List.length ys) c2]) ∧ xs.length ≤ 100 ∧ ys.length ≤ 100 ∧ OwnI w.heap.size w' (.slice p1 xs.length c1) xs ∧ OwnI w.heap.size w' (.slice p2 ys.length c2) ys ∧ Below w.heap.size w w'


end Go.Proofs.YthikhkeofcjdfaaGreat
