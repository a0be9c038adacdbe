/-
  A heap of levels in memory: its methods. No condition of its own.
-/
import Derived.Test.YtiemlklngmifdaaGreatHeapD
import Derived.Test.YtiemlklngmifdaaGreatOwnR
import Derived.BigRegion
import Derived.BigQuiet
import Derived.Deep.QuietTactic
import Derived.StillTailTactics
import Derived.Deep.RegionHeld3
import Derived.Deep.RegionWith
import Derived.WalkKit
namespace Go.Proofs.YtiemlklngmifdaaGreat
set_option linter.unusedVariables false
set_option linter.unusedSimpArgs false
open Go.RowKit
set_option maxRecDepth 100000

/-- Of what was there only blocks of D have been written. -/
structure Ch (D : Nat → Prop) (w w' : World) : Prop where
  os : w'.os = w.os
  tape : w'.tape = w.tape
  output : w'.output = w.output
  size : w.heap.size ≤ w'.heap.size
  block : ∀ g, g < w.heap.size → ¬ D g → w'.heap[g]? = w.heap[g]?
theorem Ch.refl (D : Nat → Prop) (w : World) : Ch D w w := ⟨rfl, rfl, rfl, Nat.le_refl _, fun _ _ _ => rfl⟩
theorem Ch.trans {D : Nat → Prop} {a b c : World} (h : Ch D a b) (k : Ch D b c) : Ch D a c :=
  ⟨k.os.trans h.os, k.tape.trans h.tape, k.output.trans h.output, Nat.le_trans h.size k.size, fun g hg hs => (k.block g (Nat.lt_of_lt_of_le hg h.size) hs).trans (h.block g hg hs)⟩
theorem Ch.more {D E : Nat → Prop} {a b : World} (h : Ch D a b) (hs : ∀ g, D g → E g) : Ch E a b :=
  ⟨h.os, h.tape, h.output, h.size, fun g hg hn => h.block g hg fun hm => hn (hs g hm)⟩
theorem Ch.of {D : Nat → Prop} {w w' : World} (h : Below w.heap.size w w') : Ch D w w' := ⟨h.os, h.tape, h.output, h.size, fun g hg _ => h.block g hg⟩
theorem Ch.below {D : Nat → Prop} {lo : Nat} {w w' : World} (h : Ch D w w') (hl : ∀ g, D g → lo ≤ g) (hs : lo ≤ w.heap.size) : Below lo w w' :=
  ⟨h.os, h.tape, h.output, h.size, fun g hg => h.block g (by omega) fun hd => by have := hl g hd; omega⟩
theorem Ch.lo {D : Nat → Prop} {lo : Nat} {w w' : World} (h : Below lo w w') (hl : ∀ g, lo ≤ g → D g) : Ch D w w' :=
  ⟨h.os, h.tape, h.output, h.size, fun g _ hn => h.block g (Nat.lt_of_not_le fun hle => hn (hl g hle))⟩
theorem Ch.set {D : Nat → Prop} {a w : World} (h : Ch D a w) {g : Nat} (o : Nat) (u : Value) (hs : D g) : Ch D a (w.setCell ⟨g, o, none⟩ u) :=
  h.trans ⟨rfl, rfl, rfl, by simp [World.setCell], fun k _ hn => Below.heap_setCell _ _ _ _ (by intro e; apply hn; have e : k = g := e; rw [e]; exact hs)⟩
theorem Ch.alloc {D : Nat → Prop} {a w : World} (h : Ch D a w) (o : Obj) : Ch D a (w.alloc o) := h.trans (Ch.of ((Below.refl _ _).alloc (Nat.le_refl _) o))
theorem Ch.drew {D : Nat → Prop} {a w : World} (h : Ch D a w) : Ch D a w.drew := h.trans (Ch.of (Below.refl _ _).drew)
theorem Ch.drewN {D : Nat → Prop} {a w : World} (h : Ch D a w) (n : Nat) : Ch D a (w.drewN n) := h.trans ⟨rfl, rfl, rfl, Nat.le_refl _, fun _ _ _ => rfl⟩
theorem Ch.grown {D : Nat → Prop} {w w' : World} {r : Option Nat} (h : w.grownBy w' r) (hr : ∀ k, r = some k → D k) : Ch D w w' :=
  ⟨h.os, h.tape, h.output, h.size, fun g hg hn => h.block g hg (by intro e; exact hn (hr g e.symm))⟩
theorem Ch.at {D : Nat → Prop} {a w : World} {g : Nat} {o : Obj} (h : Ch D a w) (hb : a.heap[g]? = some o) (hs : ¬ D g) : w.heap[g]? = some o := (h.block g (block_lt hb) hs).trans hb

theorem OwnF.putE {α : Type} [Fl α] {B : Nat} {e : TypeId} {w : World} {g n cap : Nat} {xs : List α} (h : OwnF B e w (.slice (some ⟨g, 0, none⟩) n cap) xs) {i : Nat} (hi : i < xs.length) {x : α} (hx : Fl.ok x) :
    OwnF B e (put w g (i * Rd.k α) (Fl.enc x)) (.slice (some ⟨g, 0, none⟩) n cap) (xs.set i x) := by
  obtain ⟨⟨h1, h2⟩, h3⟩ := h
  rcases h2 with ⟨hv, hn⟩ | ⟨g', cap', cur, hv, hg, hh, hnc, hcm, hcs, ht⟩
  · cases hv
  · cases hv
    have hlen := enc_lenI hx
    have hroom := mul_room (K := Rd.k α) hi
    have hK : 0 < Rd.k α := Fl.pos
    have hcap : xs.length * Rd.k α ≤ cap * Rd.k α := Nat.mul_le_mul_right _ hnc
    have hok : ∀ y ∈ xs.set i x, Fl.ok y := fun y hy => by
      rcases List.mem_or_eq_of_mem_set hy with hy | rfl
      · exact h3 y hy
      · exact hx
    obtain ⟨cur', c1, c2, c3⟩ := put_block g e (Fl.enc x) w (i * Rd.k α) cur hh (by omega)
    refine ⟨⟨by rw [flat_len hok, List.length_set], .inr ⟨g, cap, cur', by rw [List.length_set], hg, c1, by rw [List.length_set]; exact hnc, hcm, by rw [c2]; exact hcs, ?_⟩⟩, hok⟩
    rw [List.length_set]
    refine List.ext_getElem? fun m => ?_
    by_cases hm : m < xs.length * Rd.k α
    · rw [List.getElem?_take_of_lt hm, Array.getElem?_toList, c3]
      have hq : m / Rd.k α < xs.length := Nat.div_lt_of_lt_mul (by rw [Nat.mul_comm]; exact hm)
      have hr : m % Rd.k α < Rd.k α := Nat.mod_lt _ hK
      have e0 : m = m / Rd.k α * Rd.k α + m % Rd.k α := by rw [Nat.mul_comm]; exact (Nat.div_add_mod m (Rd.k α)).symm
      have hqs : m / Rd.k α < (xs.set i x).length := by rw [List.length_set]; exact hq
      have hl2 : m % Rd.k α < (Fl.enc (nth (xs.set i x) (m / Rd.k α))).length := by rw [enc_lenI (hok _ (nth_mem hqs))]; exact hr
      have f1 := flat_at hok hqs (List.getElem?_eq_getElem hl2)
      rw [← e0] at f1
      rw [f1]
      by_cases hqi : m / Rd.k α = i
      · subst hqi
        rw [if_pos ⟨by omega, by omega⟩]
        have en : nth (xs.set (m / Rd.k α) x) (m / Rd.k α) = x := by
          rw [nth_eq hqs, List.getElem_set_self]
        rw [show m - m / Rd.k α * Rd.k α = m % Rd.k α by omega, ← List.getElem?_eq_getElem hl2, en]
      · have hne : ¬ (i * Rd.k α ≤ m ∧ m < i * Rd.k α + (Fl.enc x).length) := fun hh => by
          apply hqi
          rw [hlen] at hh
          exact Nat.div_eq_of_lt_le hh.1 (by rw [Nat.add_mul]; omega)
        rw [if_neg hne]
        have en : nth (xs.set i x) (m / Rd.k α) = nth xs (m / Rd.k α) := by
          rw [nth_eq hqs, nth_eq hq, List.getElem_set_ne (Ne.symm hqi)]
        have hl3 : m % Rd.k α < (Fl.enc (nth xs (m / Rd.k α))).length := by rw [enc_lenI (h3 _ (nth_mem hq))]; exact hr
        have f2 := flat_at h3 hq (List.getElem?_eq_getElem hl3)
        rw [← e0, ← ht, List.getElem?_take_of_lt hm, Array.getElem?_toList] at f2
        rw [f2]
        simp only [en]
    · rw [List.getElem?_eq_none (by rw [List.length_take]; omega), List.getElem?_eq_none (by rw [flat_len hok, List.length_set]; omega)]

theorem flat_take {α : Type} [Fl α] : ∀ {xs : List α}, (∀ x ∈ xs, Fl.ok x) → ∀ k, (xs.take k).flatMap Fl.enc = (xs.flatMap Fl.enc).take (k * Rd.k α)
  | [], _, k => by simp
  | x :: r, h, 0 => by simp
  | x :: r, h, k + 1 => by
    have ih := flat_take (xs := r) (fun y hy => h y (List.mem_cons_of_mem _ hy)) k
    have hx := enc_lenI (h x (List.mem_cons_self ..))
    have ht : (Fl.enc x).take (k * Rd.k α + Rd.k α) = Fl.enc x := List.take_of_length_le (by rw [hx]; omega)
    rw [List.take_succ_cons, List.flatMap_cons, List.flatMap_cons, ih, List.take_append, hx, Nat.add_mul, Nat.one_mul, Nat.add_sub_cancel, ht]
theorem OwnF.takeE {α : Type} [Fl α] {B : Nat} {e : TypeId} {w : World} {g n cap k : Nat} {xs : List α} (h : OwnF B e w (.slice (some ⟨g, 0, none⟩) n cap) xs) (hk : k ≤ xs.length) :
    OwnF B e w (.slice (some ⟨g, 0, none⟩) k cap) (xs.take k) := by
  obtain ⟨⟨h1, h2⟩, h3⟩ := h
  have hok : ∀ y ∈ xs.take k, Fl.ok y := fun y hy => h3 y (List.mem_of_mem_take hy)
  have hl : (xs.take k).length = k := by rw [List.length_take]; omega
  rcases h2 with ⟨hv, hn⟩ | ⟨g', cap', cur, hv, hg, hh, hnc, hcm, hcs, ht⟩
  · cases hv
  · cases hv
    refine ⟨⟨flat_len hok, .inr ⟨g, cap, cur, by rw [hl], hg, hh, by omega, hcm, hcs, ?_⟩⟩, hok⟩
    rw [hl, flat_take h3, ← ht, List.take_take, Nat.min_eq_left (Nat.mul_le_mul_right _ hk)]
theorem OwnF.ch {α : Type} [Fl α] {B : Nat} {e : TypeId} {w w' : World} {v : Value} {xs : List α} (h : OwnF B e w v xs) {D : Nat → Prop} (hg : Ch D w w') (hd : ∀ g, v.ownBlock = some g → ¬ D g) : OwnF B e w' v xs := by
  obtain ⟨⟨h1, h2⟩, h3⟩ := h
  refine ⟨⟨h1, ?_⟩, h3⟩
  rcases h2 with h2 | ⟨g, cap, cur, e, hB, hh, hr⟩
  · exact .inl h2
  · exact .inr ⟨g, cap, cur, e, hB, hg.at hh (hd g (by rw [e]; rfl)), hr⟩

/-- A heap's box and its row. -/
structure HM (lo : Nat) (w : World) (Bh : Nat) (v : Value) (zs : List LvC) : Prop where
  box : w.heap[Bh]? = some (.cells #[v, .func (.func 100) #[] #[]] 151 (0, 0))
  row : OwnF lo 102 w v zs
  lt : Bh < lo
  small : zs.length ≤ 1048576
theorem HM.c {lo : Nat} {w : World} {Bh : Nat} {v : Value} {zs : List LvC} (h : HM lo w Bh v zs) : w.cell? ⟨Bh, 0, none⟩ = some v ∧ w.cell? ⟨Bh, 1, none⟩ = some (.func (.func 100) #[] #[]) ∧ ∀ j, w.frozen? ⟨Bh, j, none⟩ = false :=
  ⟨by rw [cell_of_row w Bh 0 _ _ _ h.box]; rfl, by rw [cell_of_row w Bh 1 _ _ _ h.box]; rfl, fun j => frozen_of_row w Bh j _ _ h.box⟩
theorem HM.sl {lo : Nat} {w : World} {Bh : Nat} {v : Value} {zs : List LvC} (h : HM lo w Bh v zs) : ∃ a cap, v = .slice a zs.length cap := by
  rcases h.row.1.2 with ⟨hv, hn⟩ | ⟨g, cap, cur, hv, _⟩
  · exact ⟨none, 0, by rw [hv, hn]⟩
  · exact ⟨_, _, hv⟩
theorem HM.op {lo : Nat} {w : World} {Bh : Nat} {v : Value} {zs : List LvC} (h : HM lo w Bh v zs) (h0 : 0 < zs.length) : ∃ g cap, v = .slice (some ⟨g, 0, none⟩) zs.length cap ∧ lo ≤ g ∧ zs.length ≤ cap ∧ cap ≤ maxLen ∧ (∀ j, w.frozen? ⟨g, j, none⟩ = false) ∧
    ∀ i, i < zs.length → w.cell? ⟨g, i * 2, none⟩ = some (.int .i64 (nth zs i).p) ∧ w.cell? ⟨g, i * 2 + 1, none⟩ = some (.slice (nth zs i).a (nth zs i).n (nth zs i).c) := by
  rcases h.row.1.2 with ⟨hv, hn⟩ | ⟨g, cap, cur, hv, hg, hh, hr⟩
  · omega
  · refine ⟨g, cap, hv, hg, hr.1, hr.2.1, fun j => frozen_of_row w g j _ _ hh, fun i hi => ?_⟩
    have hrow := h.row.1
    rw [hv] at hrow
    have hroom := mul_room (K := Rd.k LvC) hi
    have hk : Rd.k LvC = 2 := rfl
    rw [hk] at hroom hrow
    have e0 := flat_at h.row.2 hi (j := 0) (v := .int .i64 (nth zs i).p) rfl
    have e1 := flat_at h.row.2 hi (j := 1) (v := .slice (nth zs i).a (nth zs i).n (nth zs i).c) rfl
    rw [hk] at e0 e1
    exact ⟨by rw [hrow.cellAt _ (by omega)]; exact e0, by rw [hrow.cellAt _ (by omega)]; exact e1⟩
theorem HM.ch {lo : Nat} {w w' : World} {Bh : Nat} {v : Value} {zs : List LvC} (h : HM lo w Bh v zs) {D : Nat → Prop} (hg : Ch D w w') (hb : ¬ D Bh) (hd : ∀ g, lo ≤ g → v.ownBlock = some g → ¬ D g) : HM lo w' Bh v zs := by
  refine ⟨hg.at h.box hb, h.row.ch hg fun g e => ?_, h.lt, h.small⟩
  rcases h.row.1.2 with ⟨hv, hn⟩ | ⟨g', cap, cur, hv, hg', _⟩
  · rw [hv] at e; cases e
  · rw [hv] at e; cases e; exact hd _ hg' (by rw [hv]; rfl)

theorem ahead_calls (a b : Int) (xa ya : Option Addr) (xn xc yn yc : Nat) (w : World) :
    Calls Tryz.prog 100 #[.agg #[.int .i64 a, .slice xa xn xc], .agg #[.int .i64 b, .slice ya yn yc]] w fun e w' => e = .returned (.bool (decide (b < a))) ∧ Below w.heap.size w w' := by
  go_enter Tryz.func100, Tryz.ntmps100
  go_wp2
  go_ret
  exact ⟨rfl, ((Below.refl _ _).alloc (Nat.le_refl _) _).alloc (by simp) _⟩

set_option maxHeartbeats 4000000 in
theorem swap_calls {lo Bh : Nat} {v : Value} {zs : List LvC} {w : World} (h : HM lo w Bh v zs) {i j : Nat} (hi : i < zs.length) (hj : j < zs.length) (hij : i ≠ j) :
    Calls Tryz.prog 158 #[.pointer (some ⟨Bh, 0, none⟩), .int .i64 i, .int .i64 j] w fun e w' => (∃ r, e = .returned r) ∧ HM lo w' Bh v (swp zs i j) ∧ Ch (fun g => v.ownBlock = some g) w w' := by
  have hf : ∀ k, Fits (nth zs k).p := fun k => by
    by_cases hk : k < zs.length
    · exact h.row.2 _ (nth_mem hk)
    · have : nth zs k = default := by unfold nth; rw [List.getD_eq_getElem?_getD, List.getElem?_eq_none (by omega)]; rfl
      rw [this]; exact ⟨by decide, by decide⟩
  obtain ⟨g, cap, rfl, hg, hc1, hc2, hfr, hcell⟩ := h.op (by omega)
  obtain ⟨b0, _, hfb⟩ := h.c
  obtain ⟨i0, i1⟩ := hcell i hi
  obtain ⟨j0, j1⟩ := hcell j hj
  have fi0 := hfr (i * 2)
  have fi1 := hfr (i * 2 + 1)
  have fj0 := hfr (j * 2)
  have fj1 := hfr (j * 2 + 1)
  have hi' : (i : Int) < (zs.length : Int) := by omega
  have hj' : (j : Int) < (zs.length : Int) := by omega
  have n00 : ¬ i * 2 = j * 2 := by omega
  have n01 : ¬ i * 2 = j * 2 + 1 := by omega
  have n10 : ¬ i * 2 + 1 = j * 2 := by omega
  have HP : Hid (∀ w', w' = (put (put w g (i * 2) (nth zs j).enc) g (j * 2) (nth zs i).enc) → HM lo w' Bh (.slice (some ⟨g, 0, none⟩) zs.length cap) (swp zs i j) ∧ Ch (fun k => (Value.slice (some ⟨g, 0, none⟩) zs.length cap).ownBlock = some k) w w') := fun w' e => by
    have r1 := h.row.putE hi (x := nth zs j) (hf j)
    have r2 := r1.putE (i := j) (by rw [List.length_set]; exact hj) (x := nth zs i) (hf i)
    have k1 := put_chg g (nth zs j).enc w (i * 2)
    have k2 := put_chg g (nth zs i).enc (put w g (i * 2) (nth zs j).enc) (j * 2)
    have k3 := k1.trans k2
    subst e
    have hlt := h.lt
    exact ⟨⟨(k3.block Bh (by simp; omega)).trans h.box, r2, h.lt, by rw [swp_len]; exact h.small⟩, ⟨k3.os, k3.tape, k3.output, Nat.le_of_eq k3.size.symm, fun k _ hn => k3.block k fun hm => hn (by simp at hm; subst hm; rfl)⟩⟩
  have hsm := h.small
  clear hcell hfr hf h hc1 hc2
  generalize nth zs i = x at *
  generalize nth zs j = y at *
  obtain ⟨xp, xa, xn, xc⟩ := x
  obtain ⟨yp, ya, yn, yc⟩ := y
  dsimp only at i0 i1 j0 j1
  go_enter Tryz.func158, Tryz.ntmps158
  go_wp2
  go_region
  go_wp2
  go_end0
  obtain ⟨h1, h2⟩ := HP.out _ rfl
  exact ⟨⟨_, rfl⟩, h1.ch (D := fun _ => False) (Ch.refl _ _).drew id (fun _ _ _ => id), h2.drew⟩

end Go.Proofs.YtiemlklngmifdaaGreat
