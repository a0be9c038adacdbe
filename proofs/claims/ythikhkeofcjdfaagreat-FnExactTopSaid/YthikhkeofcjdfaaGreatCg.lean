/-
 What a call has written of what was there: a relation with a set of blocks. No condition of its own.
-/
import Derived.Test.YthikhkeofcjdfaaGreatDraw
import Derived.Test.YthikhkeofcjdfaaGreatOwnD
import Derived.Test.YthikhkeofcjdfaaGreatAppend
namespace Go.Proofs.YthikhkeofcjdfaaGreat
set_option linter.unusedVariables false
set_option linter.unusedSimpArgs false
open Go.RowKit
set_option maxRecDepth 100000

/-- Of what was there only blocks of S have been written. -/
structure Cg (S : Nat → Prop) (w w' : World) : Prop where
 os : w'.os = w.os
 tape : w'.tape = w.tape
 output : w'.output = w.output
 size : w.heap.size ≤ w'.heap.size
 block : ∀ g, g < w.heap.size → ¬ S g → w'.heap[g]? = w.heap[g]?
theorem Cg.refl (S : Nat → Prop) (w : World) : Cg S w w := ⟨rfl, rfl, rfl, Nat.le_refl _, fun _ _ _ => rfl⟩
theorem Cg.trans {S : Nat → Prop} {a b c : World} (h : Cg S a b) (k : Cg S b c) : Cg S a c :=
 ⟨k.os.trans h.os, k.tape.trans h.tape, k.output.trans h.output, Nat.le_trans h.size k.size, fun g hg hs => (k.block g (Nat.lt_of_lt_of_le hg h.size) hs).trans (h.block g hg hs)⟩
theorem Cg.more {S T : Nat → Prop} {a b : World} (h : Cg S a b) (hs : ∀ g, g < a.heap.size → S g → T g) : Cg T a b :=
 ⟨h.os, h.tape, h.output, h.size, fun g hg hn => h.block g hg fun hm => hn (hs g hg hm)⟩
theorem Cg.below {S : Nat → Prop} {w w' : World} (h : Below w.heap.size w w') : Cg S w w' := ⟨h.os, h.tape, h.output, h.size, fun g hg _ => h.block g hg⟩
theorem Cg.lo {S : Nat → Prop} {w w' : World} {lo : Nat} (h : Below lo w w') (hs : ∀ g, g < w.heap.size → lo ≤ g → S g) : Cg S w w' :=
 ⟨h.os, h.tape, h.output, h.size, fun g hg hn => h.block g (Nat.lt_of_not_le fun hl => hn (hs g hg hl))⟩
theorem Cg.wrote {S : Nat → Prop} {w w' : World} {c : Nat} (h : Wrote c w w') (hc : S c) : Cg S w w' :=
 ⟨h.os, h.tape, h.output, h.size, fun g hg hn => h.block g hg (by intro e; cases e; exact hn hc)⟩
theorem Cg.grown {S : Nat → Prop} {w w' : World} {r : Option Nat} (h : w.grownBy w' r) (hr : ∀ k, r = some k → S k) : Cg S w w' :=
 ⟨h.os, h.tape, h.output, h.size, fun g hg hn => h.block g hg (by intro e; exact hn (hr g e.symm))⟩
theorem Cg.set {S : Nat → Prop} {a w : World} (h : Cg S a w) {g : Nat} (o : Nat) (u : Value) (hs : S g) : Cg S a (w.setCell ⟨g, o, none⟩ u) :=
 h.trans ⟨rfl, rfl, rfl, by simp [World.setCell], fun k _ hn => Below.heap_setCell _ _ _ _ (by intro e; apply hn; have e : k = g := e; rw [e]; exact hs)⟩
theorem Cg.alloc {S : Nat → Prop} {a w : World} (h : Cg S a w) (o : Obj) : Cg S a (w.alloc o) := h.trans (Cg.below ((Below.refl _ _).alloc (Nat.le_refl _) o))
theorem Cg.drew {S : Nat → Prop} {a w : World} (h : Cg S a w) : Cg S a w.drew := h.trans (Cg.below (Below.refl _ _).drew)
theorem Cg.toWrote {c : Nat} {a w : World} (h : Cg (fun g => g = c ∨ a.heap.size ≤ g) a w) : Wrote c a w :=
 ⟨h.os, h.tape, h.output, h.size, fun g hg hn => h.block g hg (by rintro (e | e); exact hn (by rw [e]); omega)⟩
theorem Cg.at {S : Nat → Prop} {a w : World} {g : Nat} {o : Obj} (h : Cg S a w) (hb : a.heap[g]? = some o) (hs : ¬ S g) : w.heap[g]? = some o := (h.block g (block_lt hb) hs).trans hb

theorem Cur.cg {w w' : World} {c N : Nat} (h : Cur w c N) (hg : Cg (fun g => c < g) w w') : Cur w' c N := by
 obtain ⟨p, bs, cap, a, s, ⟨h1, h2, h3, h4⟩, h5⟩ := h
 refine ⟨p, bs, cap, a, s, ⟨hg.at h1 (by omega), ⟨h2.1, h2.2.1, fun i hi => ?_⟩, h3, h4⟩, h5⟩
 obtain ⟨b, off, ha, hc⟩ := h2.2.2 i hi
 refine ⟨b, off, ha, ?_⟩
 have hb := h3 (by omega) _ ha
 rw [World.cell?_of_block (hg.block b (cell_lt hc) (by simp at hb; omega))]
 exact hc
theorem OwnD.cg {α : Type} [Ow α] {B : Nat} {D : Nat → Prop} {e : TypeId} {w w' : World} {v : Value} {xs : List α} (h : OwnD B D e w v xs) {S : Nat → Prop} (hg : Cg S w w') (hd : ∀ g, D g → ¬ S g) : OwnD B D e w' v xs :=
 h.kept fun f hf hl => hg.block f hl (hd f hf)
theorem OwnIn.cg {α : Type} [Ow α] {lo hi : Nat} {w w' : World} {cs : List Value} {x : α} (h : OwnIn lo hi w cs x) {S : Nat → Prop} (hg : Cg S w w') (hd : ∀ g, lo ≤ g → g < hi → ¬ S g) : OwnIn lo hi w' cs x := by
 obtain ⟨fp, h, hl⟩ := h
 exact ⟨fp, Ow.kept h fun g hm => hg.block g (Ow.lt h g hm) (hd g (hl g hm).1 (hl g hm).2), hl⟩
theorem Own.cg {α : Type} [Ow α] {lo : Nat} {w w' : World} {cs : List Value} {x : α} (h : Own lo w cs x) {S : Nat → Prop} (hg : Cg S w w') (hd : ∀ g, lo ≤ g → ¬ S g) : Own lo w' cs x := by
 obtain ⟨fp, h, hl⟩ := h
 exact ⟨fp, Ow.kept h fun g hm => hg.block g (Ow.lt h g hm) (hd g (hl g hm)), hl⟩
theorem OwnI.cg {B : Nat} {w w' : World} {v : Value} {xs : List Int} (h : OwnI B w v xs) {S : Nat → Prop} (hg : Cg S w w') (hd : ∀ g, S g → g < B) : OwnI B w' v xs := by
 obtain ⟨⟨h1, h2⟩, h3⟩ := h
 refine ⟨⟨h1, ?_⟩, h3⟩
 rcases h2 with h2 | ⟨g, cap, cur, e, hB, hh, hr⟩
 ·exact .inl h2
 ·exact .inr ⟨g, cap, cur, e, hB, hg.at hh (fun hs => by have := hd g hs; omega), hr⟩
theorem OwnF.cg {α : Type} [Fl α] {B : Nat} {e : TypeId} {w w' : World} {v : Value} {xs : List α} (h : OwnF B e w v xs) {S : Nat → Prop} (hg : Cg S w w') (hd : ∀ g, S g → g < B) : OwnF B e w' v xs := by
 obtain ⟨⟨h1, h2⟩, h3⟩ := h
 refine ⟨⟨h1, ?_⟩, h3⟩
 rcases h2 with h2 | ⟨g, cap, cur, e, hB, hh, hr⟩
 ·exact .inl h2
 ·exact .inr ⟨g, cap, cur, e, hB, hg.at hh (fun hs => by have := hd g hs; omega), hr⟩

/-- A box of cells: what it holds, and that it can be written. -/
theorem box_cells {w : World} {g : Nat} {cs : List Value} {e : TypeId} (h : w.heap[g]? = some (.cells cs.toArray e (0, 0))) : Cells w g 0 cs := fun j v hv => by
 rw [Nat.zero_add, cell_of_row w g j _ _ _ h]; simpa using hv
theorem box_set {w : World} {g i : Nat} {cs : List Value} {e : TypeId} (h : w.heap[g]? = some (.cells cs.toArray e (0, 0))) (v : Value) : (w.setCell ⟨g, i, none⟩ v).heap[g]? = some (.cells (cs.set i v).toArray e (0, 0)) := by
 rw [heap_setCell_same w g i _ _ v h]
 simp

theorem lit_calls (c N : Nat) (n : Int) (w : World) (h : Cur w c N) (hN : N ≤ 100000000) (hn : 2 ≤ n ∧ n ≤ 100) :
  Calls Tryz.prog 224 #[.pointer (some ⟨c, 0, none⟩), .int .i64 n] w fun e w' => ∃ l : Int, e = .returned (.int .i64 l) ∧ (-100 ≤ l ∧ l ≤ 100) ∧ Cur w' c (N + 2) ∧ Wrote c w w' := by
 go_enter Tryz.func224, Tryz.ntmps224
 go_wp2_with fail
 refine (pick_calls c N n w h (by omega) ⟨by omega, by omega⟩).mono ?_
 rintro e w1 ⟨r, ⟨hr0, hr1, _⟩, rfl, hc, hw⟩
 have hr1 := hr1 (by omega)
 go_wp2_with fail
 refine (pick_calls c (N + 1) 3 w1 hc (by omega) ⟨by omega, by omega⟩).mono ?_
 rintro e w2 ⟨s, ⟨hs0, hs1, _⟩, rfl, hc2, hw2⟩
 by_cases e0 : s = 0
 ·subst e0
  go_wp2
  go_ret
  exact ⟨_, rfl, by omega, hc2, hw.trans hw2⟩
 ·have eb0 : (s == 0) = false := by simpa using e0
  go_wp2
  go_ret
  exact ⟨_, rfl, by omega, hc2, hw.trans hw2⟩

end Go.Proofs.YthikhkeofcjdfaaGreat
