/-
 Common ground of this seat's proofs: a slice of ints that is only read, as a list. No condition of its own.
-/
import Derived.Test.YthikhkeofcjdfaaGreatRows
import Derived.WalkKit
import Derived.WalkLawsBesides
import Derived.WalkSpells
import Derived.BigQuiet
import Derived.Deep.QuietTactic
import Derived.RegionTactic
import Derived.ChangeAlike
import Derived.Below
import Derived.Lib.Hide
import Derived.Outline
import Derived.LoopTactic
import Derived.OpenShut
namespace Go.Proofs.YthikhkeofcjdfaaGreat
set_option linter.unusedVariables false
set_option linter.unusedSimpArgs false
open Go.RowKit

/-- Short names of what a slot is put by. -/
theorem put1 {α : Type} (l : List α) (i : Nat) (x : α) : l.toArray.setIfInBounds i x = (l.set i x).toArray := List.setIfInBounds_toArray ..
theorem put2 {α : Type} {x y : α} {l : List α} : (x :: l).set 0 y = y :: l := rfl
theorem put3 {α : Type} {x y : α} {l : List α} {n : Nat} : (x :: l).set (n + 1) y = x :: l.set n y := rfl
/-- The number fits 64 bits. -/
def Fits (n : Int) : Prop := -9223372036854775808 ≤ n ∧ n ≤ 9223372036854775807

/-- Element i of a list of ints: a name of its own, which the walk does not open. -/
def el (xs : List Int) (i : Nat) : Int := xs.getD i 0
theorem el_mem {xs : List Int} {k : Nat} (hk : k < xs.length) : el xs k ∈ xs := by
 unfold el; rw [List.getD_eq_getElem?_getD, List.getElem?_eq_getElem hk]; exact List.getElem_mem hk
theorem el_eq {xs : List Int} {k : Nat} (hk : k < xs.length) : el xs k = xs[k] := by
 unfold el; rw [List.getD_eq_getElem?_getD, List.getElem?_eq_getElem hk]; rfl
theorem take_el {xs : List Int} {k : Nat} (hk : k < xs.length) : xs.take (k + 1) = xs.take k ++ [el xs k] := by
 rw [List.take_succ_eq_append_getElem hk, el_eq hk]

theorem fits_small' {n : Int} (h0 : 0 ≤ n) (h1 : n ≤ 1000000000) : Fits n := ⟨by omega, by omega⟩
theorem ret_bool {a b : Bool} (h : a = b) : Ending.returned (.bool a) = .returned (.bool b) := by rw [h]
theorem ret_int {k : IntKind} {a b : Int} (h : a = b) : Ending.returned (.int k a) = .returned (.int k b) := by rw [h]

/-- The slice that begins at a reads in w as xs. -/
def Ints (w : World) (a : Option Addr) (xs : List Int) : Prop :=
 xs.length ≤ 9223372036854775807 ∧ (∀ n ∈ xs, Fits n) ∧
 ∀ i, i < xs.length → ∃ b off, a = some ⟨b, off, none⟩ ∧ w.cell? ⟨b, off + i, none⟩ = some (.int .i64 (el xs i))

theorem Ints.at {w : World} {a : Option Addr} {xs : List Int} (h : Ints w a xs) (hne : 0 < xs.length) :
  ∃ b off, a = some ⟨b, off, none⟩ ∧ ∀ i, i < xs.length → w.cell? ⟨b, off + i, none⟩ = some (.int .i64 (el xs i)) := by
 obtain ⟨b, off, ha, _⟩ := h.2.2 0 hne
 refine ⟨b, off, ha, fun i hi => ?_⟩
 obtain ⟨b', off', ha', hc⟩ := h.2.2 i hi
 rw [ha] at ha'
 cases ha'
 exact hc

theorem cell_lt {w : World} {p : Addr} {v : Value} (h : w.cell? p = some v) : p.block < w.heap.size := by
 apply Classical.byContradiction
 intro hn
 have : w.heap[p.block]? = none := by simp; omega
 simp [World.cell?, this] at h

theorem cell_kept {w w' : World} {p : Addr} {v : Value} (hb : Below w.heap.size w w') (h : w.cell? p = some v) : w'.cell? p = some v := by
 rw [hb.cell (cell_lt h)]; exact h

theorem Ints.later {w w' : World} {a : Option Addr} {xs : List Int} (h : Ints w a xs) (hb : Below w.heap.size w w') : Ints w' a xs :=
 ⟨h.1, h.2.1, fun i hi => by obtain ⟨b, off, ha, hc⟩ := h.2.2 i hi; exact ⟨b, off, ha, cell_kept hb hc⟩⟩

theorem info_int : (Tryz.prog.info? 3).map (fun i => (i.zero, i.size, i.bytes)) = some (some (.int .i64 0), 1, 8) := by kernel_rfl

/-- v is nil, or a row of the call's own (its block is B or a later one): it holds xs. -/
def OwnI (B : Nat) (w : World) (v : Value) (xs : List Int) : Prop :=
 w.ownsRow B 3 1 v xs.length (xs.map (Value.int .i64)) ∧ xs.length ≤ 9223372036854775807 ∧ ∀ n ∈ xs, Fits n

theorem el_map {xs : List Int} {k : Nat} (hk : k < xs.length) : (xs.map (Value.int .i64))[k]? = some (.int .i64 (el xs k)) := by
 rw [List.getElem?_map, List.getElem?_eq_getElem hk, el_eq hk]; rfl

theorem OwnI.open {B : Nat} {w : World} {v : Value} {xs : List Int} (h : OwnI B w v xs) :
  ∃ a cap, v = .slice a xs.length cap ∧ Ints w a xs ∧ (∀ p, a = some p → B ≤ p.block) := by
 obtain ⟨⟨h1, h2⟩, h3, h4⟩ := h
 rcases h2 with ⟨rfl, hn⟩ | ⟨g, cap, cur, rfl, hg, hh, hnc, hcm, hcs, ht⟩
 ·have : xs = [] := List.eq_nil_of_length_eq_zero hn
  subst this
  exact ⟨none, 0, rfl, ⟨h3, h4, fun i hi => absurd hi (by simp)⟩, fun p hp => by cases hp⟩
 ·refine ⟨some ⟨g, 0, none⟩, cap, rfl, ⟨h3, h4, fun i hi => ⟨g, 0, rfl, ?_⟩⟩, fun p hp => by cases hp; exact hg⟩
  have hr : w.ownsRow B 3 1 (.slice (some ⟨g, 0, none⟩) xs.length cap) xs.length (xs.map (Value.int .i64)) := ⟨h1, .inr ⟨g, cap, cur, rfl, hg, hh, hnc, hcm, hcs, ht⟩⟩
  have := hr.cellAt i (by omega)
  rw [Nat.zero_add, this, el_map hi]

theorem OwnI.kept {B : Nat} {w w' : World} {v : Value} {xs : List Int} (h : OwnI B w v xs) (hb : Below w.heap.size w w') : OwnI B w' v xs := by
 obtain ⟨⟨h1, h2⟩, h3, h4⟩ := h
 refine ⟨⟨h1, ?_⟩, h3, h4⟩
 rcases h2 with h2 | ⟨g, cap, cur, rfl, hg, hh, r⟩
 ·exact .inl h2
 ·refine .inr ⟨g, cap, cur, rfl, hg, ?_, r⟩
  have : g < w.heap.size := by
   apply Classical.byContradiction; intro hn
   have : w.heap[g]? = none := by simp; omega
   rw [this] at hh; cases hh
  rw [hb.block g this]; exact hh

theorem OwnI.mono {B B' : Nat} {w : World} {v : Value} {xs : List Int} (h : OwnI B w v xs) (hB : B' ≤ B) : OwnI B' w v xs := by
 obtain ⟨⟨h1, h2⟩, h3, h4⟩ := h
 refine ⟨⟨h1, ?_⟩, h3, h4⟩
 rcases h2 with h2 | ⟨g, cap, cur, rfl, hg, r⟩
 ·exact .inl h2
 ·exact .inr ⟨g, cap, cur, rfl, Nat.le_trans hB hg, r⟩

theorem OwnI.lt {B : Nat} {w : World} {v : Value} {xs : List Int} (h : OwnI B w v xs) {k : Nat} (hk : v.ownBlock = some k) : B ≤ k ∧ k < w.heap.size := h.1.lt k hk

theorem OwnI.grown {B : Nat} {w w' : World} {v : Value} {xs : List Int} {row : Option Nat} (h : OwnI B w v xs) (hg : w.grownBy w' row) (hne : v.ownBlock = none ∨ v.ownBlock ≠ row) : OwnI B w' v xs :=
 ⟨h.1.kept hg hne, h.2⟩

theorem OwnI.snoc {B : Nat} {w : World} {v : Value} {xs : List Int} {x : Int} (hr : w.ownsRow B 3 1 v (xs.length + 1) (xs.map (Value.int .i64) ++ [.int .i64 x])) (hl : xs.length + 1 ≤ 9223372036854775807) (hf : ∀ n ∈ xs, Fits n) (hx : Fits x) : OwnI B w v (xs ++ [x]) :=
 ⟨by simpa using hr, by simpa using hl, fun n hn => by rcases List.mem_append.1 hn with h | h; exact hf n h; simp at h; exact h ▸ hx⟩

/-- Two rows, the second made behind the first: their blocks differ. -/
theorem own_apart {B1 B2 : Nat} {w1 w2 : World} {v1 v2 : Value} {xs ys : List Int} (h1 : OwnI B1 w1 v1 xs) (h2 : OwnI B2 w2 v2 ys) (hB : w1.heap.size ≤ B2) : (v1.ownBlock = none ∨ v1.ownBlock ≠ v2.ownBlock) ∧ (v2.ownBlock = none ∨ v2.ownBlock ≠ v1.ownBlock) := by
 cases e1 : v1.ownBlock with
 | none => refine ⟨.inl rfl, ?_⟩; cases e2 : v2.ownBlock with
  | none => exact .inl rfl
  | some k => exact .inr (by simp)
 | some k1 => cases e2 : v2.ownBlock with
  | none => exact ⟨.inr (by simp), .inl rfl⟩
  | some k2 =>
   have a := (h1.lt e1).2
   have b := (h2.lt e2).1
   exact ⟨.inr (by simp; omega), .inr (by simp; omega)⟩

/-- A row that is being filled: the first k numbers, then zeros. -/
def rowI (xs : List Int) (k : Nat) : List Value := (xs.take k).map (Value.int .i64) ++ List.replicate (xs.length - k) (.int .i64 0)
theorem rowI_zero (xs : List Int) : rowI xs 0 = List.replicate xs.length (.int .i64 0) := by simp [rowI]
theorem rowI_all (xs : List Int) : rowI xs xs.length = xs.map (Value.int .i64) := by simp [rowI]
theorem rowI_len (xs : List Int) {k : Nat} (hk : k ≤ xs.length) : (rowI xs k).length = xs.length := by simp [rowI]; omega
theorem rowI_set {xs : List Int} {k : Nat} (hk : k < xs.length) : (rowI xs k).set k (.int .i64 (el xs k)) = rowI xs (k + 1) := by
 unfold rowI
 have hl : ((xs.take k).map (Value.int .i64)).length = k := by simp; omega
 obtain ⟨m, hm⟩ : ∃ m, xs.length - k = m + 1 := ⟨xs.length - k - 1, by omega⟩
 have hm' : xs.length - (k + 1) = m := by omega
 rw [hm, hm', take_el hk, List.map_append, List.set_append_right _ _ (by omega), hl]
 simp [List.replicate_succ]
theorem rowI_get {xs : List Int} {k : Nat} (hk : k < xs.length) : (rowI xs k)[k]? = some (.int .i64 0) := by
 unfold rowI
 have hl : ((xs.take k).map (Value.int .i64)).length = k := by simp; omega
 rw [List.getElem?_append_right (by omega), hl, Nat.sub_self]
 obtain ⟨m, hm⟩ : ∃ m, xs.length - k = m + 1 := ⟨xs.length - k - 1, by omega⟩
 rw [hm, List.replicate_succ]; rfl

/-- A contract that leaves the world alone, met inside a region that draws its order. -/
theorem quietS {P : Program} {f : FuncId} {args : Array Value} {w : World} {n : Nat} {v : Value}
  (h : Calls P f args (w.drewN n) fun e w' => e = .returned v ∧ w.drewN n = w') : Calls P f args (w.drewN n) fun e w'' => e = .returned v ∧ ∃ m, w'' = w.drewN m :=
 h.mono fun _ _ ⟨he, hm⟩ => ⟨he, n, hm.symm⟩

/-- WHAT THE WALK IS TOLD OF A SLICE OF INTEGERS THAT CAME IN. -/
def IsRow (k : IntKind) (w : World) (a : Option Addr) (len cap : Nat) (zs : List Int) : Prop :=
 (a = none ∧ len = 0 ∧ cap = 0 ∧ zs = []) ∨
 ∃ x, a = some x ∧ len ≤ cap ∧ cap ≤ maxLen ∧ zs.length = cap ∧ (∀ i, i < zs.length → w.cell? (x.add i) = some (.int k (zs.getD i 0))) ∧ ∀ n ∈ zs, (Lit.int k n).wf = true

theorem fits_of_wf {n : Int} (h : (Lit.int .i64 n).wf = true) : Fits n := by
 exact bounds_i64 h

theorem isRow_ints {w : World} {a : Option Addr} {len cap : Nat} {zs : List Int} (h : IsRow .i64 w a len cap zs) : ∃ xs : List Int, len = xs.length ∧ Ints w a xs := by
 rcases h with ⟨rfl, rfl, rfl, rfl⟩ | ⟨x, rfl, hl, hm, hz, hc, hw⟩
 ·exact ⟨[], rfl, by simp, by simp, by simp⟩
 ·unfold maxLen at hm
  refine ⟨zs.take len, by simp; omega, ⟨by simp; omega, fun n hn => fits_of_wf (hw n (List.mem_of_mem_take hn)), fun i hi => ?_⟩⟩
  have hi' : i < len := by simp at hi; omega
  obtain ⟨b, off, spot⟩ := x
  have h1 := hc i (by omega)
  have hspot : spot = none := by simpa [Addr.add] using World.cell?_spot (hc 0 (by omega))
  subst hspot
  refine ⟨b, off, rfl, ?_⟩
  have h2 : w.cell? ⟨b, off + i, none⟩ = some (.int .i64 (zs.getD i 0)) := by
   by_cases e : i = 0
   ·subst e; simpa [Addr.add] using h1
   ·simpa [Addr.add, e] using h1
  rw [h2]
  unfold el
  simp [List.getD_eq_getElem?_getD, List.getElem?_take, hi']

theorem OwnI.ints {B : Nat} {w : World} {p : Option Addr} {n c : Nat} {xs : List Int} (h : OwnI B w (.slice p n c) xs) : Ints w p xs := by
 obtain ⟨a, cap, hv, hi, _⟩ := h.open
 cases hv
 exact hi

theorem retI {B : Nat} {w w' : World} {e : Ending} {xs : List Int} (h : ∃ v, e = .returned v ∧ OwnI B w' v xs ∧ Below w.heap.size w w') :
  ∃ p c, e = .returned (.slice p xs.length c) ∧ OwnI B w' (.slice p xs.length c) xs ∧ Below w.heap.size w w' := by
 obtain ⟨v, rfl, ho, hb⟩ := h
 obtain ⟨p, c, rfl, _, _⟩ := ho.open
 exact ⟨p, c, rfl, ho, hb⟩

theorem _root_.Go.RowKit.Below.step {W w w' : World} (t : Below W.heap.size W w) (b : Below w.heap.size w w') : Below W.heap.size W w' := t.trans (b.mono t.size)

/-- A row of the call's own, B or later, has been written. -/
theorem _root_.Go.RowKit.Below.mark {W w w' : World} {r : Option Nat} (t : Below W.heap.size W w) (g : w.grownBy w' r) (h : ∀ k, r = some k → W.heap.size ≤ k) : Below W.heap.size W w' := t.grown g t.size h

theorem OwnI.new (w : World) (B : Nat) (hB : B ≤ w.heap.size) : OwnI B (w.alloc (.cells #[] 3)) (.slice (some ⟨w.heap.size, 0, none⟩) 0 0) [] :=
 ⟨World.ownsRow_lit w #[] 0 hB (by simp [maxLen]) (by simp), by simp, by simp⟩
theorem OwnI.nil (w : World) (B : Nat) : OwnI B w (.slice none 0 0) [] := ⟨World.ownsRow_nil _ _ _ _, by simp, by simp⟩

/-- 'out = append(out, n)' on a row of the call's own. -/
theorem wpList_append_int {ops : Array Oper} {rest : List Oper} {o : Oper} {a : Act} {Q : Exit → Act → World → Prop} {w : World} {B : Nat} {v : Value} {xs : List Int} {n : Int} (hgd : o.guard = none) (s x : Operand)
  (ho : o.op = .call { callee := .builtin .append, args := #[s, x], argTypes := #[26, 26] })
  (hs : a.eval s = v) (hown : OwnI B w v xs) (hx : a.eval x = .slice (some ⟨w.heap.size, 0, none⟩) 1 1) (hl : xs.length ≤ 1000000000) (hf : Fits n) (hB : B ≤ w.heap.size)
  (h : ∀ v' w', OwnI B w' v' (xs ++ [n]) → Below B w w' → w.grownBy w' v.ownBlock → wpList Tryz.prog ops Q rest (a.put o.dst v') w') : wpList Tryz.prog ops Q (o :: rest) a (w.alloc (.cells #[.int .i64 n] 3)) := by
 obtain ⟨i0, hi, hz0, hz1, hz2⟩ := info_parts info_int
 refine wpList_append_own _ hgd s x 26 ho B 3 i0 (.int .i64 0) 1 8 Tryz.underlying26 hi hz0 hz1 hz2 rfl (by decide) v xs.length (xs.map (Value.int .i64)) hs (hown.1.alloc _) ⟨w.heap.size, 0, none⟩ 1 1 [.int .i64 n] hx rfl ?_ ?_ ?_ ?_ ?_ ?_
 ·intro j u hj
  match j, hj with
  | 0, hj => simp at hj; subst hj; simp [Addr.add, World.cell?_alloc_at]
  | j + 1, hj => simp at hj
 ·intro u hu; simp at hu; subst hu; rfl
 ·unfold maxLen; omega
 ·omega
 ·simp; omega
 ·intro v' w' h1 h2 _
  have hg : w.grownBy w' v.ownBlock := by
   refine ⟨h2.os, h2.tape, h2.output, Nat.le_trans (by simp) h2.size, fun k hk hne => ?_⟩
   rw [h2.block k (by simp; omega) hne, Below.heap_alloc _ _ _ hk]
  exact h v' w' (OwnI.snoc h1 (by omega) hown.2.2 hf) ((Below.refl _ _).grown hg hB (fun k hk => (hown.lt hk).1)) hg

end Go.Proofs.YthikhkeofcjdfaaGreat
