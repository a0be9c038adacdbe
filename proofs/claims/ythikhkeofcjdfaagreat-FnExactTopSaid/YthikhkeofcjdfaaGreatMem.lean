/-
 Data in memory: what a value reads as (Rd), and what a call owns (Ow: with the list of its blocks). No condition of its own.
-/
import Derived.Test.YthikhkeofcjdfaaGreatBase
namespace Go.Proofs.YthikhkeofcjdfaaGreat
set_option linter.unusedVariables false
set_option linter.unusedSimpArgs false
open Go.RowKit
set_option maxRecDepth 100000

/-- The cells from an address on. -/
def Cells (w : World) (b off : Nat) (cs : List Value) : Prop := ∀ j v, cs[j]? = some v → w.cell? ⟨b, off + j, none⟩ = some v

theorem Cells.later {w w' : World} {b off : Nat} {cs : List Value} (h : Cells w b off cs) (hb : Below w.heap.size w w') : Cells w' b off cs := fun j v hv => cell_kept hb (h j v hv)
theorem Cells.c0 {w : World} {b off : Nat} {v : Value} {r : List Value} (h : Cells w b off (v :: r)) : w.cell? ⟨b, off, none⟩ = some v := h 0 v rfl
theorem Cells.c1 {w : World} {b off : Nat} {v0 v : Value} {r : List Value} (h : Cells w b off (v0 :: v :: r)) : w.cell? ⟨b, off + 1, none⟩ = some v := h 1 v rfl
theorem Cells.c2 {w : World} {b off : Nat} {v0 v1 v : Value} {r : List Value} (h : Cells w b off (v0 :: v1 :: v :: r)) : w.cell? ⟨b, off + 2, none⟩ = some v := h 2 v rfl
theorem Cells.c3 {w : World} {b off : Nat} {v0 v1 v2 v : Value} {r : List Value} (h : Cells w b off (v0 :: v1 :: v2 :: v :: r)) : w.cell? ⟨b, off + 3, none⟩ = some v := h 3 v rfl
theorem Cells.c4 {w : World} {b off : Nat} {v0 v1 v2 v3 v : Value} {r : List Value} (h : Cells w b off (v0 :: v1 :: v2 :: v3 :: v :: r)) : w.cell? ⟨b, off + 4, none⟩ = some v := h 4 v rfl

/-- Element i of a list: a name of its own, which the walk does not open. -/
def nth {α : Type} [Inhabited α] (xs : List α) (i : Nat) : α := xs.getD i default
theorem nth_eq {α : Type} [Inhabited α] {xs : List α} {k : Nat} (hk : k < xs.length) : nth xs k = xs[k] := by
 unfold nth; rw [List.getD_eq_getElem?_getD, List.getElem?_eq_getElem hk]; rfl
theorem nth_mem {α : Type} [Inhabited α] {xs : List α} {k : Nat} (hk : k < xs.length) : nth xs k ∈ xs := by
 rw [nth_eq hk]; exact List.getElem_mem hk
theorem take_nth {α : Type} [Inhabited α] {xs : List α} {k : Nat} (hk : k < xs.length) : xs.take (k + 1) = xs.take k ++ [nth xs k] := by
 rw [List.take_succ_eq_append_getElem hk, nth_eq hk]
theorem nth_el {xs : List Int} {k : Nat} : nth xs k = el xs k := rfl

/-- A kind of data that can be read in memory: k cells. -/
class Rd (α : Type) extends Inhabited α where
 k : Nat
 R : World → List Value → α → Prop
 len : ∀ {w : World} {cs : List Value} {x : α}, R w cs x → cs.length = k
 one : ∀ {w : World} {cs : List Value} {x : α}, R w cs x → ∀ v ∈ cs, v.oneCell' = true
 mono : ∀ {w w' : World} {cs : List Value} {x : α}, Below w.heap.size w w' → R w cs x → R w' cs x

/-- The slice that begins at a reads in w as xs. -/
def Row {α : Type} [Rd α] (w : World) (a : Option Addr) (xs : List α) : Prop :=
 xs.length ≤ 9223372036854775807 ∧ ∀ i, i < xs.length → ∃ b off cs, a = some ⟨b, off, none⟩ ∧ Cells w b (off + i * Rd.k α) cs ∧ Rd.R w cs (nth xs i)

theorem Row.later {α : Type} [Rd α] {w w' : World} {a : Option Addr} {xs : List α} (h : Row w a xs) (hb : Below w.heap.size w w') : Row w' a xs :=
 ⟨h.1, fun i hi => by obtain ⟨b, off, cs, ha, hc, hr⟩ := h.2 i hi; exact ⟨b, off, cs, ha, hc.later hb, Rd.mono hb hr⟩⟩

theorem Row.base {α : Type} [Rd α] {w : World} {a : Option Addr} {xs : List α} (h : Row w a xs) (hne : 0 < xs.length) :
  ∃ b off, a = some ⟨b, off, none⟩ ∧ ∀ i, i < xs.length → ∃ cs, Cells w b (off + i * Rd.k α) cs ∧ Rd.R w cs (nth xs i) := by
 obtain ⟨b, off, _, ha, _⟩ := h.2 0 hne
 refine ⟨b, off, ha, fun i hi => ?_⟩
 obtain ⟨b', off', cs, ha', hc, hr⟩ := h.2 i hi
 rw [ha] at ha'
 cases ha'
 exact ⟨cs, hc, hr⟩

/-- A slice's value reads as xs. -/
def RdL {α : Type} [Rd α] (w : World) (cs : List Value) (xs : List α) : Prop :=
 ∃ a cap, cs = [.slice a xs.length cap] ∧ xs.length ≤ cap ∧ cap ≤ 9223372036854775807 ∧ Row w a xs

theorem RdL.one {α : Type} [Rd α] {w : World} {cs : List Value} {xs : List α} (h : RdL w cs xs) : ∀ v ∈ cs, v.oneCell' = true := by
 obtain ⟨a, cap, rfl, _⟩ := h; simp [Value.oneCell']
theorem RdL.sl {α : Type} [Rd α] {w : World} {v : Value} {xs : List α} (h : RdL w [v] xs) : ∃ a cap, v = .slice a xs.length cap ∧ (xs.length ≤ cap ∧ cap ≤ 9223372036854775807) ∧ Row w a xs := by
 obtain ⟨a, cap, he, h1, h2, h3⟩ := h
 simp at he
 exact ⟨a, cap, he, ⟨h1, h2⟩, h3⟩
theorem RdL.one1 {α : Type} [Rd α] {w : World} {c : Value} {xs : List α} (h : RdL w [c] xs) : c.oneCell' = true := h.one c (List.mem_singleton.2 rfl)

theorem one_int (k : IntKind) (n : Int) : (Value.int k n).oneCell' = true := rfl
theorem one_bool (b : Bool) : (Value.bool b).oneCell' = true := rfl
theorem one_str (s : ByteArray) : (Value.string s).oneCell' = true := rfl

instance instRdInt : Rd Int where
 k := 1
 R _ cs n := cs = [.int .i64 n] ∧ Fits n
 len := fun h => by rw [h.1]; rfl
 one := fun h => by rw [h.1]; simp [Value.oneCell']
 mono := fun _ h => h
instance instRdBytes : Rd ByteArray where
 k := 1
 R _ cs s := cs = [.string s] ∧ s.size ≤ 9223372036854775807
 len := fun h => by rw [h.1]; rfl
 one := fun h => by rw [h.1]; simp [Value.oneCell']
 mono := fun _ h => h
/-- A struct of two ints. -/
instance instRdPair : Rd (Int × Int) where
 k := 2
 R _ cs p := cs = [.int .i64 p.1, .int .i64 p.2] ∧ Fits p.1 ∧ Fits p.2
 len := fun h => by rw [h.1]; rfl
 one := fun h => by rw [h.1]; simp [Value.oneCell']
 mono := fun _ h => h
instance instRdList {α : Type} [Rd α] : Rd (List α) where
 k := 1
 R := RdL
 len := fun h => by obtain ⟨a, cap, rfl, _⟩ := h; rfl
 one := RdL.one
 mono := fun hb h => by obtain ⟨a, cap, e, h1, h2, h3⟩ := h; exact ⟨a, cap, e, h1, h2, h3.later hb⟩

structure RuleD where
 choice : Bool
 heads : List Int
 weight : Bool
 bound : Int
 body : List (Int × Int)
instance : Inhabited RuleD := ⟨⟨false, [], false, 0, []⟩⟩
structure LevelD where
 p : Int
 lits : List (Int × Int)
instance : Inhabited LevelD := ⟨⟨0, []⟩⟩
structure ShowD where
 text : ByteArray
 cond : List Int
instance : Inhabited ShowD := ⟨⟨default, []⟩⟩
structure ProgD where
 atoms : Int
 rules : List RuleD
 levels : List LevelD
 projOn : Bool
 project : List Int
 shows : List ShowD
 exts : List (Int × Int)
 assume : List Int
instance : Inhabited ProgD := ⟨⟨0, [], [], false, [], [], [], []⟩⟩

instance instRdRule : Rd RuleD where
 k := 5
 R w cs r := ∃ c1 c4, cs = [.bool r.choice, c1, .bool r.weight, .int .i64 r.bound, c4] ∧ Fits r.bound ∧ RdL w [c1] r.heads ∧ RdL w [c4] r.body
 len := fun h => by obtain ⟨_, _, rfl, _⟩ := h; rfl
 one := fun h => by obtain ⟨_, _, rfl, _, h1, h4⟩ := h; simp [one_int, one_bool, one_str, h1.one1, h4.one1]
 mono := fun hb h => by obtain ⟨c1, c4, e, hf, h1, h2⟩ := h; exact ⟨c1, c4, e, hf, Rd.mono (α := List Int) hb h1, Rd.mono (α := List (Int × Int)) hb h2⟩
instance instRdLevel : Rd LevelD where
 k := 2
 R w cs r := ∃ c1, cs = [.int .i64 r.p, c1] ∧ Fits r.p ∧ RdL w [c1] r.lits
 len := fun h => by obtain ⟨_, rfl, _⟩ := h; rfl
 one := fun h => by obtain ⟨_, rfl, _, h1⟩ := h; simp [one_int, one_bool, one_str, h1.one1]
 mono := fun hb h => by obtain ⟨c1, e, hf, h1⟩ := h; exact ⟨c1, e, hf, Rd.mono (α := List (Int × Int)) hb h1⟩
instance instRdShow : Rd ShowD where
 k := 2
 R w cs r := ∃ c1, cs = [.string r.text, c1] ∧ r.text.size ≤ 9223372036854775807 ∧ RdL w [c1] r.cond
 len := fun h => by obtain ⟨_, rfl, _⟩ := h; rfl
 one := fun h => by obtain ⟨_, rfl, _, h1⟩ := h; simp [one_int, one_bool, one_str, h1.one1]
 mono := fun hb h => by obtain ⟨c1, e, hf, h1⟩ := h; exact ⟨c1, e, hf, Rd.mono (α := List Int) hb h1⟩
instance instRdProg : Rd ProgD where
 k := 8
 R w cs p := ∃ c1 c2 c4 c5 c6 c7, cs = [.int .i64 p.atoms, c1, c2, .bool p.projOn, c4, c5, c6, c7] ∧ Fits p.atoms ∧ RdL w [c1] p.rules ∧ RdL w [c2] p.levels ∧ RdL w [c4] p.project ∧ RdL w [c5] p.shows ∧ RdL w [c6] p.exts ∧ RdL w [c7] p.assume
 len := fun h => by obtain ⟨_, _, _, _, _, _, rfl, _⟩ := h; rfl
 one := fun h => by obtain ⟨_, _, _, _, _, _, rfl, _, h1, h2, h4, h5, h6, h7⟩ := h; simp [one_int, one_bool, one_str, h1.one1, h2.one1, h4.one1, h5.one1, h6.one1, h7.one1]
 mono := fun hb h => by
  obtain ⟨c1, c2, c4, c5, c6, c7, e, hf, h1, h2, h4, h5, h6, h7⟩ := h
  exact ⟨c1, c2, c4, c5, c6, c7, e, hf, Rd.mono (α := List RuleD) hb h1, Rd.mono (α := List LevelD) hb h2, Rd.mono (α := List Int) hb h4, Rd.mono (α := List ShowD) hb h5, Rd.mono (α := List (Int × Int)) hb h6, Rd.mono (α := List Int) hb h7⟩

/-- A list of ints, in both words. -/
theorem Row.ints {w : World} {a : Option Addr} {xs : List Int} (h : Row w a xs) : Ints w a xs := by
 refine ⟨h.1, fun n hn => ?_, fun i hi => ?_⟩
 ·obtain ⟨i, hi, rfl⟩ := List.getElem_of_mem hn
  obtain ⟨_, _, _, _, _, _, hf⟩ := h.2 i hi
  rwa [nth_eq hi] at hf
 ·obtain ⟨b, off, cs, ha, hc, rfl, _⟩ := h.2 i hi
  exact ⟨b, off, ha, by have := hc.c0; rwa [show Rd.k Int = 1 from rfl, Nat.mul_one] at this⟩
theorem Ints.row {w : World} {a : Option Addr} {xs : List Int} (h : Ints w a xs) : Row w a xs := by
 refine ⟨h.1, fun i hi => ?_⟩
 obtain ⟨b, off, ha, hc⟩ := h.2.2 i hi
 refine ⟨b, off, [.int .i64 (nth xs i)], ha, fun j v hv => ?_, rfl, h.2.1 _ (nth_mem hi)⟩
 match j, hv with
 | 0, hv => simp at hv; subst hv; rw [show Rd.k Int = 1 from rfl, Nat.mul_one]; exact hc
 | j + 1, hv => simp at hv

/-- A store of a value of one cell, whatever it is. -/
theorem sto (P : Program) {v : Value} (h : v.oneCell' = true) : ∀ (w : World) (a : Addr) (m : Mode), (store a v m).run P w = stored P w a v m := fun w a m => run_store P w a v m h

/-- All that lay below reads as before. -/
theorem bcell {W w1 : World} (hb : Below W.heap.size W w1) : (∀ b o, b < W.heap.size → w1.cell? ⟨b, o, none⟩ = W.cell? ⟨b, o, none⟩) ∧ (∀ b o, b < W.heap.size → w1.frozen? ⟨b, o, none⟩ = W.frozen? ⟨b, o, none⟩) :=
 ⟨fun b o h => hb.cell (p := ⟨b, o, none⟩) h, fun b o h => hb.frozen (p := ⟨b, o, none⟩) h⟩

/-- Lists of a known length. -/
theorem list2 {cs : List Value} (h : cs.length = 2) : ∃ a b, cs = [a, b] := by
 match cs, h with
 | [a, b], _ => exact ⟨a, b, rfl⟩
theorem list8 {cs : List Value} (h : cs.length = 8) : ∃ a b c d e f g i, cs = [a, b, c, d, e, f, g, i] := by
 match cs, h with
 | [a, b, c, d, e, f, g, i], _ => exact ⟨a, b, c, d, e, f, g, i, rfl⟩
theorem list5 {cs : List Value} (h : cs.length = 5) : ∃ a b c d e, cs = [a, b, c, d, e] := by
 match cs, h with
 | [a, b, c, d, e], _ => exact ⟨a, b, c, d, e, rfl⟩

/-- Only the blocks of a list have been written; none is new. -/
structure ChgF (fp : List Nat) (w w' : World) : Prop where
 os : w'.os = w.os
 tape : w'.tape = w.tape
 output : w'.output = w.output
 size : w'.heap.size = w.heap.size
 block : ∀ g, g ∉ fp → w'.heap[g]? = w.heap[g]?
theorem ChgF.refl (fp : List Nat) (w : World) : ChgF fp w w := ⟨rfl, rfl, rfl, rfl, fun _ _ => rfl⟩
theorem ChgF.trans {fp : List Nat} {a b c : World} (h : ChgF fp a b) (k : ChgF fp b c) : ChgF fp a c :=
 ⟨k.os.trans h.os, k.tape.trans h.tape, k.output.trans h.output, k.size.trans h.size, fun g hg => (k.block g hg).trans (h.block g hg)⟩
theorem ChgF.more {fp fp' : List Nat} {a b : World} (h : ChgF fp a b) (hs : ∀ g ∈ fp, g ∈ fp') : ChgF fp' a b :=
 ⟨h.os, h.tape, h.output, h.size, fun g hg => h.block g fun hm => hg (hs g hm)⟩
theorem ChgF.below {fp : List Nat} {w w' : World} {lo : Nat} (h : ChgF fp w w') (hl : ∀ g ∈ fp, lo ≤ g) : Below lo w w' :=
 ⟨h.os, h.tape, h.output, Nat.le_of_eq h.size.symm, fun k hk => h.block k fun hm => by have := hl k hm; omega⟩

/-- Stores into neighbouring cells. -/
def put (w : World) (g o : Nat) : List Value → World
 | [] => w
 | v :: r => put (w.setCell ⟨g, o, none⟩ v) g (o + 1) r
theorem put_chg (g : Nat) : ∀ (cs : List Value) (w : World) (o : Nat), ChgF [g] w (put w g o cs)
 | [], w, o => ChgF.refl _ _
 | v :: r, w, o => by
  have h1 : ChgF [g] w (w.setCell ⟨g, o, none⟩ v) := ⟨rfl, rfl, rfl, by simp [World.setCell], fun k hk => Below.heap_setCell _ _ _ _ (by simpa using hk)⟩
  exact h1.trans (put_chg g r _ _)
theorem put_block (g : Nat) (e : TypeId) : ∀ (cs : List Value) (w : World) (o : Nat) (cur : Array Value), w.heap[g]? = some (.cells cur e (0, 0)) → o + cs.length ≤ cur.size →
  ∃ cur', (put w g o cs).heap[g]? = some (.cells cur' e (0, 0)) ∧ cur'.size = cur.size ∧ ∀ j, cur'[j]? = if o ≤ j ∧ j < o + cs.length then cs[j - o]? else cur[j]?
 | [], w, o, cur, h, _ => ⟨cur, h, rfl, fun j => by rw [if_neg (by simp)]⟩
 | v :: r, w, o, cur, h, hl => by
  have h1 := heap_setCell_same w g o cur e v h
  obtain ⟨cur', h2, h3, h4⟩ := put_block g e r (w.setCell ⟨g, o, none⟩ v) (o + 1) _ h1 (by simp at hl ⊢; omega)
  refine ⟨cur', h2, by rw [h3]; simp, fun j => ?_⟩
  rw [h4]
  simp only [List.length_cons] at hl ⊢
  by_cases e1 : o + 1 ≤ j ∧ j < o + 1 + r.length
  ·rw [if_pos e1, if_pos (by omega)]
   obtain ⟨m, hm⟩ : ∃ m, j - o = m + 1 := ⟨j - o - 1, by omega⟩
   rw [hm, List.getElem?_cons_succ, show j - (o + 1) = m by omega]
  ·rw [if_neg e1]
   by_cases e2 : j = o
   ·subst e2
    rw [if_pos (by omega), Nat.sub_self, Array.getElem?_setIfInBounds_self_of_lt (by omega)]; rfl
   ·rw [if_neg (by omega), Array.getElem?_setIfInBounds_ne (by omega)]

/-- Data that a call owns: the list of its blocks. -/
class Ow (α : Type) extends Rd α where
 O : World → List Value → α → List Nat → Prop
 rd : ∀ {w : World} {cs : List Value} {x : α} {fp : List Nat}, O w cs x fp → Rd.R w cs x
 lt : ∀ {w : World} {cs : List Value} {x : α} {fp : List Nat}, O w cs x fp → ∀ g ∈ fp, g < w.heap.size
 kept : ∀ {w w' : World} {cs : List Value} {x : α} {fp : List Nat}, O w cs x fp → (∀ g ∈ fp, w'.heap[g]? = w.heap[g]?) → O w' cs x fp
 nodup : ∀ {w : World} {cs : List Value} {x : α} {fp : List Nat}, O w cs x fp → fp.Nodup

theorem Cells.kept {w w' : World} {g o : Nat} {cs : List Value} (h : Cells w g o cs) (hk : w'.heap[g]? = w.heap[g]?) : Cells w' g o cs :=
 fun j v hv => (World.cell?_of_block (w := w) (a := ⟨g, o + j, none⟩) hk).trans (h j v hv)

/-- A slice of the call's own: its block and those of its elements. -/
def OwL {α : Type} [Ow α] (w : World) (cs : List Value) (xs : List α) (fp : List Nat) : Prop :=
 ∃ a cap, cs = [.slice a xs.length cap] ∧ xs.length ≤ cap ∧ cap ≤ 9223372036854775807 ∧
  ((xs = [] ∧ fp = [] ∧ cap = 0) ∨ ∃ g e cur fps, a = some ⟨g, 0, none⟩ ∧ w.heap[g]? = some (.cells cur e (0, 0)) ∧ cap * Rd.k α ≤ cur.size ∧ fps.length = xs.length ∧
   fp = g :: List.flatten fps ∧ fp.Nodup ∧ ∀ i, i < xs.length → ∃ ecs, Cells w g (i * Rd.k α) ecs ∧ Ow.O w ecs (nth xs i) (fps.getD i []))

theorem mem_flat {fps : List (List Nat)} {i : Nat} {g : Nat} (h : g ∈ fps.getD i []) : g ∈ fps.flatten := by
 rw [List.getD_eq_getElem?_getD] at h
 cases hf : fps[i]? with
 | none => rw [hf] at h; simp at h
 | some f => rw [hf] at h; exact List.mem_flatten.2 ⟨f, List.mem_of_getElem? hf, h⟩
theorem flat_mem {fps : List (List Nat)} {g : Nat} (h : g ∈ fps.flatten) : ∃ i, i < fps.length ∧ g ∈ fps.getD i [] := by
 obtain ⟨f, hf, hg⟩ := List.mem_flatten.1 h
 obtain ⟨i, hi, rfl⟩ := List.getElem_of_mem hf
 exact ⟨i, hi, by rw [List.getD_eq_getElem?_getD, List.getElem?_eq_getElem hi]; exact hg⟩

theorem OwL.rd {α : Type} [Ow α] {w : World} {cs : List Value} {xs : List α} {fp : List Nat} (h : OwL w cs xs fp) : RdL w cs xs := by
 obtain ⟨a, cap, rfl, h1, h2, h3⟩ := h
 refine ⟨a, cap, rfl, h1, h2, by omega, fun i hi => ?_⟩
 rcases h3 with ⟨rfl, _⟩ | ⟨g, e, cur, fps, rfl, _, _, _, _, _, h4⟩
 ·simp at hi
 ·obtain ⟨ecs, hc, ho⟩ := h4 i hi
  exact ⟨g, 0, ecs, rfl, by rw [Nat.zero_add]; exact hc, Ow.rd ho⟩
theorem block_lt {w : World} {g : Nat} {o : Obj} (h : w.heap[g]? = some o) : g < w.heap.size := (Array.getElem?_eq_some_iff.1 h).1

instance instOwInt : Ow Int where
 O w cs x fp := Rd.R w cs x ∧ fp = []
 rd := fun h => h.1
 lt := fun h g hg => by rw [h.2] at hg; cases hg
 kept := fun h _ => h
 nodup := fun h => by rw [h.2]; exact List.nodup_nil
instance instOwPair : Ow (Int × Int) where
 O w cs x fp := Rd.R w cs x ∧ fp = []
 rd := fun h => h.1
 lt := fun h g hg => by rw [h.2] at hg; cases hg
 kept := fun h _ => h
 nodup := fun h => by rw [h.2]; exact List.nodup_nil
instance instOwBytes : Ow ByteArray where
 O w cs x fp := Rd.R w cs x ∧ fp = []
 rd := fun h => h.1
 lt := fun h g hg => by rw [h.2] at hg; cases hg
 kept := fun h _ => h
 nodup := fun h => by rw [h.2]; exact List.nodup_nil
instance instOwList {α : Type} [Ow α] : Ow (List α) where
 O := OwL
 rd := OwL.rd
 lt := fun h g hg => by
  obtain ⟨a, cap, rfl, _, _, h3⟩ := h
  rcases h3 with ⟨_, rfl, _⟩ | ⟨g', e, cur, fps, rfl, hh, _, hl, rfl, _, h4⟩
  ·cases hg
  ·rcases List.mem_cons.1 hg with rfl | hg
   ·exact block_lt hh
   ·obtain ⟨i, hi, hm⟩ := flat_mem hg
    obtain ⟨ecs, _, ho⟩ := h4 i (by omega)
    exact Ow.lt ho g hm
 kept := fun h hk => by
  obtain ⟨a, cap, rfl, h1, h2, h3⟩ := h
  refine ⟨a, cap, rfl, h1, h2, ?_⟩
  rcases h3 with h3 | ⟨g', e, cur, fps, rfl, hh, hs, hl, rfl, hn, h4⟩
  ·exact .inl h3
  ·have hg := hk g' (List.mem_cons_self ..)
   refine .inr ⟨g', e, cur, fps, rfl, hg.trans hh, hs, hl, rfl, hn, fun i hi => ?_⟩
   obtain ⟨ecs, hc, ho⟩ := h4 i hi
   exact ⟨ecs, hc.kept hg, Ow.kept ho fun x hx => hk x (List.mem_cons_of_mem _ (mem_flat hx))⟩
 nodup := fun h => by
  obtain ⟨a, cap, rfl, _, _, h3⟩ := h
  rcases h3 with ⟨_, rfl, _⟩ | ⟨g', e, cur, fps, rfl, _, _, _, rfl, hn, _⟩
  ·exact List.nodup_nil
  ·exact hn

/-- Blocks of two parts. -/
theorem two_lt {w : World} {f1 f2 : List Nat} (h1 : ∀ g ∈ f1, g < w.heap.size) (h2 : ∀ g ∈ f2, g < w.heap.size) : ∀ g ∈ f1 ++ f2, g < w.heap.size := fun g hg => (List.mem_append.1 hg).elim (h1 g) (h2 g)

instance instOwRule : Ow RuleD where
 O w cs r fp := ∃ c1 c4 f1 f2, cs = [.bool r.choice, c1, .bool r.weight, .int .i64 r.bound, c4] ∧ Fits r.bound ∧ OwL w [c1] r.heads f1 ∧ OwL w [c4] r.body f2 ∧ fp = f1 ++ f2 ∧ fp.Nodup
 rd := fun ⟨c1, c4, _, _, e, hf, h1, h2, _⟩ => ⟨c1, c4, e, hf, h1.rd, h2.rd⟩
 lt := fun ⟨_, _, _, _, _, _, h1, h2, e, _⟩ => by rw [e]; exact two_lt (Ow.lt (α := List Int) h1) (Ow.lt (α := List (Int × Int)) h2)
 kept := fun ⟨c1, c4, f1, f2, e, hf, h1, h2, e2, hn⟩ hk => ⟨c1, c4, f1, f2, e, hf, Ow.kept (α := List Int) h1 fun g hg => hk g (by rw [e2]; exact List.mem_append_left _ hg), Ow.kept (α := List (Int × Int)) h2 fun g hg => hk g (by rw [e2]; exact List.mem_append_right _ hg), e2, hn⟩
 nodup := fun ⟨_, _, _, _, _, _, _, _, _, hn⟩ => hn
instance instOwLevel : Ow LevelD where
 O w cs r fp := ∃ c1, cs = [.int .i64 r.p, c1] ∧ Fits r.p ∧ OwL w [c1] r.lits fp
 rd := fun ⟨c1, e, hf, h1⟩ => ⟨c1, e, hf, h1.rd⟩
 lt := fun ⟨_, _, _, h1⟩ => Ow.lt (α := List (Int × Int)) h1
 kept := fun ⟨c1, e, hf, h1⟩ hk => ⟨c1, e, hf, Ow.kept (α := List (Int × Int)) h1 hk⟩
 nodup := fun ⟨_, _, _, h1⟩ => Ow.nodup (α := List (Int × Int)) h1
instance instOwShow : Ow ShowD where
 O w cs r fp := ∃ c1, cs = [.string r.text, c1] ∧ r.text.size ≤ 9223372036854775807 ∧ OwL w [c1] r.cond fp
 rd := fun ⟨c1, e, hf, h1⟩ => ⟨c1, e, hf, h1.rd⟩
 lt := fun ⟨_, _, _, h1⟩ => Ow.lt (α := List Int) h1
 kept := fun ⟨c1, e, hf, h1⟩ hk => ⟨c1, e, hf, Ow.kept (α := List Int) h1 hk⟩
 nodup := fun ⟨_, _, _, h1⟩ => Ow.nodup (α := List Int) h1

/-- The call's own, from block lo on. -/
def Own {α : Type} [Ow α] (lo : Nat) (w : World) (cs : List Value) (x : α) : Prop := ∃ fp, Ow.O w cs x fp ∧ ∀ g ∈ fp, lo ≤ g
theorem Own.rd {α : Type} [Ow α] {lo : Nat} {w : World} {cs : List Value} {x : α} (h : Own lo w cs x) : Rd.R w cs x := by obtain ⟨fp, h, _⟩ := h; exact Ow.rd h
theorem Own.later {α : Type} [Ow α] {lo : Nat} {w w' : World} {cs : List Value} {x : α} (h : Own lo w cs x) (hb : Below w.heap.size w w') : Own lo w' cs x := by
 obtain ⟨fp, h, hl⟩ := h
 exact ⟨fp, Ow.kept h fun g hg => hb.block g (Ow.lt h g hg), hl⟩
theorem Own.mono {α : Type} [Ow α] {lo lo' : Nat} {w : World} {cs : List Value} {x : α} (h : Own lo w cs x) (hl : lo' ≤ lo) : Own lo' w cs x := by
 obtain ⟨fp, h, hl'⟩ := h
 exact ⟨fp, h, fun g hg => Nat.le_trans hl (hl' g hg)⟩

theorem Own.setBelow {α : Type} [Ow α] {lo : Nat} {w : World} {cs : List Value} {x : α} (h : Own lo w cs x) {p : Addr} (hp : p.block < lo) (u : Value) : Own lo (w.setCell p u) cs x := by
 obtain ⟨fp, h, hl⟩ := h
 exact ⟨fp, Ow.kept h fun g hg => Below.heap_setCell _ _ _ _ (by have := hl g hg; omega), hl⟩
theorem Own.alloc {α : Type} [Ow α] {lo : Nat} {w : World} {cs : List Value} {x : α} (h : Own lo w cs x) (o : Obj) : Own lo (w.alloc o) cs x := h.later ((Below.refl _ _).alloc (Nat.le_refl _) o)

/-- The call's own, its blocks from lo to less than hi. -/
def OwnIn {α : Type} [Ow α] (lo hi : Nat) (w : World) (cs : List Value) (x : α) : Prop := ∃ fp, Ow.O w cs x fp ∧ ∀ g ∈ fp, lo ≤ g ∧ g < hi
theorem Own.shut {α : Type} [Ow α] {lo : Nat} {w : World} {cs : List Value} {x : α} (h : Own lo w cs x) : OwnIn lo w.heap.size w cs x := by
 obtain ⟨fp, h, hl⟩ := h
 exact ⟨fp, h, fun g hg => ⟨hl g hg, Ow.lt h g hg⟩⟩
theorem OwnIn.own {α : Type} [Ow α] {lo hi : Nat} {w : World} {cs : List Value} {x : α} (h : OwnIn lo hi w cs x) : Own lo w cs x := by
 obtain ⟨fp, h, hl⟩ := h
 exact ⟨fp, h, fun g hg => (hl g hg).1⟩
theorem OwnIn.rd {α : Type} [Ow α] {lo hi : Nat} {w : World} {cs : List Value} {x : α} (h : OwnIn lo hi w cs x) : Rd.R w cs x := h.own.rd
theorem OwnIn.later {α : Type} [Ow α] {lo hi : Nat} {w w' : World} {cs : List Value} {x : α} (h : OwnIn lo hi w cs x) (hb : Below w.heap.size w w') : OwnIn lo hi w' cs x := by
 obtain ⟨fp, h, hl⟩ := h
 exact ⟨fp, Ow.kept h fun g hg => hb.block g (Ow.lt h g hg), hl⟩
theorem OwnIn.mono {α : Type} [Ow α] {lo lo' hi hi' : Nat} {w : World} {cs : List Value} {x : α} (h : OwnIn lo hi w cs x) (h1 : lo' ≤ lo) (h2 : hi ≤ hi') : OwnIn lo' hi' w cs x := by
 obtain ⟨fp, h, hl⟩ := h
 exact ⟨fp, h, fun g hg => by have := hl g hg; omega⟩
theorem OwnIn.far {α : Type} [Ow α] {lo hi : Nat} {w : World} {cs : List Value} {x : α} (h : OwnIn lo hi w cs x) {p : Addr} (hp : p.block < lo ∨ hi ≤ p.block) (u : Value) : OwnIn lo hi (w.setCell p u) cs x := by
 obtain ⟨fp, h, hl⟩ := h
 exact ⟨fp, Ow.kept h fun g hg => Below.heap_setCell _ _ _ _ (by have := hl g hg; omega), hl⟩
theorem OwnIn.alloc {α : Type} [Ow α] {lo hi : Nat} {w : World} {cs : List Value} {x : α} (h : OwnIn lo hi w cs x) (o : Obj) : OwnIn lo hi (w.alloc o) cs x := h.later ((Below.refl _ _).alloc (Nat.le_refl _) o)

theorem OwnIn.adv1 {α : Type} [Ow α] {lo hi : Nat} {w w' : World} {cs : List Value} {x : α} {p : Addr} {u : Value} (h : OwnIn lo hi w cs x) (hp : p.block < lo) (hb : Below (w.setCell p u).heap.size (w.setCell p u) w') : OwnIn lo hi w' cs x :=
 (h.far (.inl hp) u).later hb
theorem OwnIn.adv2 {α : Type} [Ow α] {lo hi : Nat} {w w' : World} {cs : List Value} {x : α} {p q : Addr} {u v : Value} (h : OwnIn lo hi w cs x) (hp : p.block < lo) (hq : q.block < lo)
  (hb : Below ((w.setCell p u).setCell q v).heap.size ((w.setCell p u).setCell q v) w') : OwnIn lo hi w' cs x :=
 ((h.far (.inl hp) u).far (.inl hq) v).later hb

/-- Two parts that lie apart. -/
theorem nodup_two {f1 f2 : List Nat} {b c : Nat} (n1 : f1.Nodup) (n2 : f2.Nodup) (h1 : ∀ g ∈ f1, g < b) (h2 : ∀ g ∈ f2, c ≤ g) (hbc : b ≤ c) : (f1 ++ f2).Nodup :=
 List.nodup_append.2 ⟨n1, n2, fun a ha x hx e => by have := h1 a ha; have := h2 x hx; omega⟩

theorem own_rule {w : World} {a b c d lo : Nat} {c1 c4 : Value} {x : RuleD} (h1 : OwnIn a b w [c1] x.heads) (h4 : OwnIn c d w [c4] x.body) (hbc : b ≤ c) (hla : lo ≤ a) (hac : a ≤ c) (hf : Fits x.bound) :
  Own lo w [.bool x.choice, c1, .bool x.weight, .int .i64 x.bound, c4] x := by
 obtain ⟨f1, o1, l1⟩ := h1
 obtain ⟨f4, o4, l4⟩ := h4
 exact ⟨f1 ++ f4, ⟨c1, c4, f1, f4, rfl, hf, o1, o4, rfl, nodup_two (Ow.nodup o1) (Ow.nodup o4) (fun g hg => (l1 g hg).2) (fun g hg => (l4 g hg).1) hbc⟩,
  fun g hg => (List.mem_append.1 hg).elim (fun h => by have := l1 g h; omega) (fun h => by have := l4 g h; omega)⟩
theorem own_level {w : World} {lo : Nat} {c1 : Value} {x : LevelD} (h1 : Own lo w [c1] x.lits) (hf : Fits x.p) : Own lo w [.int .i64 x.p, c1] x := by
 obtain ⟨f1, o1, l1⟩ := h1
 exact ⟨f1, ⟨c1, rfl, hf, o1⟩, l1⟩
theorem own_show {w : World} {lo : Nat} {c1 : Value} {x : ShowD} (h1 : Own lo w [c1] x.cond) (hf : x.text.size ≤ 9223372036854775807) : Own lo w [.string x.text, c1] x := by
 obtain ⟨f1, o1, l1⟩ := h1
 exact ⟨f1, ⟨c1, rfl, hf, o1⟩, l1⟩

instance instOwProg : Ow ProgD where
 O w cs p fp := ∃ c1 c2 c4 c5 c6 c7 f1 f2 f4 f5 f6 f7, cs = [.int .i64 p.atoms, c1, c2, .bool p.projOn, c4, c5, c6, c7] ∧ Fits p.atoms ∧ OwL w [c1] p.rules f1 ∧ OwL w [c2] p.levels f2 ∧ OwL w [c4] p.project f4 ∧ OwL w [c5] p.shows f5 ∧ OwL w [c6] p.exts f6 ∧ OwL w [c7] p.assume f7 ∧
  fp = f1 ++ (f2 ++ (f4 ++ (f5 ++ (f6 ++ f7)))) ∧ fp.Nodup
 rd := fun ⟨c1, c2, c4, c5, c6, c7, _, _, _, _, _, _, e, hf, h1, h2, h4, h5, h6, h7, _⟩ => ⟨c1, c2, c4, c5, c6, c7, e, hf, h1.rd, h2.rd, h4.rd, h5.rd, h6.rd, h7.rd⟩
 lt := fun ⟨_, _, _, _, _, _, _, _, _, _, _, _, _, _, h1, h2, h4, h5, h6, h7, e, _⟩ => by
  rw [e]
  exact two_lt (Ow.lt (α := List RuleD) h1) (two_lt (Ow.lt (α := List LevelD) h2) (two_lt (Ow.lt (α := List Int) h4) (two_lt (Ow.lt (α := List ShowD) h5) (two_lt (Ow.lt (α := List (Int × Int)) h6) (Ow.lt (α := List Int) h7)))))
 kept := fun ⟨c1, c2, c4, c5, c6, c7, f1, f2, f4, f5, f6, f7, e, hf, h1, h2, h4, h5, h6, h7, e2, hn⟩ hk => by
  subst e2
  simp only [List.mem_append] at hk
  exact ⟨c1, c2, c4, c5, c6, c7, f1, f2, f4, f5, f6, f7, e, hf, Ow.kept (α := List RuleD) h1 fun g hg => hk g (.inl hg), Ow.kept (α := List LevelD) h2 fun g hg => hk g (.inr (.inl hg)), Ow.kept (α := List Int) h4 fun g hg => hk g (.inr (.inr (.inl hg))),
   Ow.kept (α := List ShowD) h5 fun g hg => hk g (.inr (.inr (.inr (.inl hg)))), Ow.kept (α := List (Int × Int)) h6 fun g hg => hk g (.inr (.inr (.inr (.inr (.inl hg))))), Ow.kept (α := List Int) h7 fun g hg => hk g (.inr (.inr (.inr (.inr (.inr hg))))), rfl, hn⟩
 nodup := fun ⟨_, _, _, _, _, _, _, _, _, _, _, _, _, _, _, _, _, _, _, _, _, hn⟩ => hn

theorem in_two {f1 f2 : List Nat} {a b c d : Nat} (l1 : ∀ g ∈ f1, a ≤ g ∧ g < b) (l2 : ∀ g ∈ f2, c ≤ g ∧ g < d) (h1 : b ≤ c) (h2 : a ≤ c) (h3 : b ≤ d) : ∀ g ∈ f1 ++ f2, a ≤ g ∧ g < d :=
 fun g hg => (List.mem_append.1 hg).elim (fun h => by have := l1 g h; omega) (fun h => by have := l2 g h; omega)

theorem own_prog {w : World} {b0 b1 b2 b3 b4 b5 b6 lo : Nat} {c1 c2 c4 c5 c6 c7 : Value} {p : ProgD} (h1 : OwnIn b0 b1 w [c1] p.rules) (h2 : OwnIn b1 b2 w [c2] p.levels) (h4 : OwnIn b2 b3 w [c4] p.project) (h5 : OwnIn b3 b4 w [c5] p.shows)
  (h6 : OwnIn b4 b5 w [c6] p.exts) (h7 : OwnIn b5 b6 w [c7] p.assume) (hb : lo ≤ b0 ∧ b0 ≤ b1 ∧ b1 ≤ b2 ∧ b2 ≤ b3 ∧ b3 ≤ b4 ∧ b4 ≤ b5 ∧ b5 ≤ b6) (hf : Fits p.atoms) :
  Own lo w [.int .i64 p.atoms, c1, c2, .bool p.projOn, c4, c5, c6, c7] p := by
 obtain ⟨f1, o1, l1⟩ := h1
 obtain ⟨f2, o2, l2⟩ := h2
 obtain ⟨f4, o4, l4⟩ := h4
 obtain ⟨f5, o5, l5⟩ := h5
 obtain ⟨f6, o6, l6⟩ := h6
 obtain ⟨f7, o7, l7⟩ := h7
 have i6 := in_two l6 l7 (Nat.le_refl _) (by omega) (by omega)
 have i5 := in_two l5 i6 (Nat.le_refl _) (by omega) (by omega)
 have i4 := in_two l4 i5 (Nat.le_refl _) (by omega) (by omega)
 have i2 := in_two l2 i4 (Nat.le_refl _) (by omega) (by omega)
 have i1 := in_two l1 i2 (Nat.le_refl _) (by omega) (by omega)
 have n6 := nodup_two (Ow.nodup o6) (Ow.nodup o7) (fun g hg => (l6 g hg).2) (fun g hg => (l7 g hg).1) (Nat.le_refl _)
 have n5 := nodup_two (Ow.nodup o5) n6 (fun g hg => (l5 g hg).2) (fun g hg => (i6 g hg).1) (Nat.le_refl _)
 have n4 := nodup_two (Ow.nodup o4) n5 (fun g hg => (l4 g hg).2) (fun g hg => (i5 g hg).1) (Nat.le_refl _)
 have n2 := nodup_two (Ow.nodup o2) n4 (fun g hg => (l2 g hg).2) (fun g hg => (i4 g hg).1) (Nat.le_refl _)
 have n1 := nodup_two (Ow.nodup o1) n2 (fun g hg => (l1 g hg).2) (fun g hg => (i2 g hg).1) (Nat.le_refl _)
 exact ⟨_, ⟨c1, c2, c4, c5, c6, c7, f1, f2, f4, f5, f6, f7, rfl, hf, o1, o2, o4, o5, o6, o7, rfl, n1⟩, fun g hg => by have := i1 g hg; omega⟩

/-- The cells of a struct's own block. -/
theorem cells2 {w : World} {b : Nat} {c0 c1 : Value} (h : Cells w b 0 [c0, c1]) : w.cell? ⟨b, 0, none⟩ = some c0 ∧ w.cell? ⟨b, 1, none⟩ = some c1 :=
 ⟨h 0 _ rfl, by simpa using h 1 _ rfl⟩
theorem cells5 {w : World} {b : Nat} {c0 c1 c2 c3 c4 : Value} (h : Cells w b 0 [c0, c1, c2, c3, c4]) : w.cell? ⟨b, 0, none⟩ = some c0 ∧ w.cell? ⟨b, 1, none⟩ = some c1 ∧ w.cell? ⟨b, 2, none⟩ = some c2 ∧ w.cell? ⟨b, 3, none⟩ = some c3 ∧ w.cell? ⟨b, 4, none⟩ = some c4 :=
 ⟨h 0 _ rfl, by simpa using h 1 _ rfl, by simpa using h 2 _ rfl, by simpa using h 3 _ rfl, by simpa using h 4 _ rfl⟩
theorem cells8 {w : World} {b : Nat} {c0 c1 c2 c3 c4 c5 c6 c7 : Value} (h : Cells w b 0 [c0, c1, c2, c3, c4, c5, c6, c7]) :
  w.cell? ⟨b, 0, none⟩ = some c0 ∧ w.cell? ⟨b, 1, none⟩ = some c1 ∧ w.cell? ⟨b, 2, none⟩ = some c2 ∧ w.cell? ⟨b, 3, none⟩ = some c3 ∧ w.cell? ⟨b, 4, none⟩ = some c4 ∧ w.cell? ⟨b, 5, none⟩ = some c5 ∧ w.cell? ⟨b, 6, none⟩ = some c6 ∧ w.cell? ⟨b, 7, none⟩ = some c7 :=
 ⟨h 0 _ rfl, by simpa using h 1 _ rfl, by simpa using h 2 _ rfl, by simpa using h 3 _ rfl, by simpa using h 4 _ rfl, by simpa using h 5 _ rfl, by simpa using h 6 _ rfl, by simpa using h 7 _ rfl⟩
theorem Cells.new (w : World) (cs : List Value) (t : TypeId) : Cells (w.alloc (.cells cs.toArray t)) w.heap.size 0 cs := by
 intro j v hv
 rw [Nat.zero_add, cell_of_row _ _ j _ t (0, 0) (heap_alloc_new w _)]
 simpa using hv
theorem Cells.alloc {w : World} {b o : Nat} {cs : List Value} (h : Cells w b o cs) (ob : Obj) : Cells (w.alloc ob) b o cs := h.later ((Below.refl _ _).alloc (Nat.le_refl _) ob)
theorem Cells.lt {w : World} {b o : Nat} {c : Value} {cs : List Value} (h : Cells w b o (c :: cs)) : b < w.heap.size := cell_lt (p := ⟨b, o, none⟩) (h 0 c rfl)

theorem Cells.drew {w : World} {b o : Nat} {cs : List Value} (h : Cells w b o cs) : Cells w.drew b o cs := h
theorem Own.drew {α : Type} [Ow α] {lo : Nat} {w : World} {cs : List Value} {x : α} (h : Own lo w cs x) : Own lo w.drew cs x := h.later (Below.refl _ _).drew
theorem OwnIn.drew {α : Type} [Ow α] {lo hi : Nat} {w : World} {cs : List Value} {x : α} (h : OwnIn lo hi w cs x) : OwnIn lo hi w.drew cs x := h.later (Below.refl _ _).drew

end Go.Proofs.YthikhkeofcjdfaaGreat
