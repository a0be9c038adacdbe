/-
  What is drawn beside a program (a set near its answers), and programs drawn with a set (DrawClosure, DrawShown). No condition of its own.
-/
import Derived.Test.YtjainjpcpnoikaaGreatAny
import Derived.Test.YtjainjpcpnoikaaGreatAnsT
import Derived.Test.YtjainjpcpnoikaaGreatBody
import Derived.Deep.RegionHeld3
namespace Go.Proofs.YtjainjpcpnoikaaGreat
set_option linter.unusedVariables false
set_option linter.unusedSimpArgs false
open Go.RowKit
set_option maxRecDepth 100000

/-! ### Near -/
/-- What is said of any, as a word of its own. -/
def AnyOk : Prop := ∀ (c N : Nat) (w : World), Cur w c N → N ≤ 100000 → Calls Tryz.prog 79 #[.pointer (some ⟨c, 0, none⟩)] w (AnyPost w c (N + 6000))

/-- One element of a row that is owned. -/
theorem own_elem {α : Type} [Ow α] {lo n cap : Nat} {w : World} {a : Option Addr} {xs : List α} (h : Own (α := List α) lo w [.slice a n cap] xs) {k : Nat} (hk : k < xs.length) :
    ∃ g ecs, a = some ⟨g, 0, none⟩ ∧ n = xs.length ∧ Cells w g (k * Rd.k α) ecs ∧ Own lo w ecs (nth xs k) := by
  obtain ⟨fp, ⟨a', cap', he, _, _, hrow⟩, hl⟩ := h
  simp only [List.cons.injEq, and_true, Value.slice.injEq] at he
  obtain ⟨rfl, rfl, rfl⟩ := he
  rcases hrow with ⟨rfl, _⟩ | ⟨g, e, cur, fps, rfl, hh, hcs, hfl, rfl, hnd, hx⟩
  · simp at hk
  · obtain ⟨ecs, hC, hO⟩ := hx k hk
    exact ⟨g, ecs, rfl, rfl, hC, _, hO, fun b hb => hl b (List.mem_cons_of_mem _ (mem_flat hb))⟩
theorem Own.wrote {α : Type} [Ow α] {lo c : Nat} {w w' : World} {cs : List Value} {x : α} (h : Own lo w cs x) (hw : Wrote c w w') (hc : c < lo) : Own lo w' cs x :=
  h.cg (Cg.wrote (S := fun g => g = c) hw rfl) fun g hg e => by omega
theorem Rd.wrote {α : Type} [Ow α] {lo c : Nat} {w w' : World} {cs : List Value} {x : α} (h : Own lo w cs x) (hw : Wrote c w w') (hc : c < lo) : Rd.R w' cs x := (h.wrote hw hc).rd

theorem Own.mono' {α : Type} [Ow α] {lo lo' : Nat} {w : World} {cs : List Value} {x : α} (h : Own lo w cs x) (hl : lo' ≤ lo) : Own lo' w cs x := by
  obtain ⟨fp, h1, h2⟩ := h
  exact ⟨fp, h1, fun g hg => Nat.le_trans hl (h2 g hg)⟩
theorem row_of_own {lo n cap : Nat} {w : World} {a : Option Addr} {xs : List Int} (h : Own lo w [.slice a n cap] xs) : Row w a xs := by
  obtain ⟨a', c', e, _, hr⟩ := h.rd.sl
  simp only [Value.slice.injEq] at e
  obtain ⟨rfl, _, _⟩ := e
  exact hr
theorem one_ints (w : World) {x : Int} (hx : Fits x) : Ints (w.alloc (.cells #[.int .i64 x] 3)) (some ⟨w.heap.size, 0, none⟩) [x] := by
  have : OwnI w.heap.size (w.alloc (.cells #[.int .i64 x] 3)) (.slice (some ⟨w.heap.size, 0, none⟩) 1 1) [x] :=
    ⟨World.ownsRow_lit (e := 3) (size := 1) (base := w.heap.size) w #[.int .i64 x] 1 (Nat.le_refl _) (by simp [maxLen]) (by simp), by simp, by simpa using hx⟩
  exact this.ints
theorem ans_len (p : ProgD) : (answersL p).length ≤ 4096 := by
  unfold answersL
  split
  · rename_i hF
    have h1 := ansTo_len (foldD p) (2 ^ p.atoms.toNat)
    obtain ⟨h2, h3⟩ := progOk_atoms (foldR_ok hF)
    have h4 : (foldD p).atoms = p.atoms := rfl
    have : 2 ^ p.atoms.toNat ≤ 2 ^ 12 := Nat.pow_le_pow_right (by omega) (by omega)
    omega
  · simp

/-! ### DrawS -/
/-- What is drawn beside a program. -/
def SetDr (B c : Nat) (W : World) (e : Ending) (w' : World) : Prop := ∃ v xs, e = .returned v ∧ xs.length ≤ 4096 ∧ Own B w' [v] (xs : List Int) ∧ Cur w' c 100000 ∧ Wrote c W w'
/-- What is drawn: a program and a set. -/
def PairPost (w : World) (e : Ending) (w' : World) : Prop := ∃ cs p v xs, e = .returned (.tuple #[.agg (List.toArray cs), v]) ∧ Rd.R (α := ProgD) w' cs p ∧ RdL (α := Int) w' [v] xs ∧ Wee p ∧ xs.length ≤ 4096 ∧ Below w.heap.size w w'
theorem cells_putN {W : World} {b g : Nat} {cs vs : List Value} (h : Cells W b 0 cs) (hne : b ≠ g) : Cells (put W g 0 vs) b 0 cs := fun j v hv => by
  have := h j v hv
  rw [← this]
  exact World.cell?_of_block (a := ⟨b, 0 + j, none⟩) ((put_chg g vs W 0).block b (by simpa using hne))
theorem put_cg (W : World) (g : Nat) (vs : List Value) : Cg (fun x => x = g) W (put W g 0 vs) :=
  ⟨(put_chg g vs W 0).os, (put_chg g vs W 0).tape, (put_chg g vs W 0).output, Nat.le_of_eq (put_chg g vs W 0).size.symm, fun x _ hn => (put_chg g vs W 0).block x (by simpa using hn)⟩
/-- The end of a drawing: the result's box written, the set drawn. -/
theorem pair_end {w w1 w2 w3 : World} {c : Nat} {x0 x1 x2 x3 x4 x5 x6 x7 v : Value} {p : ProgD} {xs : List Int} {o : Obj} (hc : w.heap.size < c) (hc1 : c < w1.heap.size) (hb : Below (w.heap.size + 1) (w.alloc (.cells zP.toArray 35)) w1)
    (hL : Lent w1.heap.size (fun x => x < w1.heap.size) w2 [x0, x1, x2, x3, x4, x5, x6, x7] p) (h2 : Wrote c w1 w2) (ho : Own (w2.alloc o).heap.size w3 [v] xs) (h3 : Wrote c (w2.alloc o).drew w3) :
    Rd.R (α := ProgD) (put w3 w.heap.size 0 [x0, x1, x2, x3, x4, x5, x6, x7]) [x0, x1, x2, x3, x4, x5, x6, x7] p ∧ RdL (α := Int) (put w3 w.heap.size 0 [x0, x1, x2, x3, x4, x5, x6, x7]) [v] xs ∧ Below w.heap.size w (put w3 w.heap.size 0 [x0, x1, x2, x3, x4, x5, x6, x7]) := by
  have k3 : Cg (fun x => x = c) w2 w3 := (((Cg.refl _ w2).alloc o).drew).trans (Cg.wrote h3 rfl)
  have kp := put_cg w3 w.heap.size [x0, x1, x2, x3, x4, x5, x6, x7]
  have hz2 := h2.size
  have hz3 := h3.size
  refine ⟨(hL.cg ((k3.more fun x _ hx => by omega).trans (kp.more fun x _ hx => by omega))).rd, (ho.cg kp fun g hg e => by rw [World.size_alloc] at hg; omega).rd, ?_⟩
  have t1 : Below w.heap.size w w1 := ((Below.refl w.heap.size w).alloc (Nat.le_refl _) _).trans (hb.mono (Nat.le_succ _))
  have t2 : Below w.heap.size w w2 := Wrote.mark t1 h2 (by omega)
  have t3 : Below w.heap.size w w3 := Wrote.mark ((t2.alloc t2.size o).drew) h3 (by omega)
  refine ⟨kp.os.trans t3.os, kp.tape.trans t3.tape, kp.output.trans t3.output, Nat.le_trans t3.size kp.size, fun k hk => (kp.block k (Nat.lt_of_lt_of_le hk t3.size) (by omega)).trans (t3.block k hk)⟩




end Go.Proofs.YtjainjpcpnoikaaGreat
