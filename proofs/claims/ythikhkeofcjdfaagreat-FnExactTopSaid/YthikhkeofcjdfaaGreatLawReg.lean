/-
  What a region leaves that lays an answer (a program and a flag) into a box of its own. No condition of its own.
-/
import Derived.Test.YthikhkeofcjdfaaGreatBothI
import Derived.Test.YthikhkeofcjdfaaGreatMarkH
import Derived.Test.YthikhkeofcjdfaaGreatLawsP
namespace Go.Proofs.YthikhkeofcjdfaaGreat
set_option linter.unusedVariables false
set_option linter.unusedSimpArgs false
open Go.RowKit
set_option maxRecDepth 100000

theorem OwnIn.wrF {α : Type} [Ow α] {a b lo hi : Nat} {w w' : World} {cs : List Value} {x : α} {fp : List Nat} (h : OwnIn a b w cs x) (g : WrF fp w w') (hl : ∀ k ∈ fp, lo ≤ k ∧ k < hi) (hd : b ≤ lo ∨ hi ≤ a) : OwnIn a b w' cs x := by
  obtain ⟨f, h, l⟩ := h
  exact ⟨f, Ow.wrF h g fun k hk hf => by have := l k hk; have := hl k hf; omega, l⟩
theorem Cells.wrF {w w' : World} {b o : Nat} {c : Value} {cs : List Value} {fp : List Nat} (h : Cells w b o (c :: cs)) (g : WrF fp w w') (hn : b ∉ fp) : Cells w' b o (c :: cs) := h.kept (g.block b h.lt hn)

theorem cntTo_le {α : Type} [Inhabited α] [Mk α] {xs : List α} {c : Nat} (h : ∀ x ∈ xs, Mk.cnt x ≤ c) : ∀ j, j ≤ xs.length → cntTo xs j ≤ j * c
  | 0, _ => by simp [cntTo]
  | j + 1, hj => by
    have ih := cntTo_le h j (by omega)
    have := h _ (nth_mem (show j < xs.length by omega))
    rw [cntTo, Nat.add_mul, Nat.one_mul]
    omega
theorem cntSm {p : ProgD} (h : Sm.S p) : (cntProgV p : Int) ≤ 20000000000000 := by
  obtain ⟨⟨a1, a2⟩, ⟨b1, b2⟩, ⟨c1, _⟩, ⟨d1, d2⟩, ⟨e1, _⟩, ⟨f1, _⟩⟩ := h
  have r := cntTo_le (xs := p.rules) (c := 3145731) (fun x hx => by
    obtain ⟨⟨h1, _⟩, ⟨h2, _⟩⟩ := a2 x hx
    show 3 + cntTo x.heads x.heads.length + cntTo x.body x.body.length ≤ _
    rw [cntTo_int, cntTo_pair]; omega) p.rules.length (Nat.le_refl _)
  have l := cntTo_le (xs := p.levels) (c := 2097153) (fun x hx => by
    obtain ⟨h1, _⟩ := b2 x hx
    show 1 + cntTo x.lits x.lits.length ≤ _
    rw [cntTo_pair]; omega) p.levels.length (Nat.le_refl _)
  have s := cntTo_le (xs := p.shows) (c := 1048577) (fun x hx => by
    obtain ⟨_, h1, _⟩ := d2 x hx
    show 1 + cntTo x.cond x.cond.length ≤ _
    rw [cntTo_int]; omega) p.shows.length (Nat.le_refl _)
  unfold cntProgV
  rw [cntTo_int p.project, cntTo_pair p.exts, cntTo_int p.assume]
  have r2 := Nat.le_trans r (Nat.mul_le_mul_right 3145731 a1)
  have l2 := Nat.le_trans l (Nat.mul_le_mul_right 2097153 b1)
  have s2 := Nat.le_trans s (Nat.mul_le_mul_right 1048577 d1)
  omega
/-- A program that is ProgOk, or the zero one, is small. -/
theorem smOk {p : ProgD} (h : progOkB p = true) : Sm.S p := by
  obtain ⟨⟨a1, a2⟩, ⟨b1, b2⟩, c1, ⟨d1, d2⟩, e1, f1⟩ := szP_ok h
  have hsh : ∀ x ∈ p.shows, x.text.size ≤ 1048576 := fun x hx => by
    have h := h
    simp only [progOkB, Bool.and_eq_true, showsB, List.all_eq_true] at h
    have h2 := h.2.2.2.2.1.2 x hx
    simp only [showB, Bool.and_eq_true, btwB, decide_eq_true_eq] at h2
    omega
  exact ⟨⟨a1, fun x hx => ⟨⟨(a2 x hx).1, fun _ _ => trivial⟩, ⟨(a2 x hx).2, fun _ _ => trivial⟩⟩⟩, ⟨b1, fun x hx => ⟨b2 x hx, fun _ _ => trivial⟩⟩, ⟨c1, fun _ _ => trivial⟩, ⟨d1, fun x hx => ⟨hsh x hx, d2 x hx, fun _ _ => trivial⟩⟩, ⟨e1, fun _ _ => trivial⟩, ⟨f1, fun _ _ => trivial⟩⟩
theorem cntZero : (cntProgV (default : ProgD) : Int) ≤ 20000000000000 := by decide

/-- The box that a program lies in, and its flag. -/
def RegP (lo : Nat) (w0 : World) (r : ProgD) (b : Bool) (v6 v7 : Value) (w : World) : Prop :=
  ∃ g x0 x1 x2 x3 x4 x5 x6 x7 fp, v6 = .pointer (some ⟨g, 0, none⟩) ∧ v7 = .bool b ∧ Ow.O w [x0, x1, x2, x3, x4, x5, x6, x7] r fp ∧ (∀ a ∈ fp, lo ≤ a ∧ a ≠ g) ∧ lo ≤ g ∧ Cells w g 0 [x0, x1, x2, x3, x4, x5, x6, x7] ∧ Below lo w0 w
theorem regP_put {lo g : Nat} {w0 wf : World} {r : ProgD} {b : Bool} {x0 x1 x2 x3 x4 x5 x6 x7 : Value} {fp : List Nat} {zs : Array Value} {t : TypeId} (oc : Ow.O wf [x0, x1, x2, x3, x4, x5, x6, x7] r fp) (hfp : ∀ a ∈ fp, lo ≤ a ∧ a ≠ g)
    (HG : wf.heap[g]? = some (.cells zs t (0, 0))) (hz : zs.size = 8) (hg : lo ≤ g) (B : Below lo w0 wf) : RegP lo w0 r b (.pointer (some ⟨g, 0, none⟩)) (.bool b) (put wf g 0 [x0, x1, x2, x3, x4, x5, x6, x7]) := by
  have hput := put_chg g [x0, x1, x2, x3, x4, x5, x6, x7] wf 0
  refine ⟨g, x0, x1, x2, x3, x4, x5, x6, x7, fp, rfl, rfl, ?_, hfp, hg, ?_, ?_⟩
  · exact Ow.kept oc fun a ha => hput.block a (by simp; exact (hfp a ha).2)
  · exact Cells.put_here (o := 0) (ds := [x0, x1, x2, x3, x4, x5, x6, x7]) HG (by simp [hz])
  · exact B.trans (hput.below (lo := lo) fun a ha => by simp at ha; omega)
theorem RegP.bel {lo : Nat} {w0 w : World} {r : ProgD} {b : Bool} {v6 v7 : Value} (h : RegP lo w0 r b v6 v7 w) : Below lo w0 w := by
  obtain ⟨_, _, _, _, _, _, _, _, _, _, _, _, _, _, _, _, h⟩ := h
  exact h
theorem RegP.drewn {lo : Nat} {w0 w : World} {r : ProgD} {b : Bool} {v6 v7 : Value} (h : RegP lo w0.drew r b v6 v7 w) : RegP lo w0 r b v6 v7 w := by
  obtain ⟨g, x0, x1, x2, x3, x4, x5, x6, x7, fp, h1, h2, h3, h4, h5, h6, h7⟩ := h
  exact ⟨g, x0, x1, x2, x3, x4, x5, x6, x7, fp, h1, h2, h3, h4, h5, h6, (Below.refl _ _).drew.trans h7⟩
end Go.Proofs.YthikhkeofcjdfaaGreat
