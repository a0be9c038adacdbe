/-
  A program that is known to read: a cell of one of its rules stored into, an external atom stored into. No condition of its own.
-/
import Derived.Test.YtjainjpcpnoikaaLent
namespace Go.Proofs.Ytjainjpcpnoikaa
set_option linter.unusedVariables false
set_option linter.unusedSimpArgs false
open Go.RowKit
set_option maxRecDepth 100000

section
variable {lo : Nat} {S : Nat → Prop} {wz w' : World} {g cap : Nat} {cur : Array Value} {e : TypeId} {fe : List Nat} {a b c2 c4 c5 c6 c7 : Value} {p : ProgD}
theorem LentAt.set {k m : Nat} {v : Value} {y : RuleD} {f' : List Nat} {ecs : List Value} (h : LentAt lo S wz a b c2 c4 c5 c6 c7 g cap cur e fe p) (hk : k < p.rules.length) (hm : m < 5)
    (h1 : ∀ (j : Nat) (u : Value), ecs[j]? = some u → cur[k * 5 + j]? = some u) (hl : ecs.length = 5) (hw : Cg (fun _ => False) wz w') (hO : Ow.O w' (ecs.set m v) y f') (hf' : ∀ x ∈ f', lo ≤ x ∧ ¬ S x ∧ x ≠ g ∧ x ∉ fe) :
    LentAt lo S (w'.setCell ⟨g, k * 5 + m, none⟩ v) a b c2 c4 c5 c6 c7 g cap (cur.setIfInBounds (k * 5 + m) v) e fe { p with rules := p.rules.set k y } := by
  have hrow := hw.at h.row (fun h => h)
  have hset := heap_setCell_same w' g (k * 5 + m) _ _ v hrow
  have hroom := mul_room (K := 5) hk
  have hcs := h.len
  have hsz : k * 5 + 5 ≤ cur.size := by have := Nat.mul_le_mul_right 5 hcs.1; omega
  have ks : Cg (fun x => x = g) w' (w'.setCell ⟨g, k * 5 + m, none⟩ v) := Cg.set (Cg.refl _ w') _ v rfl
  have kz : Cg (fun x => x = g) wz (w'.setCell ⟨g, k * 5 + m, none⟩ v) := (hw.more fun x _ hx => hx.elim).trans ks
  refine ⟨hset, by rw [List.length_set, Array.size_setIfInBounds]; exact h.len, h.gne, fun i hi => ?_, ⟨Ow.kept (α := List (Int × Int)) h.ext.1 fun x hx => kz.block x (Ow.lt (α := List (Int × Int)) h.ext.1 x hx) (h.ext.2 x hx).2.2, h.ext.2⟩, fun w2 hw2 v rs hv v6 es h6 => h.rest w2 ((kz.more fun x _ hx => .inr (.inl hx)).trans hw2) v rs hv v6 es h6⟩
  rw [List.length_set] at hi
  by_cases hik : i = k
  · subst hik
    refine ⟨ecs.set m v, f', fun j u hu => ?_, ?_, hf'⟩
    · by_cases hj : m = j
      · subst hj
        rw [List.getElem?_set_self (by omega)] at hu
        rw [Array.getElem?_setIfInBounds_self_of_lt (by omega)]
        exact hu
      · rw [List.getElem?_set_ne hj] at hu
        rw [Array.getElem?_setIfInBounds_ne (by omega)]
        exact h1 j u hu
    · show Ow.O _ (ecs.set m v) (nth (p.rules.set i y) i) f'
      rw [nth_set hk, if_pos rfl]
      exact Ow.kept hO fun x hx => ks.block x (Ow.lt hO x hx) (hf' x hx).2.2.1
  · obtain ⟨es, f1, k1, k2, k3⟩ := h.els i hi
    have hes : es.length = 5 := Rd.len (Ow.rd k2)
    refine ⟨es, f1, fun j u hu => ?_, ?_, k3⟩
    · have hj : j < es.length := (List.getElem?_eq_some_iff.1 hu).1
      have hne : k * 5 + m ≠ i * 5 + j := by omega
      rw [Array.getElem?_setIfInBounds_ne hne]
      exact k1 j u hu
    · show Ow.O _ es (nth (p.rules.set k y) i) f1
      rw [nth_set hk, if_neg hik]
      exact Ow.kept k2 fun x hx => kz.block x (Ow.lt k2 x hx) (k3 x hx).2.2.1
theorem LentAt.ext_at {i : Nat} (h : LentAt lo S wz a b c2 c4 c5 c6 c7 g cap cur e fe p) (hi : i < p.exts.length) :
    ∃ ge ce, c6 = .slice (some ⟨ge, 0, none⟩) p.exts.length ce ∧ (wz.cell? ⟨ge, i * 2, none⟩ = some (.int .i64 (nth p.exts i).1) ∧ wz.cell? ⟨ge, i * 2 + 1, none⟩ = some (.int .i64 (nth p.exts i).2)) ∧ Fits (nth p.exts i).2 ∧ (∃ c6c e6, wz.heap[ge]? = some (.cells c6c e6 (0, 0))) ∧ (lo ≤ ge ∧ ¬ S ge ∧ ge ≠ g) ∧
      ∀ (w' : World) (y : Int), Fits y → Cg (fun _ => False) wz w' → ∃ fe', LentAt lo S (w'.setCell ⟨ge, i * 2 + 1, none⟩ (.int .i64 y)) a b c2 c4 c5 c6 c7 g cap cur e fe' { p with exts := p.exts.set i ((nth p.exts i).1, y) } := by
  obtain ⟨ge, e6, cur6, ce, f, fr, ecs, hv, hh, hsz, hC, hO, hgF, hgf, hff, hfr, K⟩ := h.ext.1.lensAt hi
  obtain ⟨⟨rfl, hF1, hF2⟩, rfl⟩ := hO
  have hgs := h.ext.2 ge hgF
  have u0 := hC.c0
  have u1 := hC.c1
  rw [show Rd.k (Int × Int) = 2 from rfl] at u0 u1 hsz
  refine ⟨ge, ce, hv, ⟨u0, u1⟩, hF2, ⟨cur6, e6, hh⟩, hgs, fun w' y hy hw => ?_⟩
  have hh' := hw.at hh (fun h => h)
  have hset := heap_setCell_same w' ge (i * 2 + 1) _ _ (.int .i64 y) hh'
  have ks : Cg (fun x => x = ge) w' (w'.setCell ⟨ge, i * 2 + 1, none⟩ (.int .i64 y)) := Cg.set (Cg.refl _ w') _ _ rfl
  have kz : Cg (fun x => x = ge) wz (w'.setCell ⟨ge, i * 2 + 1, none⟩ (.int .i64 y)) := (hw.more fun x _ hx => hx.elim).trans ks
  have hcl : ∀ j, (w'.setCell ⟨ge, i * 2 + 1, none⟩ (.int .i64 y)).cell? ⟨ge, j, none⟩ = (cur6.setIfInBounds (i * 2 + 1) (.int .i64 y))[j]? := fun j => cell_of_row _ ge j _ _ _ hset
  obtain ⟨fe', k1, k2⟩ := K (w'.setCell ⟨ge, i * 2 + 1, none⟩ (.int .i64 y)) (cur6.setIfInBounds (i * 2 + 1) (.int .i64 y)) [.int .i64 (nth p.exts i).1, .int .i64 y] ((nth p.exts i).1, y) [] hset (by simp) (fun m hm => by
      rw [show Rd.k (Int × Int) = 2 from rfl] at hm
      rw [Array.getElem?_setIfInBounds_ne (by omega)]) (fun j u hu => by
      rw [show Rd.k (Int × Int) = 2 from rfl, hcl]
      match j, hu with
      | 0, hu =>
        have hu : Value.int .i64 (nth p.exts i).1 = u := by simpa using hu
        subst hu
        rw [Array.getElem?_setIfInBounds_ne (by omega)]
        rw [cell_of_row _ ge _ _ _ _ hh] at u0
        exact u0
      | 1, hu =>
        have hu : Value.int .i64 y = u := by simpa using hu
        subst hu
        rw [Array.getElem?_setIfInBounds_self_of_lt (by omega)]
      | j + 2, hu => simp at hu) ⟨⟨rfl, hF1, hy⟩, rfl⟩ (fun x hx => kz.block x (Ow.lt (α := List (Int × Int)) h.ext.1 x (hfr x hx).1) (hfr x hx).2.1) (fun x hx => by cases hx)
  have hsub : ∀ x ∈ fe', x ∈ fe := fun x hx => by
    rcases k2 x hx with h3 | h3 | h3
    · rw [h3]; exact hgF
    · cases h3
    · exact (hfr x h3).1
  refine ⟨fe', kz.at h.row (fun e => hgs.2.2 e.symm), h.len, h.gne, fun j hj => ?_, ⟨k1, fun x hx => h.ext.2 x (hsub x hx)⟩, fun w2 hw2 v rs hv v6 es h6 => h.rest w2 ((kz.more fun x _ hx => .inr (.inr (hx ▸ hgF))).trans (hw2.more fun x _ hx => hx.imp id fun hx => hx.imp id fun hx => hsub x hx)) v rs hv v6 es h6⟩
  obtain ⟨es, f1, q1, q2, q3⟩ := h.els j hj
  exact ⟨es, f1, q1, Ow.kept q2 fun x hx => kz.block x (Ow.lt q2 x hx) (fun e => (q3 x hx).2.2.2 (e ▸ hgF)), fun x hx => ⟨(q3 x hx).1, (q3 x hx).2.1, (q3 x hx).2.2.1, fun hm => (q3 x hx).2.2.2 (hsub x hm)⟩⟩
end
/-- What is known of a program is known as well whatever becomes of blocks that are new. -/
theorem Lent.widen {lo : Nat} {S S' : Nat → Prop} {w2 w3 : World} {cs : List Value} {p : ProgD} (h : Lent lo S w2 cs p) (hw : Cg (fun _ => False) w2 w3) (hS : ∀ x, S' x → S x ∨ w2.heap.size ≤ x) : Lent lo S' w3 cs p := by
  obtain ⟨a, b, c2, c4, c5, c6, c7, g, cap, cur, e, fe, rfl, h1⟩ := h
  have hgl := block_lt h1.row
  refine ⟨a, b, c2, c4, c5, c6, c7, g, cap, cur, e, fe, rfl, hw.at h1.row (fun h => h), h1.len, ⟨h1.gne.1, fun k => (hS g k).elim h1.gne.2 (fun k => by omega)⟩, fun i hi => ?_, ⟨Ow.kept (α := List (Int × Int)) h1.ext.1 fun x hx => hw.block x (Ow.lt (α := List (Int × Int)) h1.ext.1 x hx) (fun h => h), fun x hx => ⟨(h1.ext.2 x hx).1, fun k => (hS x k).elim (h1.ext.2 x hx).2.1 (fun k => by have := Ow.lt (α := List (Int × Int)) h1.ext.1 x hx; omega), (h1.ext.2 x hx).2.2⟩⟩, fun w4 hw4 => h1.rest w4 (hw.join hw4 (fun x _ hx => hx.elim) fun x hx hT => ?_)⟩
  · obtain ⟨ecs, f, k1, k2, k3⟩ := h1.els i hi
    refine ⟨ecs, f, k1, Ow.kept k2 fun x hx => hw.block x (Ow.lt k2 x hx) (fun h => h), fun x hx => ⟨(k3 x hx).1, fun k => (hS x k).elim (k3 x hx).2.1 (fun k => by have := Ow.lt k2 x hx; omega), (k3 x hx).2.2⟩⟩
  · rcases hT with hT | hT
    · exact (hS x hT).elim .inl fun k => by omega
    · exact .inr hT
end Go.Proofs.Ytjainjpcpnoikaa
