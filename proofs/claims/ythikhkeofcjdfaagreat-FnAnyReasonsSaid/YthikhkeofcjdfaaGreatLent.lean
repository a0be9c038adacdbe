/-
 A program that is known to read: the row of its rules in a block of its own, each rule owned on its own (several may share memory); rules appended to it that are copies of one of its own. No condition of its own.
-/
import Derived.Test.YthikhkeofcjdfaaGreatDrawQ
import Derived.Test.YthikhkeofcjdfaaGreatLens
namespace Go.Proofs.YthikhkeofcjdfaaGreat
set_option linter.unusedVariables false
set_option linter.unusedSimpArgs false
open Go.RowKit
set_option maxRecDepth 100000

theorem Cg.join {S T U : Nat → Prop} {a b c : World} (h : Cg S a b) (k : Cg T b c) (hs : ∀ x, x < a.heap.size → S x → U x) (ht : ∀ x, x < a.heap.size → T x → U x) : Cg U a c :=
 ⟨k.os.trans h.os, k.tape.trans h.tape, k.output.trans h.output, Nat.le_trans h.size k.size, fun g hg hn => (k.block g (Nat.lt_of_lt_of_le hg h.size) fun e => hn (ht g hg e)).trans (h.block g hg fun e => hn (hs g hg e))⟩

/-- A program that reads, with the row of its rules in block g, whatever is written into the blocks of S. -/
structure LentAt (lo : Nat) (S : Nat → Prop) (wz : World) (a b c2 c4 c5 c6 c7 : Value) (g cap : Nat) (cur : Array Value) (e : TypeId) (fe : List Nat) (p : ProgD) : Prop where
 row : wz.heap[g]? = some (.cells cur e (0, 0))
 len : p.rules.length ≤ cap ∧ cap ≤ 9223372036854775807 ∧ cap * 5 ≤ cur.size
 gne : lo ≤ g ∧ ¬ S g
 els : ∀ i, i < p.rules.length → ∃ (ecs : List Value) (f : List Nat), (∀ (j : Nat) (u : Value), ecs[j]? = some u → cur[i * 5 + j]? = some u) ∧ Ow.O wz ecs (nth p.rules i) f ∧ ∀ x ∈ f, lo ≤ x ∧ ¬ S x ∧ x ≠ g ∧ x ∉ fe
 ext : OwL (α := Int × Int) wz [c6] p.exts fe ∧ ∀ x ∈ fe, lo ≤ x ∧ ¬ S x ∧ x ≠ g
 rest : ∀ w2, Cg (fun x => S x ∨ x = g ∨ x ∈ fe) wz w2 → ∀ v rs, RdL (α := RuleD) w2 [v] rs → ∀ v6 es, RdL (α := Int × Int) w2 [v6] es → Rd.R (α := ProgD) w2 [a, v, c2, b, c4, c5, v6, c7] { p with rules := rs, exts := es }
def Lent (lo : Nat) (S : Nat → Prop) (wz : World) (cs : List Value) (p : ProgD) : Prop :=
 ∃ (a b c2 c4 c5 c6 c7 : Value) (g cap : Nat) (cur : Array Value) (e : TypeId) (fe : List Nat), cs = [a, .slice (some ⟨g, 0, none⟩) p.rules.length cap, c2, b, c4, c5, c6, c7] ∧ LentAt lo S wz a b c2 c4 c5 c6 c7 g cap cur e fe p
section
variable {lo lo' : Nat} {S S' : Nat → Prop} {w wz w2 w6 : World} {c N G g cap : Nat} {cur : Array Value} {e : TypeId} {fe : List Nat} {a b c1 c2 c4 c5 c6 c7 : Value} {p : ProgD} {cs : List Value}
theorem LentAt.cg (h : LentAt lo S wz a b c2 c4 c5 c6 c7 g cap cur e fe p) (hw : Cg S wz w2) : LentAt lo S w2 a b c2 c4 c5 c6 c7 g cap cur e fe p := by
 refine ⟨hw.at h.row h.gne.2, h.len, h.gne, fun i hi => ?_, ⟨Ow.kept (α := List (Int × Int)) h.ext.1 fun x hx => hw.block x (Ow.lt (α := List (Int × Int)) h.ext.1 x hx) (h.ext.2 x hx).2.1, h.ext.2⟩, fun w3 hw3 => h.rest w3 ((hw.more fun x _ hx => .inl hx).trans hw3)⟩
 obtain ⟨ecs, f, h1, h2, h3⟩ := h.els i hi
 exact ⟨ecs, f, h1, Ow.kept h2 fun x hx => hw.block x (Ow.lt h2 x hx) (h3 x hx).2.1, h3⟩
theorem LentAt.weak (h : LentAt lo S wz a b c2 c4 c5 c6 c7 g cap cur e fe p) (hl : lo' ≤ lo) (hs2 : ∀ x, S' x → S x) : LentAt lo' S' wz a b c2 c4 c5 c6 c7 g cap cur e fe p := by
 refine ⟨h.row, h.len, ⟨Nat.le_trans hl h.gne.1, fun k => h.gne.2 (hs2 _ k)⟩, fun i hi => ?_, ⟨h.ext.1, fun x hx => ⟨Nat.le_trans hl (h.ext.2 x hx).1, fun k => (h.ext.2 x hx).2.1 (hs2 _ k), (h.ext.2 x hx).2.2⟩⟩, fun w3 hw3 => h.rest w3 (hw3.more fun x _ hx => hx.imp (hs2 x) id)⟩
 obtain ⟨ecs, f, h1, h2, h3⟩ := h.els i hi
 exact ⟨ecs, f, h1, h2, fun x hx => ⟨Nat.le_trans hl (h3 x hx).1, fun k => (h3 x hx).2.1 (hs2 _ k), (h3 x hx).2.2⟩⟩
theorem LentAt.rdL (h : LentAt lo S wz a b c2 c4 c5 c6 c7 g cap cur e fe p) : RdL (α := RuleD) wz [.slice (some ⟨g, 0, none⟩) p.rules.length cap] p.rules := by
 refine ⟨_, cap, rfl, h.len.1, h.len.2.1, Nat.le_trans h.len.1 h.len.2.1, fun i hi => ?_⟩
 obtain ⟨ecs, f, h1, h2, _⟩ := h.els i hi
 refine ⟨g, 0, ecs, rfl, fun j v hv => ?_, Ow.rd h2⟩
 rw [show Rd.k RuleD = 5 from rfl, Nat.zero_add, cell_of_row _ g _ _ _ _ h.row]
 exact h1 j v hv
theorem LentAt.rd (h : LentAt lo S wz a b c2 c4 c5 c6 c7 g cap cur e fe p) : Rd.R wz [a, .slice (some ⟨g, 0, none⟩) p.rules.length cap, c2, b, c4, c5, c6, c7] p :=
 h.rest wz (Cg.refl _ _) _ p.rules h.rdL _ p.exts h.ext.1.rd
theorem Lent.cg (h : Lent lo S wz cs p) (hw : Cg S wz w2) : Lent lo S w2 cs p := by
 obtain ⟨a, b, c2, c4, c5, c6, c7, g, cap, cur, e, fe, h1, h2⟩ := h
 exact ⟨a, b, c2, c4, c5, c6, c7, g, cap, cur, e, fe, h1, h2.cg hw⟩
theorem Lent.weak (h : Lent lo S wz cs p) (hl : lo' ≤ lo) (hs : ∀ x, S' x → S x) : Lent lo' S' wz cs p := by
 obtain ⟨a, b, c2, c4, c5, c6, c7, g, cap, cur, e, fe, h1, h2⟩ := h
 exact ⟨a, b, c2, c4, c5, c6, c7, g, cap, cur, e, fe, h1, h2.weak hl hs⟩
theorem Lent.rd (h : Lent lo S wz cs p) : Rd.R wz cs p := by
 obtain ⟨a, b, c2, c4, c5, c6, c7, g, cap, cur, e, fe, rfl, h2⟩ := h
 exact h2.rd
theorem Lent.at (h : Lent lo S wz [a, c1, c2, b, c4, c5, c6, c7] p) : ∃ g cap cur e fe, c1 = .slice (some ⟨g, 0, none⟩) p.rules.length cap ∧ LentAt lo S wz a b c2 c4 c5 c6 c7 g cap cur e fe p := by
 obtain ⟨a', b', c2', c4', c5', c6', c7', g, cap, cur, e, fe, h1, h2⟩ := h
 simp only [List.cons.injEq, and_true] at h1
 obtain ⟨rfl, rfl, rfl, rfl, rfl, rfl, rfl, rfl⟩ := h1
 exact ⟨g, cap, cur, e, fe, rfl, h2⟩
theorem LentAt.lent (h : LentAt lo S wz a b c2 c4 c5 c6 c7 g cap cur e fe p) : Lent lo S wz [a, .slice (some ⟨g, 0, none⟩) p.rules.length cap, c2, b, c4, c5, c6, c7] p := ⟨a, b, c2, c4, c5, c6, c7, g, cap, cur, e, fe, rfl, h⟩
/-- What a call owns is known so. -/
theorem lent_of_own {fp : List Nat} (h1 : Ow.O (α := ProgD) wz cs p fp) (h2 : ∀ g ∈ fp, lo ≤ g ∧ ¬ S g) (hpr : 0 < p.rules.length) : Lent lo S wz cs p := by
 obtain ⟨d1, d2, d4, d5, d6, d7, f1, f2, f4, f5, f6, f7, rfl, hf, o1, o2, o4, o5, o6, o7, rfl, hnd⟩ := h1
 obtain ⟨al, cap, he, hle, hcm, hrow⟩ := o1
 simp only [List.cons.injEq, and_true] at he
 subst he
 rcases hrow with ⟨hn, _⟩ | ⟨g, e, cur, fps, rfl, hh, hcs, hfl, hf1, hnd1, hx⟩
 ·rw [hn] at hpr; simp at hpr
 have hg : g ∈ f1 := by rw [hf1]; exact List.mem_cons_self ..
 have hgf := h2 g (List.mem_append_left _ hg)
 have hout := (List.nodup_append.1 hnd).2.2
 have h6 : ∀ x ∈ f6, x ∈ f2 ++ (f4 ++ (f5 ++ (f6 ++ f7))) := fun x hx => by simp only [List.mem_append]; simp [hx]
 have hd6 : ∀ x ∈ f2 ++ (f4 ++ (f5 ++ f7)), x ∉ f6 := fun x hx hm => by
  have hn := List.nodup_iff_count.1 hnd x
  simp only [List.count_append] at hn
  have c6 := List.count_pos_iff.2 hm
  simp only [List.mem_append] at hx
  rcases hx with hx | hx | hx | hx <;> (have := List.count_pos_iff.2 hx; omega)
 have hk : ∀ {w2 : World} (hw : Cg (fun x => S x ∨ x = g ∨ x ∈ f6) wz w2), ∀ x ∈ f2 ++ (f4 ++ (f5 ++ f7)), x < wz.heap.size → w2.heap[x]? = wz.heap[x]? := fun hw x hx hlt => hw.block x hlt (by
  have hx' : x ∈ f2 ++ (f4 ++ (f5 ++ (f6 ++ f7))) := by simp only [List.mem_append] at hx ⊢; grind
  have h3 := h2 x (List.mem_append_right _ hx')
  have h4 := hout g hg x hx'
  rintro (e | e | e)
  ·exact h3.2 e
  ·exact h4 e.symm
  ·exact hd6 x hx e)
 refine ⟨_, _, d2, d4, d5, d6, d7, g, cap, cur, e, f6, rfl, hh, ⟨hle, hcm, hcs⟩, hgf, fun i hi => ?_, ⟨o6, fun x hx => ⟨(h2 x (List.mem_append_right _ (h6 x hx))).1, (h2 x (List.mem_append_right _ (h6 x hx))).2, fun e => hout g hg x (h6 x hx) e.symm⟩⟩, fun w2 hw v rs hv v6 es h6v => ?_⟩
 ·obtain ⟨ecs, hC, hO⟩ := hx i hi
  refine ⟨ecs, _, fun j u hu => ?_, hO, fun x hx' => ?_⟩
  ·have h3 := hC j u hu
   rw [show Rd.k RuleD = 5 from rfl, cell_of_row _ g _ _ _ _ hh] at h3
   exact h3
  ·have hm : x ∈ fps.flatten := mem_flat hx'
   have hm1 : x ∈ f1 := by rw [hf1]; exact List.mem_cons_of_mem _ hm
   have h3 := h2 x (List.mem_append_left _ hm1)
   exact ⟨h3.1, h3.2, fun e => by rw [hf1] at hnd1; exact (List.nodup_cons.1 hnd1).1 (e ▸ hm), fun hm6 => hout x hm1 x (h6 x hm6) rfl⟩
 ·refine ⟨v, d2, d4, d5, v6, d7, rfl, hf, hv, ?_, ?_, ?_, h6v, ?_⟩
  ·exact (Ow.rd (α := List LevelD) (Ow.kept (α := List LevelD) o2 fun x hx => hk hw x (by simp only [List.mem_append]; simp [hx]) (Ow.lt (α := List LevelD) o2 x hx)))
  ·exact (Ow.rd (α := List Int) (Ow.kept (α := List Int) o4 fun x hx => hk hw x (by simp only [List.mem_append]; simp [hx]) (Ow.lt (α := List Int) o4 x hx)))
  ·exact (Ow.rd (α := List ShowD) (Ow.kept (α := List ShowD) o5 fun x hx => hk hw x (by simp only [List.mem_append]; simp [hx]) (Ow.lt (α := List ShowD) o5 x hx)))
  ·exact (Ow.rd (α := List Int) (Ow.kept (α := List Int) o7 fun x hx => hk hw x (by simp only [List.mem_append]; simp [hx]) (Ow.lt (α := List Int) o7 x hx)))
/-- A rule of it: its cells in the row. -/
theorem LentAt.rule {k : Nat} (h : LentAt lo S wz a b c2 c4 c5 c6 c7 g cap cur e fe p) (hk : k < p.rules.length) :
  ∃ (x0 x1 x2 x3 x4 : Value) (f : List Nat), (wz.cell? ⟨g, k * 5, none⟩ = some x0 ∧ wz.cell? ⟨g, k * 5 + 1, none⟩ = some x1 ∧ wz.cell? ⟨g, k * 5 + 2, none⟩ = some x2 ∧ wz.cell? ⟨g, k * 5 + 3, none⟩ = some x3 ∧ wz.cell? ⟨g, k * 5 + 4, none⟩ = some x4) ∧ k * 5 + 5 ≤ cur.size ∧
   (∀ v ∈ [x0, x1, x2, x3, x4], v.oneCell' = true) ∧ Ow.O wz [x0, x1, x2, x3, x4] (nth p.rules k) f ∧ ∀ x ∈ f, lo ≤ x ∧ ¬ S x ∧ x ≠ g ∧ x ∉ fe := by
 obtain ⟨ecs, f, h1, h2, h3⟩ := h.els k hk
 obtain ⟨x0, x1, x2, x3, x4, rfl⟩ := list5 (Rd.len (Ow.rd h2))
 have hl := h.len
 have := mul_room (K := 5) hk
 have hc := fun m => cell_of_row wz g m _ _ _ h.row
 exact ⟨x0, x1, x2, x3, x4, f, ⟨(hc _).trans (h1 0 _ rfl), (hc _).trans (h1 1 _ rfl), (hc _).trans (h1 2 _ rfl), (hc _).trans (h1 3 _ rfl), (hc _).trans (h1 4 _ rfl)⟩, by have := Nat.mul_le_mul_right 5 hl.1; omega, Rd.one (Ow.rd h2), h2, h3⟩
/-- A copy of one of its rules appended. -/
theorem LentAt.push {P : Program} {k ga cp : Nat} {ecs : List Value} {f : List Nat} {t ty e2 : TypeId} (h : LentAt lo S wz a b c2 c4 c5 c6 c7 g cap cur e fe p) (hS : ∀ x, wz.heap.size ≤ x → ¬ S x) (hlo : lo ≤ wz.heap.size)
  (i : TypeInfo) (z : Value) (bytes : Nat) (ht : P.underlying t = some (.slice e2)) (hi : P.info? e2 = some i) (hz : i.zero = some z) (hsize : i.size = 5) (hby : i.bytes = bytes) (hzs : z.cells.size = 5)
  (he : Ow.O wz ecs (nth p.rules k) f) (hef : ∀ x ∈ f, lo ≤ x ∧ ¬ S x ∧ x ≠ g ∧ x ∉ fe) (hw6 : Cg (fun _ => False) wz w6) (hc : Cells w6 ga 0 ecs)
  (hl : (p.rules.length + 1) * bytes ≤ 140737488355328) (hl2 : p.rules.length + 1 ≤ 140737488355328) :
  ∃ g' cap' cur' e' w8, (Builtin.append_ #[t, t] ty #[.slice (some ⟨g, 0, none⟩) p.rules.length cap, .slice (some ⟨ga, 0, none⟩) 1 cp]).run P w6 = .ok (.slice (some ⟨g', 0, none⟩) (p.rules.length + 1) cap') w8 ∧
   Cg (fun x => x = g) wz w8 ∧ LentAt lo S w8 a b c2 c4 c5 c6 c7 g' cap' cur' e' fe { p with rules := p.rules ++ [nth p.rules k] } := by
 have hel : ecs.length = 5 := Rd.len (Ow.rd he)
 have hone : ∀ u ∈ ecs, u.oneCell' = true := fun u hu => Rd.one (Ow.rd he) u hu
 have hnews : ∀ j u, ecs[j]? = some u → w6.cell? ((⟨ga, 0, none⟩ : Addr).add j) = some u := fun j u hu => by
  have := hc j u hu
  unfold Addr.add
  by_cases hj : j = 0
  ·subst hj; simpa using this
  ·rw [if_neg hj]; exact this
 obtain ⟨hle, hcm, hcs⟩ := h.len
 have hg := h.gne
 have hrow6 := hw6.at h.row (fun h => h)
 have hgl := block_lt h.row
 have hlc : p.rules.length * 5 ≤ cur.size := Nat.le_trans (Nat.mul_le_mul_right _ hle) hcs
 have hL : (p.rules ++ [nth p.rules k]).length = p.rules.length + 1 := by rw [List.length_append]; rfl
 by_cases hroom : p.rules.length + 1 ≤ cap
 ·have hrc : (p.rules.length + 1) * 5 ≤ cur.size := Nat.le_trans (Nat.mul_le_mul_right _ hroom) hcs
  rw [Nat.add_mul, Nat.one_mul] at hrc
  have hrun := run_append_room_cells (P := P) w6 t ty e2 i ht hi g 0 p.rules.length cap ⟨ga, 0, none⟩ 1 cp ecs (by rw [hel, hsize]) hnews hone hroom
   (fun j hj => by rw [cell_of_row w6 g _ _ _ _ hrow6, hsize, Nat.zero_add, Array.getElem?_eq_getElem (by omega)]; rfl)
   (fun j hj => frozen_of_row w6 g _ cur e hrow6)
  rw [hsize, Nat.zero_add, setCells_put] at hrun
  obtain ⟨cur', p1, p2, p3⟩ := put_block g e ecs w6 (p.rules.length * 5) cur hrow6 (by omega)
  have hch := put_chg g ecs w6 (p.rules.length * 5)
  have k8 : Cg (fun x => x = g) w6 (put w6 g (p.rules.length * 5) ecs) := ⟨hch.os, hch.tape, hch.output, Nat.le_of_eq hch.size.symm, fun x _ hn => hch.block x (by simpa using hn)⟩
  have kz : Cg (fun x => x = g) wz (put w6 g (p.rules.length * 5) ecs) := (hw6.more fun _ _ h => h.elim).trans k8
  have hX8 : OwL (α := Int × Int) (put w6 g (p.rules.length * 5) ecs) [c6] p.exts fe := Ow.kept (α := List (Int × Int)) h.ext.1 fun x hx => kz.block x (Ow.lt (α := List (Int × Int)) h.ext.1 x hx) (h.ext.2 x hx).2.2
  have kA : ∀ w2, Cg (fun x => S x ∨ x = g ∨ x ∈ fe) (put w6 g (p.rules.length * 5) ecs) w2 → Cg (fun x => S x ∨ x = g ∨ x ∈ fe) wz w2 := fun w2 hw => (kz.more fun x _ hx => .inr (.inl hx)).trans hw
  refine ⟨g, cap, cur', e, _, hrun, kz, ⟨p1, ⟨by rw [hL]; exact hroom, hcm, by rw [p2]; exact hcs⟩, hg, fun i hi => ?_, ⟨hX8, h.ext.2⟩, fun w2 hw v rs hv v6 es h6 => h.rest w2 (kA w2 hw) v rs hv v6 es h6⟩⟩
  rw [hL] at hi
  by_cases hlt : i < p.rules.length
  ·obtain ⟨es, f1, h1, h2, h3⟩ := h.els i hlt
   have hes : es.length = 5 := Rd.len (Ow.rd h2)
   refine ⟨es, f1, fun j u hu => ?_, ?_, h3⟩
   ·have hj : j < es.length := (List.getElem?_eq_some_iff.1 hu).1
    have := mul_room (K := 5) hlt
    rw [p3, if_neg (by omega)]
    exact h1 j u hu
   ·show Ow.O _ es (nth (p.rules ++ [nth p.rules k]) i) f1
    rw [nth_app_l hlt]; exact Ow.kept h2 fun x hx => kz.block x (Ow.lt h2 x hx) (h3 x hx).2.2.1
  ·have hie : i = p.rules.length := by omega
   subst hie
   refine ⟨ecs, f, fun j u hu => ?_, ?_, hef⟩
   ·have hj : j < ecs.length := (List.getElem?_eq_some_iff.1 hu).1
    rw [p3, if_pos (by omega), Nat.add_sub_cancel_left]
    exact hu
   ·show Ow.O _ ecs (nth (p.rules ++ [nth p.rules k]) p.rules.length) f
    rw [nth_app_r (Nat.le_refl _), Nat.sub_self]; exact Ow.kept he fun x hx => kz.block x (Ow.lt he x hx) (hef x hx).2.2.1
 ·have hol : (cur.toList.take (p.rules.length * 5)).length = p.rules.length * 5 := by have : cur.toList.length = cur.size := Array.length_toList; rw [List.length_take]; omega
  obtain ⟨v', w8, r0, r1, r2⟩ := run_append_arg_grows (P := P) w6 t ty e2 i z 5 bytes ht hi hz hsize hby hzs (by omega) ⟨g, 0, none⟩ p.rules.length cap (cur.toList.take (p.rules.length * 5)) hol (fun j u hu => by
   have hj : j < p.rules.length * 5 := by have := (List.getElem?_eq_some_iff.1 hu).1; rw [hol] at this; exact this
   rw [List.getElem?_take_of_lt hj, Array.getElem?_toList] at hu
   rw [Addr.add_lit, cell_of_row w6 g _ _ _ _ hrow6, Nat.zero_add]
   exact hu) ⟨ga, 0, none⟩ 1 cp ecs (by rw [hel]) hnews (by omega) (by unfold maxLen; omega) hl
  obtain ⟨_, (⟨_, hz0⟩ | ⟨g', cap', cur', rfl, hbg, hh', hn', hm', hs', htake⟩)⟩ := r1
  ·omega
  have hget : ∀ m, m < (p.rules.length + 1) * 5 → cur'[m]? = (cur.toList.take (p.rules.length * 5) ++ ecs)[m]? := fun m hm => by
   rw [← htake, List.getElem?_take_of_lt hm, Array.getElem?_toList]
  have hz6 := hw6.size
  have kz : Cg (fun _ => False) wz w8 := hw6.trans ⟨r2.os, r2.tape, r2.output, r2.size, fun x hx _ => r2.block x hx (by simp)⟩
  have hX8 : OwL (α := Int × Int) w8 [c6] p.exts fe := Ow.kept (α := List (Int × Int)) h.ext.1 fun x hx => kz.block x (Ow.lt (α := List (Int × Int)) h.ext.1 x hx) (fun h => h)
  have kA : ∀ w2, Cg (fun x => S x ∨ x = g' ∨ x ∈ fe) w8 w2 → Cg (fun x => S x ∨ x = g ∨ x ∈ fe) wz w2 := fun w2 hw => kz.join hw (fun x _ hx => hx.elim) (fun x hx hT => by
   rcases hT with e | e | e
   ·exact .inl e
   ·omega
   ·exact .inr (.inr e))
  have hfr : ∀ x, x < wz.heap.size → x ≠ g' := fun x hx e => by omega
  refine ⟨g', cap', cur', e2, w8, r0, kz.more fun x _ hx => hx.elim, ⟨hh', ⟨by rw [hL]; exact hn', by unfold maxLen at hm'; omega, by rw [hs']; exact Nat.le_refl _⟩, ⟨by omega, hS g' (by omega)⟩, fun i hi => ?_, ⟨hX8, fun x hx => ⟨(h.ext.2 x hx).1, (h.ext.2 x hx).2.1, hfr x (Ow.lt (α := List (Int × Int)) h.ext.1 x hx)⟩⟩, fun w2 hw v rs hv v6 es h6 => h.rest w2 (kA w2 hw) v rs hv v6 es h6⟩⟩
  rw [hL] at hi
  by_cases hlt : i < p.rules.length
  ·obtain ⟨es, f1, h1, h2, h3⟩ := h.els i hlt
   have hes : es.length = 5 := Rd.len (Ow.rd h2)
   refine ⟨es, f1, fun j u hu => ?_, ?_, fun x hx => ⟨(h3 x hx).1, (h3 x hx).2.1, hfr x (Ow.lt h2 x hx), (h3 x hx).2.2.2⟩⟩
   ·have hj : j < es.length := (List.getElem?_eq_some_iff.1 hu).1
    have := mul_room (K := 5) hlt
    rw [hget _ (by omega), List.getElem?_append_left (by omega), List.getElem?_take_of_lt (by omega), Array.getElem?_toList]
    exact h1 j u hu
   ·show Ow.O _ es (nth (p.rules ++ [nth p.rules k]) i) f1
    rw [nth_app_l hlt]; exact Ow.kept h2 fun x hx => kz.block x (Ow.lt h2 x hx) (fun h => h)
  ·have hie : i = p.rules.length := by omega
   subst hie
   refine ⟨ecs, f, fun j u hu => ?_, ?_, fun x hx => ⟨(hef x hx).1, (hef x hx).2.1, hfr x (Ow.lt he x hx), (hef x hx).2.2.2⟩⟩
   ·have hj : j < ecs.length := (List.getElem?_eq_some_iff.1 hu).1
    rw [hget _ (by omega), List.getElem?_append_right (by omega), hol, Nat.add_sub_cancel_left]
    exact hu
   ·show Ow.O _ ecs (nth (p.rules ++ [nth p.rules k]) p.rules.length) f
    rw [nth_app_r (Nat.le_refl _), Nat.sub_self]; exact Ow.kept he fun x hx => kz.block x (Ow.lt he x hx) (fun h => h)
end
/-- Lengths as far as appends ask for them. -/
def Wee (p : ProgD) : Prop := (0 < p.rules.length ∧ p.rules.length ≤ 61) ∧ ∀ r ∈ p.rules, r.heads.length ≤ 40 ∧ r.body.length ≤ 40
theorem wee_same {p q : ProgD} (h : SmP p) (h0 : 0 < p.rules.length) (he : q.rules = p.rules) : Wee q := by
 unfold Wee
 rw [he]
 exact ⟨⟨h0, by have := h.1.1; omega⟩, fun r hr => by have := h.1.2 r hr; unfold SmR at this; omega⟩
theorem wee_set {p q : ProgD} {k : Nat} {y : RuleD} (h : SmP p) (h0 : 0 < p.rules.length) (he : q.rules = p.rules.set k y) (hy : y.heads.length ≤ 40 ∧ y.body.length ≤ 40) : Wee q := by
 unfold Wee
 rw [he, List.length_set]
 refine ⟨⟨h0, by have := h.1.1; omega⟩, fun r hr => ?_⟩
 rcases List.mem_or_eq_of_mem_set hr with hr | rfl
 ·have := h.1.2 r hr; unfold SmR at this; omega
 ·exact hy
theorem wee_push {p : ProgD} {k : Nat} (h : Wee p) (hk : k < p.rules.length) (hl : p.rules.length ≤ 60) : Wee { p with rules := p.rules ++ [nth p.rules k] } := by
 refine ⟨⟨by simp, by simp; omega⟩, fun r hr => ?_⟩
 rcases List.mem_append.1 hr with hr | hr
 ·exact h.2 r hr
 ·rw [List.mem_singleton.1 hr]; exact h.2 _ (nth_mem hk)
end Go.Proofs.YthikhkeofcjdfaaGreat
