/-
 A rule drawn for TidyRule; a constraint put to a program. No condition of its own.
-/
import Derived.Test.YthikhkeofcjdfaaGreatOnto
import Derived.Test.YthikhkeofcjdfaaGreatDrawP
import Derived.Test.YthikhkeofcjdfaaGreatDrwN
import Derived.Test.YthikhkeofcjdfaaGreatOutX
import Derived.Test.YthikhkeofcjdfaaGreatBothJ
namespace Go.Proofs.YthikhkeofcjdfaaGreat
set_option linter.unusedVariables false
set_option linter.unusedSimpArgs false
open Go.RowKit
set_option maxRecDepth 100000

theorem owL_grownS {α : Type} [Ow α] {w w' : World} {e : TypeId} {v' : Value} {xs ys : List α} {olds ecs : List Value} {fps gs : List (List Nat)} (hE : Els w olds xs fps) (hol : olds.length = xs.length * Rd.k α) (h2 : Els w ecs ys gs) (hgs : gs.flatten = [])
  (hr : w'.ownsRow w.heap.size e (Rd.k α) v' (xs.length + ys.length) (olds ++ ecs)) (hg : w.grownBy w' none) : ∃ fp', OwL w' [v'] (xs ++ ys) fp' ∧ ∀ b ∈ fp', b ∈ fps.flatten ∨ w.heap.size ≤ b := by
 have hA := Els.app (hE.kept fun g hg' => hg.block g (hE.lt g hg') (by simp)) (h2.kept fun g hg' => hg.block g (h2.lt g hg') (by simp)) hol (fun g h1 h3 => by rw [hgs] at h3; cases h3)
 have hD : OwnD w.heap.size (fun b => b ∈ fps.flatten ∨ w.heap.size ≤ b) e w' v' (xs ++ ys) := by
  refine ⟨olds ++ ecs, fps ++ gs, by rw [List.length_append]; exact hr, hA, fun f hf => ?_, fun g hg' => .inr (hr.lt g hg').1⟩
  rw [List.flatten_append, hgs, List.append_nil] at hf
  exact ⟨.inl hf, fun e => by have := (hr.lt f e).1; have := hE.lt f hf; omega⟩
 exact hD.own
theorem OwL.pushS {α : Type} [Ow α] {P : Program} {w : World} {v : Value} {xs ys : List α} {fp : List Nat} {ecs : List Value} {ga c : Nat} {gs : List (List Nat)} {t ty e : TypeId}
  (i : TypeInfo) (z : Value) (bytes : Nat) (ht : P.underlying t = some (.slice e)) (hi : P.info? e = some i) (hz : i.zero = some z) (hsize : i.size = Rd.k α) (hby : i.bytes = bytes) (hzs : z.cells.size = Rd.k α) (hK : 0 < Rd.k α)
  (h : OwL w [v] xs fp) (hc : Cells w ga 0 ecs) (h2 : Els w ecs ys gs) (hgs : gs.flatten = []) (hel : ecs.length = ys.length * Rd.k α) (hone : ∀ u ∈ ecs, u.oneCell' = true) (hl : (xs.length + ys.length) * bytes ≤ 140737488355328) (hl2 : xs.length + ys.length ≤ 140737488355328) (hyp : 0 < ys.length) :
  ∃ v' w', (Builtin.append_ #[t, t] ty #[v, .slice (some ⟨ga, 0, none⟩) ys.length c]).run P w = .ok v' w' ∧ (∃ fp', OwL w' [v'] (xs ++ ys) fp' ∧ ∀ b ∈ fp', b ∈ fp ∨ w.heap.size ≤ b) ∧
   (w'.os = w.os ∧ w'.tape = w.tape ∧ w'.output = w.output ∧ w.heap.size ≤ w'.heap.size ∧ ∀ b, b < w.heap.size → b ∉ fp → w'.heap[b]? = w.heap[b]?) := by
 have hnews : ∀ j u, ecs[j]? = some u → w.cell? ((⟨ga, 0, none⟩ : Addr).add j) = some u := fun j u hu => by
  have := hc j u hu
  unfold Addr.add
  by_cases hj : j = 0
  ·subst hj; simpa using this
  ·rw [if_neg hj]; exact this
 have h63 : xs.length + ys.length ≤ maxLen := by unfold maxLen; omega
 obtain ⟨a, cap, he, hle, hcm, hrow⟩ := h
 simp only [List.cons.injEq, and_true] at he
 subst he
 rcases hrow with ⟨rfl, rfl, rfl⟩ | ⟨g, e0, cur, fps, rfl, hh, hcs, hfl, rfl, hnd, hx⟩
 ·-- nothing was there
  have hend : ∀ v' w', w'.ownsRow w.heap.size e (Rd.k α) v' (0 + ys.length) ([] ++ ecs) → w.grownBy w' none → (∃ fp', OwL w' [v'] ([] ++ ys) fp' ∧ ∀ b ∈ fp', b ∈ [] ∨ w.heap.size ≤ b) := fun v' w' r1 r2 => by
   obtain ⟨fp', k1, k2⟩ := owL_grownS (α := α) (xs := []) (olds := []) (fps := []) (Els.nil _ _) (by simp) h2 hgs (by simpa using r1) r2
   exact ⟨fp', k1, fun b hb => by simpa using k2 b hb⟩
  cases a with
  | none =>
   obtain ⟨v', w', r0, r1, r2, _⟩ := run_append_own (P := P) w w.heap.size t ty e i z (Rd.k α) bytes ht hi hz hsize hby hzs hK (.slice none 0 0) 0 [] (World.ownsRow_nil w _ e _) ⟨ga, 0, none⟩ ys.length c ecs hel hnews hone (by simpa using h63) (by simpa using hl) (Nat.le_refl _)
   exact ⟨v', w', r0, hend v' w' (by simpa using r1) r2, r2.os, r2.tape, r2.output, r2.size, fun b hb _ => r2.block b hb (by simp [Value.ownBlock])⟩
  | some a' =>
   obtain ⟨v', w', r0, r1, r2⟩ := run_append_arg_grows (P := P) w t ty e i z (Rd.k α) bytes ht hi hz hsize hby hzs hK a' 0 0 [] (by simp) (by intro _ _ h'; simp at h') ⟨ga, 0, none⟩ ys.length c ecs hel hnews (by omega) (by simpa using h63) (by simpa using hl)
   exact ⟨v', w', r0, hend v' w' (by simpa using r1) r2, r2.os, r2.tape, r2.output, r2.size, fun b hb _ => r2.block b hb (by simp)⟩
 ·have hndf := (List.nodup_cons.1 hnd)
  have hE := els_row hh hfl hndf.2 hx
  have hlc : xs.length * Rd.k α ≤ cur.size := Nat.le_trans (Nat.mul_le_mul_right _ hle) hcs
  have hol : (cur.toList.take (xs.length * Rd.k α)).length = xs.length * Rd.k α := by have : cur.toList.length = cur.size := Array.length_toList; rw [List.length_take]; omega
  by_cases hroom : xs.length + ys.length ≤ cap
  ·have hrc : (xs.length + ys.length) * Rd.k α ≤ cur.size := Nat.le_trans (Nat.mul_le_mul_right _ hroom) hcs
   rw [Nat.add_mul] at hrc
   have hrun := run_append_room_cells (P := P) w t ty e i ht hi g 0 xs.length cap ⟨ga, 0, none⟩ ys.length c ecs (by rw [hel, hsize]) hnews hone hroom
    (fun j hj => by rw [cell_of_row w g _ _ _ _ hh, hsize, Nat.zero_add, Array.getElem?_eq_getElem (by omega)]; rfl)
    (fun j hj => frozen_of_row w g _ cur e0 hh)
   rw [hsize, Nat.zero_add, setCells_put] at hrun
   have hpb := put_block g e0 ecs w (xs.length * Rd.k α) cur hh (by omega)
   have hch := put_chg g ecs w (xs.length * Rd.k α)
   refine ⟨_, _, hrun, ⟨g :: fps.flatten, ?_, fun b hb => .inl hb⟩, hch.os, hch.tape, hch.output, Nat.le_of_eq hch.size.symm, fun b _ hb => hch.block b (fun hm => hb (by simp at hm; subst hm; simp))⟩
   ·obtain ⟨cur', p1, p2, p3⟩ := hpb
    refine ⟨some ⟨g, 0, none⟩, cap, by rw [List.length_append], by rw [List.length_append]; exact hroom, hcm, .inr ⟨g, e0, cur', fps ++ gs, rfl, p1, by rw [p2]; exact hcs, by simp [hfl, h2.1], by rw [List.flatten_append, hgs, List.append_nil], List.nodup_cons.2 hndf, fun i hi => ?_⟩⟩
    rw [List.length_append] at hi
    by_cases hlt : i < xs.length
    ·obtain ⟨es, hC, hO⟩ := hx i hlt
     have hes := Rd.len (Ow.rd hO)
     have hrm := mul_room (K := Rd.k α) hlt
     refine ⟨es, fun j u hu => ?_, ?_⟩
     ·have hj : j < es.length := (List.getElem?_eq_some_iff.1 hu).1
      have h0 := hC j u hu
      rw [cell_of_row w g _ _ _ _ hh] at h0
      rw [cell_of_row _ g _ _ _ _ p1, p3, if_neg (by omega)]
      exact h0
     ·rw [nth_app_l hlt, getD_app_l (by omega)]
      exact Ow.kept hO fun b hb => hch.block b (fun hm => hndf.1 (by
       have : b = g := by simpa using hm
       rw [← this]
       exact mem_flat hb))
    ·obtain ⟨m, rfl⟩ : ∃ m, i = xs.length + m := ⟨i - xs.length, by omega⟩
     have hm : m < ys.length := by omega
     obtain ⟨es, hC, hO⟩ := h2.2.2 m hm
     have hes := Rd.len (Ow.rd hO)
     have hrm := mul_room (K := Rd.k α) hm
     have hmul : (xs.length + m) * Rd.k α = xs.length * Rd.k α + m * Rd.k α := Nat.add_mul ..
     have hgd : gs.getD m [] = [] := by
      rw [List.eq_nil_iff_forall_not_mem]
      intro b hb
      have := mem_flat hb
      rw [hgs] at this; cases this
     refine ⟨es, fun j u hu => ?_, ?_⟩
     ·have hj : j < es.length := (List.getElem?_eq_some_iff.1 hu).1
      have h0 := hC j u hu
      rw [cell_of_row _ g _ _ _ _ p1, p3, if_pos (by omega), hmul, show xs.length * Rd.k α + m * Rd.k α + j - xs.length * Rd.k α = m * Rd.k α + j by omega]
      exact h0
     ·rw [nth_app_r (by omega), getD_app_r (by omega), hfl, Nat.add_sub_cancel_left, hgd]
      rw [hgd] at hO
      exact Ow.kept hO fun b hb => by cases hb
  ·obtain ⟨v', w', r0, r1, r2⟩ := run_append_arg_grows (P := P) w t ty e i z (Rd.k α) bytes ht hi hz hsize hby hzs hK ⟨g, 0, none⟩ xs.length cap (cur.toList.take (xs.length * Rd.k α)) hol (fun j u hu => by
    have hj : j < xs.length * Rd.k α := by have := (List.getElem?_eq_some_iff.1 hu).1; rw [hol] at this; exact this
    rw [List.getElem?_take_of_lt hj, Array.getElem?_toList] at hu
    rw [Addr.add_lit, cell_of_row w g _ _ _ _ hh, Nat.zero_add]
    exact hu) ⟨ga, 0, none⟩ ys.length c ecs hel hnews (by omega) h63 hl
   obtain ⟨fp', k1, k2⟩ := owL_grownS hE hol h2 hgs r1 r2
   exact ⟨v', w', r0, ⟨fp', k1, fun b hb => (k2 b hb).imp (List.mem_cons_of_mem _) id⟩, r2.os, r2.tape, r2.output, r2.size, fun b hb _ => r2.block b hb (by simp)⟩

def TidRPost (w : World) (e : Ending) (w' : World) : Prop := ∃ cs r, e = .returned (.agg (List.toArray cs)) ∧ Rd.R (α := RuleD) w' cs r ∧ r.heads.length ≤ 40 ∧ r.body.length ≤ 50 ∧ Below w.heap.size w w'
theorem owL_at {α : Type} [Ow α] {w : World} {a : Option Addr} {n cap : Nat} {xs : List α} {fp : List Nat} (h : OwL w [.slice a n cap] xs fp) {k : Nat} (hk : k < xs.length) :
  ∃ g ecs f, a = some ⟨g, 0, none⟩ ∧ Cells w g (k * Rd.k α) ecs ∧ Ow.O w ecs (nth xs k) f := by
 obtain ⟨a', cap', he, _, _, hrow⟩ := h
 simp only [List.cons.injEq, and_true, Value.slice.injEq] at he
 obtain ⟨rfl, rfl, rfl⟩ := he
 rcases hrow with ⟨rfl, _⟩ | ⟨g, e, cur, fps, rfl, hh, hcs, hfl, rfl, hnd, hx⟩
 ·simp at hk
 ·obtain ⟨ecs, hC, hO⟩ := hx k hk
  exact ⟨g, ecs, _, rfl, hC, hO⟩
structure TR (w : World) (c N lo G : Nat) (wz : World) (v1 v4 : Value) (r : RuleD) : Prop where
 res : RB wz w.heap.size false (.slice none 0 0) false 0 (.slice none 0 0)
 box : RB wz G r.choice v1 r.weight r.bound v4
 own : ∃ f1 f2, OwL wz [v1] r.heads f1 ∧ OwL wz [v4] r.body f2 ∧ (f1 ++ f2).Nodup ∧ ∀ x ∈ f1 ++ f2, lo ≤ x ∧ x ≠ G
 lt : w.heap.size < c ∧ c < lo ∧ lo ≤ G
 fit : Fits r.bound
 cur : Cur wz c N
 bel : Below w.heap.size w wz
section
variable {w wz w2 : World} {c N N' lo G : Nat} {v1 v4 : Value} {r : RuleD}
theorem TR.cg (h : TR w c N lo G wz v1 v4 r) (k : Cg (fun x => x = c) wz w2) (hcur : Cur w2 c N') : TR w c N' lo G w2 v1 v4 r := by
 have hl := h.lt
 obtain ⟨f1, f2, o1, o2, hn, hf⟩ := h.own
 refine ⟨h.res.cg k (by omega), h.box.cg k (by omega), ⟨f1, f2, Ow.kept (α := List Int) o1 fun g hg => k.block g (Ow.lt (α := List Int) o1 g hg) (fun e => ?_), Ow.kept (α := List (Int × Int)) o2 fun g hg => k.block g (Ow.lt (α := List (Int × Int)) o2 g hg) (fun e => ?_), hn, hf⟩, hl, h.fit, hcur, ?_⟩
 ·have := (hf g (List.mem_append_left _ hg)).1; omega
 ·have := (hf g (List.mem_append_right _ hg)).1; omega
 ·exact ⟨k.os.trans h.bel.os, k.tape.trans h.bel.tape, k.output.trans h.bel.output, Nat.le_trans h.bel.size k.size, fun x hx => (k.block x (Nat.lt_of_lt_of_le hx h.bel.size) (by omega)).trans (h.bel.block x hx)⟩
theorem TR.cgr (h : TR w c N lo G wz v1 v4 r) (k : Cg (fun x => x = w.heap.size) wz w2) : ∃ f1 f2, OwL w2 [v1] r.heads f1 ∧ OwL w2 [v4] r.body f2 ∧ Fits r.bound := by
 have hl := h.lt
 obtain ⟨f1, f2, o1, o2, hn, hf⟩ := h.own
 refine ⟨f1, f2, Ow.kept (α := List Int) o1 fun g hg => k.block g (Ow.lt (α := List Int) o1 g hg) (fun e => ?_), Ow.kept (α := List (Int × Int)) o2 fun g hg => k.block g (Ow.lt (α := List (Int × Int)) o2 g hg) (fun e => ?_), h.fit⟩
 ·have := (hf g (List.mem_append_left _ hg)).1; omega
 ·have := (hf g (List.mem_append_right _ hg)).1; omega
theorem TR.rdr (h : TR w c N lo G wz v1 v4 r) (k : Cg (fun x => x = w.heap.size) wz w2) : Rd.R (α := RuleD) w2 [.bool r.choice, v1, .bool r.weight, .int .i64 r.bound, v4] r := by
 obtain ⟨f1, f2, o1, o2, hf⟩ := h.cgr k
 exact ⟨v1, v4, rfl, hf, o1.rd, o2.rd⟩
theorem TR.rd (h : TR w c N lo G wz v1 v4 r) : Rd.R (α := RuleD) wz [.bool r.choice, v1, .bool r.weight, .int .i64 r.bound, v4] r := by
 obtain ⟨f1, f2, o1, o2, hn, hf⟩ := h.own
 exact ⟨v1, v4, rfl, h.fit, o1.rd, o2.rd⟩
theorem TR.forms (h : TR w c N lo G wz v1 v4 r) : (∃ a q, v1 = .slice a r.heads.length q) ∧ ∃ a q, v4 = .slice a r.body.length q := by
 obtain ⟨f1, f2, o1, o2, hn, hf⟩ := h.own
 exact ⟨owL_form o1, owL_form o2⟩
theorem TR.push {P : Program} {y : Int × Int} {ecs : List Value} {ga cp : Nat} {t ty e : TypeId} (h : TR w c N lo G wz v1 v4 r)
  (i : TypeInfo) (z : Value) (bytes : Nat) (ht : P.underlying t = some (.slice e)) (hi : P.info? e = some i) (hz : i.zero = some z) (hsize : i.size = 2) (hby : i.bytes = bytes) (hzs : z.cells.size = 2)
  (hc : Cells wz ga 0 ecs) (ho : Ow.O wz ecs y []) (hl : (r.body.length + 1) * bytes ≤ 140737488355328) (hl2 : r.body.length + 1 ≤ 140737488355328) :
  ∃ v' w', (Builtin.append_ #[t, t] ty #[v4, .slice (some ⟨ga, 0, none⟩) 1 cp]).run P wz = .ok v' w' ∧ RB w' G r.choice v1 r.weight r.bound v4 ∧ (∃ a q, v' = .slice a (r.body.length + 1) q) ∧ TR w c N lo G (w'.setCell ⟨G, 4, none⟩ v') v1 v' { r with body := r.body ++ [y] } := by
 obtain ⟨f1, f2, o1, o2, hn, hf⟩ := h.own
 obtain ⟨v', w', hr, ⟨fp', a1, a2⟩, b1, b2, b3, b4, b5⟩ := OwL.push (α := Int × Int) (P := P) (ty := ty) (c := cp) i z bytes ht hi hz hsize hby hzs (by decide) o2 hc ho (fun b _ => List.not_mem_nil) hl hl2
 have hlt := h.lt
 have hGl := h.box.lt
 have hcg : Cg (fun x => x ∈ f2) wz w' := ⟨b1, b2, b3, b4, fun x hx hn => b5 x hx hn⟩
 have n2 : ∀ x, x < lo → x ∉ f2 := fun x hx hm => by have := (hf x (List.mem_append_right _ hm)).1; omega
 have nG : G ∉ f2 := fun hm => (hf G (List.mem_append_right _ hm)).2 rfl
 have hB := h.box.cg hcg nG
 have ks : Cg (fun x => x = G) w' (w'.setCell ⟨G, 4, none⟩ v') := Cg.set (Cg.refl _ w') _ v' rfl
 have hdj : ∀ x ∈ f1, ∀ y ∈ f2, x ≠ y := (List.nodup_append.1 hn).2.2
 have h1lt := Ow.lt (α := List Int) o1
 have n1 : ∀ x ∈ f1, x ≠ G := fun x hx => (hf x (List.mem_append_left _ hx)).2
 have np : ∀ x ∈ fp', lo ≤ x ∧ x ≠ G ∧ x ∉ f1 := fun x hx => by
  rcases a2 x hx with h3 | h3 | h3
  ·exact ⟨(hf x (List.mem_append_right _ h3)).1, (hf x (List.mem_append_right _ h3)).2, fun hm => hdj x hm x h3 rfl⟩
  ·cases h3
  ·exact ⟨by omega, by omega, fun hm => by have := h1lt x hm; omega⟩
 have kall : Cg (fun x => lo ≤ x) wz (w'.setCell ⟨G, 4, none⟩ v') := (hcg.more fun x _ hx => (hf x (List.mem_append_right _ hx)).1).trans (ks.more fun x _ hx => by omega)
 have hO1 := Ow.kept (α := List Int) o1 fun x hx => (ks.block x (Nat.lt_of_lt_of_le (h1lt x hx) hcg.size) (n1 x hx)).trans (hcg.block x (h1lt x hx) fun hm => hdj x hx x hm rfl)
 have hO2 := Ow.kept (α := List (Int × Int)) a1 fun x hx => ks.block x (Ow.lt (α := List (Int × Int)) a1 x hx) (np x hx).2.1
 have hfm : ∃ a q, v' = .slice a (r.body.length + 1) q := by
  obtain ⟨a, q, he⟩ := owL_form a1
  rw [List.length_append] at he
  exact ⟨a, q, he⟩
 refine ⟨v', w', hr, hB, hfm, ⟨h.res.cg kall (by omega), hB.set4 v', ⟨f1, fp', hO1, hO2, List.nodup_append.2 ⟨(List.nodup_append.1 hn).1, Ow.nodup (α := List (Int × Int)) a1, fun x hx y hy e => (np y hy).2.2 (e ▸ hx)⟩, fun x hx => ?_⟩, hlt, h.fit, h.cur.cg (kall.more fun x _ hx => by omega), ?_⟩⟩
 ·rcases List.mem_append.1 hx with hx | hx
  ·exact hf x (List.mem_append_left _ hx)
  ·exact ⟨(np x hx).1, (np x hx).2.1⟩
 ·exact ⟨kall.os.trans h.bel.os, kall.tape.trans h.bel.tape, kall.output.trans h.bel.output, Nat.le_trans h.bel.size kall.size, fun x hx => (kall.block x (Nat.lt_of_lt_of_le hx h.bel.size) (by omega)).trans (h.bel.block x hx)⟩
theorem TR.pushS {P : Program} {ys : List (Int × Int)} {ecs : List Value} {gs : List (List Nat)} {ga cp : Nat} {t ty e : TypeId} (h : TR w c N lo G wz v1 v4 r)
  (i : TypeInfo) (z : Value) (bytes : Nat) (ht : P.underlying t = some (.slice e)) (hi : P.info? e = some i) (hz : i.zero = some z) (hsize : i.size = 2) (hby : i.bytes = bytes) (hzs : z.cells.size = 2)
  (hc : Cells wz ga 0 ecs) (he : Els wz ecs ys gs) (hgs : gs.flatten = []) (hel : ecs.length = ys.length * 2) (hone : ∀ u ∈ ecs, u.oneCell' = true) (hl : (r.body.length + ys.length) * bytes ≤ 140737488355328) (hl2 : r.body.length + ys.length ≤ 140737488355328) (hyp : 0 < ys.length) :
  ∃ v' w', (Builtin.append_ #[t, t] ty #[v4, .slice (some ⟨ga, 0, none⟩) ys.length cp]).run P wz = .ok v' w' ∧ RB w' G r.choice v1 r.weight r.bound v4 ∧ (∃ a q, v' = .slice a (r.body.length + ys.length) q) ∧ TR w c N lo G (w'.setCell ⟨G, 4, none⟩ v') v1 v' { r with body := r.body ++ ys } := by
 obtain ⟨f1, f2, o1, o2, hn, hf⟩ := h.own
 obtain ⟨v', w', hr, ⟨fp', a1, a2⟩, b1, b2, b3, b4, b5⟩ := OwL.pushS (α := Int × Int) (P := P) (ty := ty) (c := cp) i z bytes ht hi hz hsize hby hzs (by decide) o2 hc he hgs hel hone hl hl2 hyp
 have hlt := h.lt
 have hGl := h.box.lt
 have hcg : Cg (fun x => x ∈ f2) wz w' := ⟨b1, b2, b3, b4, fun x hx hn => b5 x hx hn⟩
 have n2 : ∀ x, x < lo → x ∉ f2 := fun x hx hm => by have := (hf x (List.mem_append_right _ hm)).1; omega
 have nG : G ∉ f2 := fun hm => (hf G (List.mem_append_right _ hm)).2 rfl
 have hB := h.box.cg hcg nG
 have ks : Cg (fun x => x = G) w' (w'.setCell ⟨G, 4, none⟩ v') := Cg.set (Cg.refl _ w') _ v' rfl
 have hdj : ∀ x ∈ f1, ∀ y ∈ f2, x ≠ y := (List.nodup_append.1 hn).2.2
 have h1lt := Ow.lt (α := List Int) o1
 have n1 : ∀ x ∈ f1, x ≠ G := fun x hx => (hf x (List.mem_append_left _ hx)).2
 have np : ∀ x ∈ fp', lo ≤ x ∧ x ≠ G ∧ x ∉ f1 := fun x hx => by
  rcases a2 x hx with h3 | h3
  ·exact ⟨(hf x (List.mem_append_right _ h3)).1, (hf x (List.mem_append_right _ h3)).2, fun hm => hdj x hm x h3 rfl⟩
  ·exact ⟨by omega, by omega, fun hm => by have := h1lt x hm; omega⟩
 have kall : Cg (fun x => lo ≤ x) wz (w'.setCell ⟨G, 4, none⟩ v') := (hcg.more fun x _ hx => (hf x (List.mem_append_right _ hx)).1).trans (ks.more fun x _ hx => by omega)
 have hO1 := Ow.kept (α := List Int) o1 fun x hx => (ks.block x (Nat.lt_of_lt_of_le (h1lt x hx) hcg.size) (n1 x hx)).trans (hcg.block x (h1lt x hx) fun hm => hdj x hx x hm rfl)
 have hO2 := Ow.kept (α := List (Int × Int)) a1 fun x hx => ks.block x (Ow.lt (α := List (Int × Int)) a1 x hx) (np x hx).2.1
 have hfm : ∃ a q, v' = .slice a (r.body.length + ys.length) q := by
  obtain ⟨a, q, he⟩ := owL_form a1
  rw [List.length_append] at he
  exact ⟨a, q, he⟩
 refine ⟨v', w', hr, hB, hfm, ⟨h.res.cg kall (by omega), hB.set4 v', ⟨f1, fp', hO1, hO2, List.nodup_append.2 ⟨(List.nodup_append.1 hn).1, Ow.nodup (α := List (Int × Int)) a1, fun x hx y hy e => (np y hy).2.2 (e ▸ hx)⟩, fun x hx => ?_⟩, hlt, h.fit, h.cur.cg (kall.more fun x _ hx => by omega), ?_⟩⟩
 ·rcases List.mem_append.1 hx with hx | hx
  ·exact hf x (List.mem_append_left _ hx)
  ·exact ⟨(np x hx).1, (np x hx).2.1⟩
 ·exact ⟨kall.os.trans h.bel.os, kall.tape.trans h.bel.tape, kall.output.trans h.bel.output, Nat.le_trans h.bel.size kall.size, fun x hx => (kall.block x (Nat.lt_of_lt_of_le hx h.bel.size) (by omega)).trans (h.bel.block x hx)⟩
theorem TR.bound (h : TR w c N lo G wz v1 v4 r) (y : Int) (hy : Fits y) : TR w c N lo G (wz.setCell ⟨G, 3, none⟩ (.int .i64 y)) v1 v4 { r with bound := y } := by
 have hl := h.lt
 obtain ⟨f1, f2, o1, o2, hn, hf⟩ := h.own
 have k : Cg (fun x => x = G) wz (wz.setCell ⟨G, 3, none⟩ (.int .i64 y)) := Cg.set (Cg.refl _ wz) _ _ rfl
 refine ⟨h.res.cg k (by omega), h.box.set3 y, ⟨f1, f2, Ow.kept (α := List Int) o1 fun g hg => k.block g (Ow.lt (α := List Int) o1 g hg) (hf g (List.mem_append_left _ hg)).2, Ow.kept (α := List (Int × Int)) o2 fun g hg => k.block g (Ow.lt (α := List (Int × Int)) o2 g hg) (hf g (List.mem_append_right _ hg)).2, hn, hf⟩, hl, hy, h.cur.cg (k.more fun x _ hx => by omega), ?_⟩
 exact ⟨k.os.trans h.bel.os, k.tape.trans h.bel.tape, k.output.trans h.bel.output, Nat.le_trans h.bel.size k.size, fun x hx => (k.block x (Nat.lt_of_lt_of_le hx h.bel.size) (by omega)).trans (h.bel.block x hx)⟩
end
set_option maxHeartbeats 4000000 in
theorem DrawTidyRule_calls (HA : AnyOk) (a : Option Addr) (bs : List Int) (cap : Nat) (w : World) (h : Bytes w a bs) :
  Calls Tryz.prog 13 #[.slice a bs.length cap] w (TidRPost w) := by
 have tz : Below w.heap.size w (w.alloc (.cells #[.bool false, .slice none 0 0, .bool false, .int .i64 0, .slice none 0 0] 34)) := (Below.refl _ _).alloc (Nat.le_refl _) _
 have hB := h.later tz
 have hz0 := alloc_block w #[.bool false, .slice none 0 0, .bool false, .int .i64 0, .slice none 0 0] 34
 go_enter Tryz.func13, Tryz.ntmps13
 go_wp2_with fail
 refine (open_calls _ _ _ _ hB).mono ?_
 rintro e w1 ⟨rfl, hc, hb⟩
 rw [World.size_alloc] at hc hb
 have hcl := hc.lt
 have hz1 := (hb.block _ (Nat.lt_succ_self _)).trans hz0
 rw [World.size_alloc]
 go_wp2_with fail
 refine (HA (w.heap.size + 1) 0 w1 hc (by omega)).mono ?_
 rintro e w2 ⟨cs, p, rfl, hL, hwee, c2, k2⟩
 obtain ⟨x0, x1, x2, x3, x4, x5, x6, x7, rfl⟩ := list8 (Rd.len hL.rd)
 have l1 := Rd.one hL.rd
 have st0 := sto Tryz.prog (l1 x0 (by simp))
 have st1 := sto Tryz.prog (l1 x1 (by simp))
 have st2 := sto Tryz.prog (l1 x2 (by simp))
 have st3 := sto Tryz.prog (l1 x3 (by simp))
 have st4 := sto Tryz.prog (l1 x4 (by simp))
 have st5 := sto Tryz.prog (l1 x5 (by simp))
 have st6 := sto Tryz.prog (l1 x6 (by simp))
 have st7 := sto Tryz.prog (l1 x7 (by simp))
 have hz2 := k2.size
 have hr2 := (Cg.wrote (S := fun x => x = w.heap.size + 1) k2 rfl).at hz1 (by omega)
 have t1 : Below w.heap.size w w1 := tz.trans (hb.mono (Nat.le_succ _))
 have t2 : Below w.heap.size w w2 := Wrote.mark t1 k2 (by omega)
 obtain ⟨gq, capq, curq, eq, feq, rfl, hL1⟩ := hL.at
 have hkq := hwee.1.1
 obtain ⟨r0, r1, r2, r3, r4, fx, ⟨u0, u1, u2, u3, u4⟩, hsz, hone, hO, hfx⟩ := hL1.rule hkq
 simp only [Nat.zero_mul, Nat.zero_add] at u0 u1 u2 u3 u4
 have hkqi : (0 : Int) < (p.rules.length : Int) := by omega
 have hw5 := hwee.2 (nth p.rules 0) (nth_mem hkq)
 have hG1 : Cg (fun _ => False) w2 (w2.alloc (.cells [x0, .slice (some ⟨gq, 0, none⟩) p.rules.length capq, x2, x3, x4, x5, x6, x7].toArray 30)) := Cg.alloc (Cg.refl _ w2) _
 have hr3 := hG1.at hr2 (fun h => h)
 have c3 := c2.kept ((Below.refl w2.heap.size w2).alloc (Nat.le_refl _) (.cells [x0, .slice (some ⟨gq, 0, none⟩) p.rules.length capq, x2, x3, x4, x5, x6, x7].toArray 30))
 have hO3 := Ow.kept hO fun x hx => hG1.block x (Ow.lt hO x hx) (fun h => h)
 have t3 := t2.alloc t2.size (.cells [x0, .slice (some ⟨gq, 0, none⟩) p.rules.length capq, x2, x3, x4, x5, x6, x7].toArray 30)
 have kk := (Below.refl w2.heap.size w2).alloc (Nat.le_refl _) (.cells [x0, .slice (some ⟨gq, 0, none⟩) p.rules.length capq, x2, x3, x4, x5, x6, x7].toArray 30)
 have v0 := cell_kept kk u0
 have v1 := cell_kept kk u1
 have v2 := cell_kept kk u2
 have v3 := cell_kept kk u3
 have v4 := cell_kept kk u4
 obtain ⟨y1, y4, f1, f2, hre, hbf, o1, o2, hfx2, hnd⟩ := hO3
 simp only [List.cons.injEq, and_true] at hre
 obtain ⟨rfl, rfl, rfl, rfl, rfl⟩ := hre
 subst hfx2
 obtain ⟨b1, q1, rfl⟩ := owL_form o1
 obtain ⟨b4, q4, rfl⟩ := owL_form o2
 generalize nth p.rules 0 = r at *
 clear hO hL hL1 hG1 hr2 c2 t2 k2 u0 u1 u2 u3 u4 kk
 have h0 : TR w (w.heap.size + 1) 6000 w1.heap.size (w2.heap.size + 1) ((w2.alloc (.cells [x0, .slice (some ⟨gq, 0, none⟩) p.rules.length capq, x2, x3, x4, x5, x6, x7].toArray 30)).alloc (.cells #[.bool r.choice, .slice b1 r.heads.length q1, .bool r.weight, .int .i64 r.bound, .slice b4 r.body.length q4] 34)) (.slice b1 r.heads.length q1) (.slice b4 r.body.length q4) r := by
  have k : Cg (fun _ => False) (w2.alloc (.cells [x0, .slice (some ⟨gq, 0, none⟩) p.rules.length capq, x2, x3, x4, x5, x6, x7].toArray 30)) ((w2.alloc (.cells [x0, .slice (some ⟨gq, 0, none⟩) p.rules.length capq, x2, x3, x4, x5, x6, x7].toArray 30)).alloc (.cells #[.bool r.choice, .slice b1 r.heads.length q1, .bool r.weight, .int .i64 r.bound, .slice b4 r.body.length q4] 34)) := (Cg.refl _ _).alloc _
  have bx := alloc_block (w2.alloc (.cells [x0, .slice (some ⟨gq, 0, none⟩) p.rules.length capq, x2, x3, x4, x5, x6, x7].toArray 30)) #[.bool r.choice, .slice b1 r.heads.length q1, .bool r.weight, .int .i64 r.bound, .slice b4 r.body.length q4] 34
  rw [World.size_alloc] at bx
  have z1 := Ow.lt (α := List Int) o1
  have z2 := Ow.lt (α := List (Int × Int)) o2
  rw [World.size_alloc] at z1 z2
  refine ⟨k.at hr3 (fun h => h), bx, ⟨f1, f2, Ow.kept (α := List Int) o1 fun g hg => k.block g (Ow.lt (α := List Int) o1 g hg) (fun h => h), Ow.kept (α := List (Int × Int)) o2 fun g hg => k.block g (Ow.lt (α := List (Int × Int)) o2 g hg) (fun h => h), hnd, fun x hx => ⟨(hfx x hx).1, ?_⟩⟩, ⟨by omega, by omega, by omega⟩, hbf, (c3.cg (k.more fun _ _ h => h.elim)).mono (by omega), t3.alloc t3.size _⟩
  rcases List.mem_append.1 hx with hx | hx
  ·have := z1 x hx; omega
  ·have := z2 x hx; omega
 go_upto_region 4 with fail
 clear hnd hfx o1 o2 v0 v1 v2 v3 v4 t3 c3 hr3 hone l1 st0 st1 st2 st3 st4 st5 st6 st7
 obtain ⟨G, hG⟩ : ∃ G, G = w2.heap.size + 1 := ⟨_, rfl⟩
 rw [← hG] at h0
 rw [← hG]
 obtain ⟨c, hcE⟩ : ∃ c, c = w.heap.size + 1 := ⟨_, rfl⟩
 rw [← hcE] at h0
 rw [← hcE]
 generalize (w2.alloc _).alloc _ = wb at *
 clear hG hc hb t1 hz1 hz0 tz hB hcE hcl
 obtain ⟨y0, y1, y2, y3, y4, yf⟩ := h0.box.cells
 go_cut [3, 5, 22] (fun cp q b wz => cp = .pointer (some ⟨c, 0, none⟩) ∧ q = .pointer (some ⟨G, 0, none⟩) ∧ ∃ bv : Bool, b = .bool bv ∧ (bv = true → 0 < r.body.length) ∧ TR w c 6001 w1.heap.size G wz (.slice b1 r.heads.length q1) (.slice b4 r.body.length q4) r)
 case first =>
  by_cases hb0 : 0 < r.body.length
  ·have hbi : (0 : Int) < (r.body.length : Int) := by omega
   go_wp2_with fail
   refine (pick_calls c 6000 3 wb h0.cur (by omega) ⟨by omega, by omega⟩).mono ?_
   rintro e w5 ⟨s, ⟨hs0, hs1, _⟩, rfl, hc5, hw5⟩
   have h5 := h0.cg (Cg.wrote (S := fun x => x = c) hw5 rfl) hc5
   go_wp2_with fail
   go_meet
   exact ⟨rfl, rfl, _, rfl, fun _ => hb0, h5⟩
  ·have hbi : (r.body.length : Int) ≤ 0 := by omega
   go_wp2_with fail
   go_meet
   exact ⟨rfl, rfl, _, rfl, fun h => (by cases h), h0.cg (Cg.refl _ _) (h0.cur.mono (by omega))⟩
 case rest =>
  obtain ⟨rfl, rfl, bv, rfl, hbv, h5⟩ := hcut
  clear h0 y0 y1 y2 y3 y4 yf
  obtain ⟨y0, y1, y2, y3, y4, yf⟩ := h5.box.cells
  go_upto_if 22 with fail
  go_cut [3, 5] (fun cp q wz => cp = .pointer (some ⟨c, 0, none⟩) ∧ q = .pointer (some ⟨G, 0, none⟩) ∧ ∃ v4 r', TR w c 6002 w1.heap.size G wz (.slice b1 r.heads.length q1) v4 r' ∧ r'.heads = r.heads ∧ r'.body.length ≤ 41)
  case first =>
   cases bv
   ·go_wp2_with fail
    go_meet
    exact ⟨rfl, rfl, _, _, h5.cg (Cg.refl _ _) (h5.cur.mono (by omega)), rfl, by omega⟩
   ·have hb0 := hbv rfl
    go_upto_region 5 with fail
    obtain ⟨i2, hi2, hz20, hz21, hz22⟩ := info_parts info_wlit
    obtain ⟨gb, rfl⟩ : ∃ gb, b4 = some ⟨gb, 0, none⟩ := by
     obtain ⟨f1, f2, o1, o2, hn, hf⟩ := h5.own
     obtain ⟨gb, ecs, fb, e, -⟩ := owL_at (α := Int × Int) o2 hb0
     exact ⟨gb, e⟩
    have y4d := cell_kept (Below.refl wc.heap.size wc).drew y4
    refine wp_region_held_drew (S := fun _ => True) (by kernel_rfl) trivial (fun hHeld => ?_)
    refine tkY 0 (.pointer (some ⟨G, 4, none⟩)) 23 rfl rfl (fun w' hw' => ?_) hHeld ?_
    ·go_simp
    try simp only [Act.put, put1, put2, put3]
    refine tkY 2 (.pointer (some ⟨G, 4, none⟩)) 25 rfl rfl (fun w' hw' => ?_) hHeld ?_
    ·go_simp
    try simp only [Act.put, put1, put2, put3]
    refine tkY 4 (.pointer (some ⟨c, 0, none⟩)) 27 rfl rfl (fun w' hw' => ?_) hHeld ?_
    ·go_simp
    try simp only [Act.put, put1, put2, put3]
    refine tkY 5 (.pointer (some ⟨G, 4, none⟩)) 28 rfl rfl (fun w' hw' => ?_) hHeld ?_
    ·go_simp
    try simp only [Act.put, put1, put2, put3]
    refine wpAnyH_ready (rs := [1, 3, 6]) (by kernel_rfl) (by simp) ?_
    refine AllReadyH.cons rfl (fun K hK => ?_) (AllReadyH.cons rfl (fun K hK => ?_) (AllReadyH.cons rfl (fun K hK => ?_) AllReadyH.nil))
    ·skip
     go_simp
     refine hK.out _ _ (trivial) (fun hHeld => ?_)
     clear hK K
     try simp only [Act.put, put1, put2, put3]
     refine wpAnyH_ready (rs := [3, 6]) (by kernel_rfl) (by simp) ?_
     refine AllReadyH.cons rfl (fun K hK => ?_) (AllReadyH.cons rfl (fun K hK => ?_) AllReadyH.nil)
     ·skip
      go_simp
      refine hK.out _ _ (trivial) (fun hHeld => ?_)
      clear hK K
      try simp only [Act.put, put1, put2, put3]
      refine wpAnyH_ready (rs := [6]) (by kernel_rfl) (by simp) ?_
      refine AllReadyH.cons rfl (fun K hK => ?_) AllReadyH.nil
      go_simp
      refine hK.out _ _ (trivial) (fun hHeld => ?_)
      clear hK K
      try simp only [Act.put, put1, put2, put3]
      refine tkY 7 (.int .i64 (r.body.length : Int)) 30 rfl rfl (fun w' hw' => ?_) hHeld ?_
      ·go_simp
      try simp only [Act.put, put1, put2, put3]
      refine wpAnyH_ready (rs := [8]) (by kernel_rfl) (by simp) ?_
      refine AllReadyH.cons rfl (fun K hK => ?_) AllReadyH.nil
      go_simp
      refine (pick_calls c 6001 (r.body.length : Int) wc.drew (h5.cur.kept (Below.refl _ _).drew) (by omega) ⟨by omega, by omega⟩).mono ?_
      rintro e w5 ⟨s, ⟨hs0, hs1, hs2⟩, rfl, hc5, hw5⟩
      have hs1 : s < (r.body.length : Int) := by
       by_cases h2 : 2 ≤ (r.body.length : Int)
       ·exact hs1 h2
       ·have := hs2 (by omega); omega
      obtain ⟨k, rfl⟩ := Int.eq_ofNat_of_zero_le hs0
      have hk : k < r.body.length := by omega
      have h6 := h5.cg (Cg.wrote (S := fun x => x = c) (((Wrote.refl c _).drewN 1).trans hw5) rfl) hc5
      clear y0 y1 y2 y3 y4 yf
      obtain ⟨y0, y1, y2, y3, y4, yf⟩ := h6.box.cells
      obtain ⟨hC, hF1, hF2⟩ : Cells w5 gb (k * 2) [.int .i64 (nth r.body k).1, .int .i64 (nth r.body k).2] ∧ Fits (nth r.body k).1 ∧ Fits (nth r.body k).2 := by
       obtain ⟨f1, f2, o1, o2, hn, hf⟩ := h6.own
       obtain ⟨g1, ecs, fb, e1, hC, hO⟩ := owL_at (α := Int × Int) o2 hk
       cases e1
       obtain ⟨⟨rfl, hF1, hF2⟩, rfl⟩ := hO
       exact ⟨hC, hF1, hF2⟩
      have z0 := hC.c0
      have z1 := hC.c1
      have ka : Cg (fun x => x = c) w5 (w5.alloc (.cells #[.int .i64 (nth r.body k).1, .int .i64 (nth r.body k).2] 94)) := (Cg.refl _ _).alloc _
      have h7 := h6.cg ka (hc5.kept ((Below.refl _ _).alloc (Nat.le_refl _) _))
      have t4 := h7.box.cells.2.2.2.2.1
      obtain ⟨v8, w8, r8, B8, ⟨a8, q8, rfl⟩, h9⟩ := h7.push (P := Tryz.prog) (y := nth r.body k) (t := 32) (ty := 32) (cp := 1) i2 _ 16 Tryz.underlying32 hi2 hz20 hz21 hz22 rfl (Cells.new w5 [.int .i64 (nth r.body k).1, .int .i64 (nth r.body k).2] 94) ⟨⟨rfl, hF1, hF2⟩, rfl⟩ (by omega) (by omega)
      have H9 := Lib.hid h9
      obtain ⟨x0, x1, x2, x3, x4, xf⟩ := B8.cells
      refine hK.out _ _ (trivial) (fun hHeld => ?_)
      clear hK K
      try simp only [Act.put, put1, put2, put3]
      refine wpAnyH_ready (rs := [9]) (by kernel_rfl) (by simp) ?_
      refine AllReadyH.cons rfl (fun K hK => ?_) AllReadyH.nil
      go_simp
      refine hK.out _ _ (trivial) (fun hHeld => ?_)
      clear hK K
      try simp only [Act.put, put1, put2, put3]
      refine wpAnyH_ready (rs := [10]) (by kernel_rfl) (by simp) ?_
      refine AllReadyH.cons rfl (fun K hK => ?_) AllReadyH.nil
      go_simp
      refine hK.out _ _ (trivial) (fun hHeld => ?_)
      clear hK K
      try simp only [Act.put, put1, put2, put3]
      refine wpAnyH_ready (rs := [11]) (by kernel_rfl) (by simp) ?_
      refine AllReadyH.cons rfl (fun K hK => ?_) AllReadyH.nil
      go_simp
      refine hK.out _ _ (trivial) (fun hHeld => ?_)
      clear hK K
      try simp only [Act.put, put1, put2, put3]
      refine wpAnyH_ready (rs := [12]) (by kernel_rfl) (by simp) ?_
      refine AllReadyH.cons rfl (fun K hK => ?_) AllReadyH.nil
      refine step_append_of rfl _ _ rfl rfl rfl r8 ?_
      refine hK.out _ _ (trivial) (fun hHeld => ?_)
      clear hK K
      try simp only [Act.put, put1, put2, put3]
      refine wpAnyH_ready (rs := [13]) (by kernel_rfl) (by simp) ?_
      refine AllReadyH.cons rfl (fun K hK => ?_) AllReadyH.nil
      go_simp
      refine hK.out _ _ (trivial) (fun hHeld => ?_)
      clear hK K
      try simp only [Act.put, put1, put2, put3]
      refine wpAnyH_ready (rs := [14]) (by kernel_rfl) (by simp) ?_
      refine AllReadyH.cons rfl (fun K hK => ?_) AllReadyH.nil
      go_simp
      refine hK.out _ _ (trivial) (fun hHeld => ?_)
      clear hK K
      try simp only [Act.put, put1, put2, put3]
      refine wpAnyH_done (by kernel_rfl) ?_ _
      go_wp2_with fail
      go_meet
      exact ⟨rfl, rfl, _, _, H9.out.cg (Cg.refl _ _) (H9.out.cur.mono (by omega)), rfl, by rw [List.length_append, List.length_singleton]; omega⟩
     ·skip
      go_simp
      refine hK.out _ _ (trivial) (fun hHeld => ?_)
      clear hK K
      try simp only [Act.put, put1, put2, put3]
      refine tkY 7 (.int .i64 (r.body.length : Int)) 30 rfl rfl (fun w' hw' => ?_) hHeld ?_
      ·go_simp
      try simp only [Act.put, put1, put2, put3]
      refine wpAnyH_ready (rs := [3, 8]) (by kernel_rfl) (by simp) ?_
      refine AllReadyH.cons rfl (fun K hK => ?_) (AllReadyH.cons rfl (fun K hK => ?_) AllReadyH.nil)
      ·skip
       go_simp
       refine hK.out _ _ (trivial) (fun hHeld => ?_)
       clear hK K
       try simp only [Act.put, put1, put2, put3]
       refine wpAnyH_ready (rs := [8]) (by kernel_rfl) (by simp) ?_
       refine AllReadyH.cons rfl (fun K hK => ?_) AllReadyH.nil
       go_simp
       refine (pick_calls c 6001 (r.body.length : Int) wc.drew (h5.cur.kept (Below.refl _ _).drew) (by omega) ⟨by omega, by omega⟩).mono ?_
       rintro e w5 ⟨s, ⟨hs0, hs1, hs2⟩, rfl, hc5, hw5⟩
       have hs1 : s < (r.body.length : Int) := by
        by_cases h2 : 2 ≤ (r.body.length : Int)
        ·exact hs1 h2
        ·have := hs2 (by omega); omega
       obtain ⟨k, rfl⟩ := Int.eq_ofNat_of_zero_le hs0
       have hk : k < r.body.length := by omega
       have h6 := h5.cg (Cg.wrote (S := fun x => x = c) (((Wrote.refl c _).drewN 1).trans hw5) rfl) hc5
       clear y0 y1 y2 y3 y4 yf
       obtain ⟨y0, y1, y2, y3, y4, yf⟩ := h6.box.cells
       obtain ⟨hC, hF1, hF2⟩ : Cells w5 gb (k * 2) [.int .i64 (nth r.body k).1, .int .i64 (nth r.body k).2] ∧ Fits (nth r.body k).1 ∧ Fits (nth r.body k).2 := by
        obtain ⟨f1, f2, o1, o2, hn, hf⟩ := h6.own
        obtain ⟨g1, ecs, fb, e1, hC, hO⟩ := owL_at (α := Int × Int) o2 hk
        cases e1
        obtain ⟨⟨rfl, hF1, hF2⟩, rfl⟩ := hO
        exact ⟨hC, hF1, hF2⟩
       have z0 := hC.c0
       have z1 := hC.c1
       have ka : Cg (fun x => x = c) w5 (w5.alloc (.cells #[.int .i64 (nth r.body k).1, .int .i64 (nth r.body k).2] 94)) := (Cg.refl _ _).alloc _
       have h7 := h6.cg ka (hc5.kept ((Below.refl _ _).alloc (Nat.le_refl _) _))
       have t4 := h7.box.cells.2.2.2.2.1
       obtain ⟨v8, w8, r8, B8, ⟨a8, q8, rfl⟩, h9⟩ := h7.push (P := Tryz.prog) (y := nth r.body k) (t := 32) (ty := 32) (cp := 1) i2 _ 16 Tryz.underlying32 hi2 hz20 hz21 hz22 rfl (Cells.new w5 [.int .i64 (nth r.body k).1, .int .i64 (nth r.body k).2] 94) ⟨⟨rfl, hF1, hF2⟩, rfl⟩ (by omega) (by omega)
       have H9 := Lib.hid h9
       obtain ⟨x0, x1, x2, x3, x4, xf⟩ := B8.cells
       refine hK.out _ _ (trivial) (fun hHeld => ?_)
       clear hK K
       try simp only [Act.put, put1, put2, put3]
       refine wpAnyH_ready (rs := [9]) (by kernel_rfl) (by simp) ?_
       refine AllReadyH.cons rfl (fun K hK => ?_) AllReadyH.nil
       go_simp
       refine hK.out _ _ (trivial) (fun hHeld => ?_)
       clear hK K
       try simp only [Act.put, put1, put2, put3]
       refine wpAnyH_ready (rs := [10]) (by kernel_rfl) (by simp) ?_
       refine AllReadyH.cons rfl (fun K hK => ?_) AllReadyH.nil
       go_simp
       refine hK.out _ _ (trivial) (fun hHeld => ?_)
       clear hK K
       try simp only [Act.put, put1, put2, put3]
       refine wpAnyH_ready (rs := [11]) (by kernel_rfl) (by simp) ?_
       refine AllReadyH.cons rfl (fun K hK => ?_) AllReadyH.nil
       go_simp
       refine hK.out _ _ (trivial) (fun hHeld => ?_)
       clear hK K
       try simp only [Act.put, put1, put2, put3]
       refine wpAnyH_ready (rs := [12]) (by kernel_rfl) (by simp) ?_
       refine AllReadyH.cons rfl (fun K hK => ?_) AllReadyH.nil
       refine step_append_of rfl _ _ rfl rfl rfl r8 ?_
       refine hK.out _ _ (trivial) (fun hHeld => ?_)
       clear hK K
       try simp only [Act.put, put1, put2, put3]
       refine wpAnyH_ready (rs := [13]) (by kernel_rfl) (by simp) ?_
       refine AllReadyH.cons rfl (fun K hK => ?_) AllReadyH.nil
       go_simp
       refine hK.out _ _ (trivial) (fun hHeld => ?_)
       clear hK K
       try simp only [Act.put, put1, put2, put3]
       refine wpAnyH_ready (rs := [14]) (by kernel_rfl) (by simp) ?_
       refine AllReadyH.cons rfl (fun K hK => ?_) AllReadyH.nil
       go_simp
       refine hK.out _ _ (trivial) (fun hHeld => ?_)
       clear hK K
       try simp only [Act.put, put1, put2, put3]
       refine wpAnyH_done (by kernel_rfl) ?_ _
       go_wp2_with fail
       go_meet
       exact ⟨rfl, rfl, _, _, H9.out.cg (Cg.refl _ _) (H9.out.cur.mono (by omega)), rfl, by rw [List.length_append, List.length_singleton]; omega⟩
      ·skip
       go_simp
       refine (pick_calls c 6001 (r.body.length : Int) wc.drew (h5.cur.kept (Below.refl _ _).drew) (by omega) ⟨by omega, by omega⟩).mono ?_
       rintro e w5 ⟨s, ⟨hs0, hs1, hs2⟩, rfl, hc5, hw5⟩
       have hs1 : s < (r.body.length : Int) := by
        by_cases h2 : 2 ≤ (r.body.length : Int)
        ·exact hs1 h2
        ·have := hs2 (by omega); omega
       obtain ⟨k, rfl⟩ := Int.eq_ofNat_of_zero_le hs0
       have hk : k < r.body.length := by omega
       have h6 := h5.cg (Cg.wrote (S := fun x => x = c) (((Wrote.refl c _).drewN 1).trans hw5) rfl) hc5
       clear y0 y1 y2 y3 y4 yf
       obtain ⟨y0, y1, y2, y3, y4, yf⟩ := h6.box.cells
       obtain ⟨hC, hF1, hF2⟩ : Cells w5 gb (k * 2) [.int .i64 (nth r.body k).1, .int .i64 (nth r.body k).2] ∧ Fits (nth r.body k).1 ∧ Fits (nth r.body k).2 := by
        obtain ⟨f1, f2, o1, o2, hn, hf⟩ := h6.own
        obtain ⟨g1, ecs, fb, e1, hC, hO⟩ := owL_at (α := Int × Int) o2 hk
        cases e1
        obtain ⟨⟨rfl, hF1, hF2⟩, rfl⟩ := hO
        exact ⟨hC, hF1, hF2⟩
       have z0 := hC.c0
       have z1 := hC.c1
       have ka : Cg (fun x => x = c) w5 (w5.alloc (.cells #[.int .i64 (nth r.body k).1, .int .i64 (nth r.body k).2] 94)) := (Cg.refl _ _).alloc _
       have h7 := h6.cg ka (hc5.kept ((Below.refl _ _).alloc (Nat.le_refl _) _))
       have t4 := h7.box.cells.2.2.2.2.1
       obtain ⟨v8, w8, r8, B8, ⟨a8, q8, rfl⟩, h9⟩ := h7.push (P := Tryz.prog) (y := nth r.body k) (t := 32) (ty := 32) (cp := 1) i2 _ 16 Tryz.underlying32 hi2 hz20 hz21 hz22 rfl (Cells.new w5 [.int .i64 (nth r.body k).1, .int .i64 (nth r.body k).2] 94) ⟨⟨rfl, hF1, hF2⟩, rfl⟩ (by omega) (by omega)
       have H9 := Lib.hid h9
       obtain ⟨x0, x1, x2, x3, x4, xf⟩ := B8.cells
       refine hK.out _ _ (trivial) (fun hHeld => ?_)
       clear hK K
       try simp only [Act.put, put1, put2, put3]
       refine wpAnyH_ready (rs := [3]) (by kernel_rfl) (by simp) ?_
       refine AllReadyH.cons rfl (fun K hK => ?_) AllReadyH.nil
       go_simp
       refine hK.out _ _ (trivial) (fun hHeld => ?_)
       clear hK K
       try simp only [Act.put, put1, put2, put3]
       refine wpAnyH_ready (rs := [9]) (by kernel_rfl) (by simp) ?_
       refine AllReadyH.cons rfl (fun K hK => ?_) AllReadyH.nil
       go_simp
       refine hK.out _ _ (trivial) (fun hHeld => ?_)
       clear hK K
       try simp only [Act.put, put1, put2, put3]
       refine wpAnyH_ready (rs := [10]) (by kernel_rfl) (by simp) ?_
       refine AllReadyH.cons rfl (fun K hK => ?_) AllReadyH.nil
       go_simp
       refine hK.out _ _ (trivial) (fun hHeld => ?_)
       clear hK K
       try simp only [Act.put, put1, put2, put3]
       refine wpAnyH_ready (rs := [11]) (by kernel_rfl) (by simp) ?_
       refine AllReadyH.cons rfl (fun K hK => ?_) AllReadyH.nil
       go_simp
       refine hK.out _ _ (trivial) (fun hHeld => ?_)
       clear hK K
       try simp only [Act.put, put1, put2, put3]
       refine wpAnyH_ready (rs := [12]) (by kernel_rfl) (by simp) ?_
       refine AllReadyH.cons rfl (fun K hK => ?_) AllReadyH.nil
       refine step_append_of rfl _ _ rfl rfl rfl r8 ?_
       refine hK.out _ _ (trivial) (fun hHeld => ?_)
       clear hK K
       try simp only [Act.put, put1, put2, put3]
       refine wpAnyH_ready (rs := [13]) (by kernel_rfl) (by simp) ?_
       refine AllReadyH.cons rfl (fun K hK => ?_) AllReadyH.nil
       go_simp
       refine hK.out _ _ (trivial) (fun hHeld => ?_)
       clear hK K
       try simp only [Act.put, put1, put2, put3]
       refine wpAnyH_ready (rs := [14]) (by kernel_rfl) (by simp) ?_
       refine AllReadyH.cons rfl (fun K hK => ?_) AllReadyH.nil
       go_simp
       refine hK.out _ _ (trivial) (fun hHeld => ?_)
       clear hK K
       try simp only [Act.put, put1, put2, put3]
       refine wpAnyH_done (by kernel_rfl) ?_ _
       go_wp2_with fail
       go_meet
       exact ⟨rfl, rfl, _, _, H9.out.cg (Cg.refl _ _) (H9.out.cur.mono (by omega)), rfl, by rw [List.length_append, List.length_singleton]; omega⟩
    ·skip
     go_simp
     refine hK.out _ _ (trivial) (fun hHeld => ?_)
     clear hK K
     try simp only [Act.put, put1, put2, put3]
     refine wpAnyH_ready (rs := [1, 6]) (by kernel_rfl) (by simp) ?_
     refine AllReadyH.cons rfl (fun K hK => ?_) (AllReadyH.cons rfl (fun K hK => ?_) AllReadyH.nil)
     ·skip
      go_simp
      refine hK.out _ _ (trivial) (fun hHeld => ?_)
      clear hK K
      try simp only [Act.put, put1, put2, put3]
      refine wpAnyH_ready (rs := [6]) (by kernel_rfl) (by simp) ?_
      refine AllReadyH.cons rfl (fun K hK => ?_) AllReadyH.nil
      go_simp
      refine hK.out _ _ (trivial) (fun hHeld => ?_)
      clear hK K
      try simp only [Act.put, put1, put2, put3]
      refine tkY 7 (.int .i64 (r.body.length : Int)) 30 rfl rfl (fun w' hw' => ?_) hHeld ?_
      ·go_simp
      try simp only [Act.put, put1, put2, put3]
      refine wpAnyH_ready (rs := [8]) (by kernel_rfl) (by simp) ?_
      refine AllReadyH.cons rfl (fun K hK => ?_) AllReadyH.nil
      go_simp
      refine (pick_calls c 6001 (r.body.length : Int) wc.drew (h5.cur.kept (Below.refl _ _).drew) (by omega) ⟨by omega, by omega⟩).mono ?_
      rintro e w5 ⟨s, ⟨hs0, hs1, hs2⟩, rfl, hc5, hw5⟩
      have hs1 : s < (r.body.length : Int) := by
       by_cases h2 : 2 ≤ (r.body.length : Int)
       ·exact hs1 h2
       ·have := hs2 (by omega); omega
      obtain ⟨k, rfl⟩ := Int.eq_ofNat_of_zero_le hs0
      have hk : k < r.body.length := by omega
      have h6 := h5.cg (Cg.wrote (S := fun x => x = c) (((Wrote.refl c _).drewN 1).trans hw5) rfl) hc5
      clear y0 y1 y2 y3 y4 yf
      obtain ⟨y0, y1, y2, y3, y4, yf⟩ := h6.box.cells
      obtain ⟨hC, hF1, hF2⟩ : Cells w5 gb (k * 2) [.int .i64 (nth r.body k).1, .int .i64 (nth r.body k).2] ∧ Fits (nth r.body k).1 ∧ Fits (nth r.body k).2 := by
       obtain ⟨f1, f2, o1, o2, hn, hf⟩ := h6.own
       obtain ⟨g1, ecs, fb, e1, hC, hO⟩ := owL_at (α := Int × Int) o2 hk
       cases e1
       obtain ⟨⟨rfl, hF1, hF2⟩, rfl⟩ := hO
       exact ⟨hC, hF1, hF2⟩
      have z0 := hC.c0
      have z1 := hC.c1
      have ka : Cg (fun x => x = c) w5 (w5.alloc (.cells #[.int .i64 (nth r.body k).1, .int .i64 (nth r.body k).2] 94)) := (Cg.refl _ _).alloc _
      have h7 := h6.cg ka (hc5.kept ((Below.refl _ _).alloc (Nat.le_refl _) _))
      have t4 := h7.box.cells.2.2.2.2.1
      obtain ⟨v8, w8, r8, B8, ⟨a8, q8, rfl⟩, h9⟩ := h7.push (P := Tryz.prog) (y := nth r.body k) (t := 32) (ty := 32) (cp := 1) i2 _ 16 Tryz.underlying32 hi2 hz20 hz21 hz22 rfl (Cells.new w5 [.int .i64 (nth r.body k).1, .int .i64 (nth r.body k).2] 94) ⟨⟨rfl, hF1, hF2⟩, rfl⟩ (by omega) (by omega)
      have H9 := Lib.hid h9
      obtain ⟨x0, x1, x2, x3, x4, xf⟩ := B8.cells
      refine hK.out _ _ (trivial) (fun hHeld => ?_)
      clear hK K
      try simp only [Act.put, put1, put2, put3]
      refine wpAnyH_ready (rs := [9]) (by kernel_rfl) (by simp) ?_
      refine AllReadyH.cons rfl (fun K hK => ?_) AllReadyH.nil
      go_simp
      refine hK.out _ _ (trivial) (fun hHeld => ?_)
      clear hK K
      try simp only [Act.put, put1, put2, put3]
      refine wpAnyH_ready (rs := [10]) (by kernel_rfl) (by simp) ?_
      refine AllReadyH.cons rfl (fun K hK => ?_) AllReadyH.nil
      go_simp
      refine hK.out _ _ (trivial) (fun hHeld => ?_)
      clear hK K
      try simp only [Act.put, put1, put2, put3]
      refine wpAnyH_ready (rs := [11]) (by kernel_rfl) (by simp) ?_
      refine AllReadyH.cons rfl (fun K hK => ?_) AllReadyH.nil
      go_simp
      refine hK.out _ _ (trivial) (fun hHeld => ?_)
      clear hK K
      try simp only [Act.put, put1, put2, put3]
      refine wpAnyH_ready (rs := [12]) (by kernel_rfl) (by simp) ?_
      refine AllReadyH.cons rfl (fun K hK => ?_) AllReadyH.nil
      refine step_append_of rfl _ _ rfl rfl rfl r8 ?_
      refine hK.out _ _ (trivial) (fun hHeld => ?_)
      clear hK K
      try simp only [Act.put, put1, put2, put3]
      refine wpAnyH_ready (rs := [13]) (by kernel_rfl) (by simp) ?_
      refine AllReadyH.cons rfl (fun K hK => ?_) AllReadyH.nil
      go_simp
      refine hK.out _ _ (trivial) (fun hHeld => ?_)
      clear hK K
      try simp only [Act.put, put1, put2, put3]
      refine wpAnyH_ready (rs := [14]) (by kernel_rfl) (by simp) ?_
      refine AllReadyH.cons rfl (fun K hK => ?_) AllReadyH.nil
      go_simp
      refine hK.out _ _ (trivial) (fun hHeld => ?_)
      clear hK K
      try simp only [Act.put, put1, put2, put3]
      refine wpAnyH_done (by kernel_rfl) ?_ _
      go_wp2_with fail
      go_meet
      exact ⟨rfl, rfl, _, _, H9.out.cg (Cg.refl _ _) (H9.out.cur.mono (by omega)), rfl, by rw [List.length_append, List.length_singleton]; omega⟩
     ·skip
      go_simp
      refine hK.out _ _ (trivial) (fun hHeld => ?_)
      clear hK K
      try simp only [Act.put, put1, put2, put3]
      refine tkY 7 (.int .i64 (r.body.length : Int)) 30 rfl rfl (fun w' hw' => ?_) hHeld ?_
      ·go_simp
      try simp only [Act.put, put1, put2, put3]
      refine wpAnyH_ready (rs := [1, 8]) (by kernel_rfl) (by simp) ?_
      refine AllReadyH.cons rfl (fun K hK => ?_) (AllReadyH.cons rfl (fun K hK => ?_) AllReadyH.nil)
      ·skip
       go_simp
       refine hK.out _ _ (trivial) (fun hHeld => ?_)
       clear hK K
       try simp only [Act.put, put1, put2, put3]
       refine wpAnyH_ready (rs := [8]) (by kernel_rfl) (by simp) ?_
       refine AllReadyH.cons rfl (fun K hK => ?_) AllReadyH.nil
       go_simp
       refine (pick_calls c 6001 (r.body.length : Int) wc.drew (h5.cur.kept (Below.refl _ _).drew) (by omega) ⟨by omega, by omega⟩).mono ?_
       rintro e w5 ⟨s, ⟨hs0, hs1, hs2⟩, rfl, hc5, hw5⟩
       have hs1 : s < (r.body.length : Int) := by
        by_cases h2 : 2 ≤ (r.body.length : Int)
        ·exact hs1 h2
        ·have := hs2 (by omega); omega
       obtain ⟨k, rfl⟩ := Int.eq_ofNat_of_zero_le hs0
       have hk : k < r.body.length := by omega
       have h6 := h5.cg (Cg.wrote (S := fun x => x = c) (((Wrote.refl c _).drewN 1).trans hw5) rfl) hc5
       clear y0 y1 y2 y3 y4 yf
       obtain ⟨y0, y1, y2, y3, y4, yf⟩ := h6.box.cells
       obtain ⟨hC, hF1, hF2⟩ : Cells w5 gb (k * 2) [.int .i64 (nth r.body k).1, .int .i64 (nth r.body k).2] ∧ Fits (nth r.body k).1 ∧ Fits (nth r.body k).2 := by
        obtain ⟨f1, f2, o1, o2, hn, hf⟩ := h6.own
        obtain ⟨g1, ecs, fb, e1, hC, hO⟩ := owL_at (α := Int × Int) o2 hk
        cases e1
        obtain ⟨⟨rfl, hF1, hF2⟩, rfl⟩ := hO
        exact ⟨hC, hF1, hF2⟩
       have z0 := hC.c0
       have z1 := hC.c1
       have ka : Cg (fun x => x = c) w5 (w5.alloc (.cells #[.int .i64 (nth r.body k).1, .int .i64 (nth r.body k).2] 94)) := (Cg.refl _ _).alloc _
       have h7 := h6.cg ka (hc5.kept ((Below.refl _ _).alloc (Nat.le_refl _) _))
       have t4 := h7.box.cells.2.2.2.2.1
       obtain ⟨v8, w8, r8, B8, ⟨a8, q8, rfl⟩, h9⟩ := h7.push (P := Tryz.prog) (y := nth r.body k) (t := 32) (ty := 32) (cp := 1) i2 _ 16 Tryz.underlying32 hi2 hz20 hz21 hz22 rfl (Cells.new w5 [.int .i64 (nth r.body k).1, .int .i64 (nth r.body k).2] 94) ⟨⟨rfl, hF1, hF2⟩, rfl⟩ (by omega) (by omega)
       have H9 := Lib.hid h9
       obtain ⟨x0, x1, x2, x3, x4, xf⟩ := B8.cells
       refine hK.out _ _ (trivial) (fun hHeld => ?_)
       clear hK K
       try simp only [Act.put, put1, put2, put3]
       refine wpAnyH_ready (rs := [9]) (by kernel_rfl) (by simp) ?_
       refine AllReadyH.cons rfl (fun K hK => ?_) AllReadyH.nil
       go_simp
       refine hK.out _ _ (trivial) (fun hHeld => ?_)
       clear hK K
       try simp only [Act.put, put1, put2, put3]
       refine wpAnyH_ready (rs := [10]) (by kernel_rfl) (by simp) ?_
       refine AllReadyH.cons rfl (fun K hK => ?_) AllReadyH.nil
       go_simp
       refine hK.out _ _ (trivial) (fun hHeld => ?_)
       clear hK K
       try simp only [Act.put, put1, put2, put3]
       refine wpAnyH_ready (rs := [11]) (by kernel_rfl) (by simp) ?_
       refine AllReadyH.cons rfl (fun K hK => ?_) AllReadyH.nil
       go_simp
       refine hK.out _ _ (trivial) (fun hHeld => ?_)
       clear hK K
       try simp only [Act.put, put1, put2, put3]
       refine wpAnyH_ready (rs := [12]) (by kernel_rfl) (by simp) ?_
       refine AllReadyH.cons rfl (fun K hK => ?_) AllReadyH.nil
       refine step_append_of rfl _ _ rfl rfl rfl r8 ?_
       refine hK.out _ _ (trivial) (fun hHeld => ?_)
       clear hK K
       try simp only [Act.put, put1, put2, put3]
       refine wpAnyH_ready (rs := [13]) (by kernel_rfl) (by simp) ?_
       refine AllReadyH.cons rfl (fun K hK => ?_) AllReadyH.nil
       go_simp
       refine hK.out _ _ (trivial) (fun hHeld => ?_)
       clear hK K
       try simp only [Act.put, put1, put2, put3]
       refine wpAnyH_ready (rs := [14]) (by kernel_rfl) (by simp) ?_
       refine AllReadyH.cons rfl (fun K hK => ?_) AllReadyH.nil
       go_simp
       refine hK.out _ _ (trivial) (fun hHeld => ?_)
       clear hK K
       try simp only [Act.put, put1, put2, put3]
       refine wpAnyH_done (by kernel_rfl) ?_ _
       go_wp2_with fail
       go_meet
       exact ⟨rfl, rfl, _, _, H9.out.cg (Cg.refl _ _) (H9.out.cur.mono (by omega)), rfl, by rw [List.length_append, List.length_singleton]; omega⟩
      ·skip
       go_simp
       refine (pick_calls c 6001 (r.body.length : Int) wc.drew (h5.cur.kept (Below.refl _ _).drew) (by omega) ⟨by omega, by omega⟩).mono ?_
       rintro e w5 ⟨s, ⟨hs0, hs1, hs2⟩, rfl, hc5, hw5⟩
       have hs1 : s < (r.body.length : Int) := by
        by_cases h2 : 2 ≤ (r.body.length : Int)
        ·exact hs1 h2
        ·have := hs2 (by omega); omega
       obtain ⟨k, rfl⟩ := Int.eq_ofNat_of_zero_le hs0
       have hk : k < r.body.length := by omega
       have h6 := h5.cg (Cg.wrote (S := fun x => x = c) (((Wrote.refl c _).drewN 1).trans hw5) rfl) hc5
       clear y0 y1 y2 y3 y4 yf
       obtain ⟨y0, y1, y2, y3, y4, yf⟩ := h6.box.cells
       obtain ⟨hC, hF1, hF2⟩ : Cells w5 gb (k * 2) [.int .i64 (nth r.body k).1, .int .i64 (nth r.body k).2] ∧ Fits (nth r.body k).1 ∧ Fits (nth r.body k).2 := by
        obtain ⟨f1, f2, o1, o2, hn, hf⟩ := h6.own
        obtain ⟨g1, ecs, fb, e1, hC, hO⟩ := owL_at (α := Int × Int) o2 hk
        cases e1
        obtain ⟨⟨rfl, hF1, hF2⟩, rfl⟩ := hO
        exact ⟨hC, hF1, hF2⟩
       have z0 := hC.c0
       have z1 := hC.c1
       have ka : Cg (fun x => x = c) w5 (w5.alloc (.cells #[.int .i64 (nth r.body k).1, .int .i64 (nth r.body k).2] 94)) := (Cg.refl _ _).alloc _
       have h7 := h6.cg ka (hc5.kept ((Below.refl _ _).alloc (Nat.le_refl _) _))
       have t4 := h7.box.cells.2.2.2.2.1
       obtain ⟨v8, w8, r8, B8, ⟨a8, q8, rfl⟩, h9⟩ := h7.push (P := Tryz.prog) (y := nth r.body k) (t := 32) (ty := 32) (cp := 1) i2 _ 16 Tryz.underlying32 hi2 hz20 hz21 hz22 rfl (Cells.new w5 [.int .i64 (nth r.body k).1, .int .i64 (nth r.body k).2] 94) ⟨⟨rfl, hF1, hF2⟩, rfl⟩ (by omega) (by omega)
       have H9 := Lib.hid h9
       obtain ⟨x0, x1, x2, x3, x4, xf⟩ := B8.cells
       refine hK.out _ _ (trivial) (fun hHeld => ?_)
       clear hK K
       try simp only [Act.put, put1, put2, put3]
       refine wpAnyH_ready (rs := [1, 9]) (by kernel_rfl) (by simp) ?_
       refine AllReadyH.cons rfl (fun K hK => ?_) (AllReadyH.cons rfl (fun K hK => ?_) AllReadyH.nil)
       ·skip
        go_simp
        refine hK.out _ _ (trivial) (fun hHeld => ?_)
        clear hK K
        try simp only [Act.put, put1, put2, put3]
        refine wpAnyH_ready (rs := [9]) (by kernel_rfl) (by simp) ?_
        refine AllReadyH.cons rfl (fun K hK => ?_) AllReadyH.nil
        go_simp
        refine hK.out _ _ (trivial) (fun hHeld => ?_)
        clear hK K
        try simp only [Act.put, put1, put2, put3]
        refine wpAnyH_ready (rs := [10]) (by kernel_rfl) (by simp) ?_
        refine AllReadyH.cons rfl (fun K hK => ?_) AllReadyH.nil
        go_simp
        refine hK.out _ _ (trivial) (fun hHeld => ?_)
        clear hK K
        try simp only [Act.put, put1, put2, put3]
        refine wpAnyH_ready (rs := [11]) (by kernel_rfl) (by simp) ?_
        refine AllReadyH.cons rfl (fun K hK => ?_) AllReadyH.nil
        go_simp
        refine hK.out _ _ (trivial) (fun hHeld => ?_)
        clear hK K
        try simp only [Act.put, put1, put2, put3]
        refine wpAnyH_ready (rs := [12]) (by kernel_rfl) (by simp) ?_
        refine AllReadyH.cons rfl (fun K hK => ?_) AllReadyH.nil
        refine step_append_of rfl _ _ rfl rfl rfl r8 ?_
        refine hK.out _ _ (trivial) (fun hHeld => ?_)
        clear hK K
        try simp only [Act.put, put1, put2, put3]
        refine wpAnyH_ready (rs := [13]) (by kernel_rfl) (by simp) ?_
        refine AllReadyH.cons rfl (fun K hK => ?_) AllReadyH.nil
        go_simp
        refine hK.out _ _ (trivial) (fun hHeld => ?_)
        clear hK K
        try simp only [Act.put, put1, put2, put3]
        refine wpAnyH_ready (rs := [14]) (by kernel_rfl) (by simp) ?_
        refine AllReadyH.cons rfl (fun K hK => ?_) AllReadyH.nil
        go_simp
        refine hK.out _ _ (trivial) (fun hHeld => ?_)
        clear hK K
        try simp only [Act.put, put1, put2, put3]
        refine wpAnyH_done (by kernel_rfl) ?_ _
        go_wp2_with fail
        go_meet
        exact ⟨rfl, rfl, _, _, H9.out.cg (Cg.refl _ _) (H9.out.cur.mono (by omega)), rfl, by rw [List.length_append, List.length_singleton]; omega⟩
       ·skip
        go_simp
        refine hK.out _ _ (trivial) (fun hHeld => ?_)
        clear hK K
        try simp only [Act.put, put1, put2, put3]
        refine wpAnyH_ready (rs := [1, 10]) (by kernel_rfl) (by simp) ?_
        refine AllReadyH.cons rfl (fun K hK => ?_) (AllReadyH.cons rfl (fun K hK => ?_) AllReadyH.nil)
        ·skip
         go_simp
         refine hK.out _ _ (trivial) (fun hHeld => ?_)
         clear hK K
         try simp only [Act.put, put1, put2, put3]
         refine wpAnyH_ready (rs := [10]) (by kernel_rfl) (by simp) ?_
         refine AllReadyH.cons rfl (fun K hK => ?_) AllReadyH.nil
         go_simp
         refine hK.out _ _ (trivial) (fun hHeld => ?_)
         clear hK K
         try simp only [Act.put, put1, put2, put3]
         refine wpAnyH_ready (rs := [11]) (by kernel_rfl) (by simp) ?_
         refine AllReadyH.cons rfl (fun K hK => ?_) AllReadyH.nil
         go_simp
         refine hK.out _ _ (trivial) (fun hHeld => ?_)
         clear hK K
         try simp only [Act.put, put1, put2, put3]
         refine wpAnyH_ready (rs := [12]) (by kernel_rfl) (by simp) ?_
         refine AllReadyH.cons rfl (fun K hK => ?_) AllReadyH.nil
         refine step_append_of rfl _ _ rfl rfl rfl r8 ?_
         refine hK.out _ _ (trivial) (fun hHeld => ?_)
         clear hK K
         try simp only [Act.put, put1, put2, put3]
         refine wpAnyH_ready (rs := [13]) (by kernel_rfl) (by simp) ?_
         refine AllReadyH.cons rfl (fun K hK => ?_) AllReadyH.nil
         go_simp
         refine hK.out _ _ (trivial) (fun hHeld => ?_)
         clear hK K
         try simp only [Act.put, put1, put2, put3]
         refine wpAnyH_ready (rs := [14]) (by kernel_rfl) (by simp) ?_
         refine AllReadyH.cons rfl (fun K hK => ?_) AllReadyH.nil
         go_simp
         refine hK.out _ _ (trivial) (fun hHeld => ?_)
         clear hK K
         try simp only [Act.put, put1, put2, put3]
         refine wpAnyH_done (by kernel_rfl) ?_ _
         go_wp2_with fail
         go_meet
         exact ⟨rfl, rfl, _, _, H9.out.cg (Cg.refl _ _) (H9.out.cur.mono (by omega)), rfl, by rw [List.length_append, List.length_singleton]; omega⟩
        ·skip
         go_simp
         refine hK.out _ _ (trivial) (fun hHeld => ?_)
         clear hK K
         try simp only [Act.put, put1, put2, put3]
         refine wpAnyH_ready (rs := [1, 11]) (by kernel_rfl) (by simp) ?_
         refine AllReadyH.cons rfl (fun K hK => ?_) (AllReadyH.cons rfl (fun K hK => ?_) AllReadyH.nil)
         ·skip
          go_simp
          refine hK.out _ _ (trivial) (fun hHeld => ?_)
          clear hK K
          try simp only [Act.put, put1, put2, put3]
          refine wpAnyH_ready (rs := [11]) (by kernel_rfl) (by simp) ?_
          refine AllReadyH.cons rfl (fun K hK => ?_) AllReadyH.nil
          go_simp
          refine hK.out _ _ (trivial) (fun hHeld => ?_)
          clear hK K
          try simp only [Act.put, put1, put2, put3]
          refine wpAnyH_ready (rs := [12]) (by kernel_rfl) (by simp) ?_
          refine AllReadyH.cons rfl (fun K hK => ?_) AllReadyH.nil
          refine step_append_of rfl _ _ rfl rfl rfl r8 ?_
          refine hK.out _ _ (trivial) (fun hHeld => ?_)
          clear hK K
          try simp only [Act.put, put1, put2, put3]
          refine wpAnyH_ready (rs := [13]) (by kernel_rfl) (by simp) ?_
          refine AllReadyH.cons rfl (fun K hK => ?_) AllReadyH.nil
          go_simp
          refine hK.out _ _ (trivial) (fun hHeld => ?_)
          clear hK K
          try simp only [Act.put, put1, put2, put3]
          refine wpAnyH_ready (rs := [14]) (by kernel_rfl) (by simp) ?_
          refine AllReadyH.cons rfl (fun K hK => ?_) AllReadyH.nil
          go_simp
          refine hK.out _ _ (trivial) (fun hHeld => ?_)
          clear hK K
          try simp only [Act.put, put1, put2, put3]
          refine wpAnyH_done (by kernel_rfl) ?_ _
          go_wp2_with fail
          go_meet
          exact ⟨rfl, rfl, _, _, H9.out.cg (Cg.refl _ _) (H9.out.cur.mono (by omega)), rfl, by rw [List.length_append, List.length_singleton]; omega⟩
         ·skip
          go_simp
          refine hK.out _ _ (trivial) (fun hHeld => ?_)
          clear hK K
          try simp only [Act.put, put1, put2, put3]
          refine wpAnyH_ready (rs := [1]) (by kernel_rfl) (by simp) ?_
          refine AllReadyH.cons rfl (fun K hK => ?_) AllReadyH.nil
          go_simp
          refine hK.out _ _ (trivial) (fun hHeld => ?_)
          clear hK K
          try simp only [Act.put, put1, put2, put3]
          refine wpAnyH_ready (rs := [12]) (by kernel_rfl) (by simp) ?_
          refine AllReadyH.cons rfl (fun K hK => ?_) AllReadyH.nil
          refine step_append_of rfl _ _ rfl rfl rfl r8 ?_
          refine hK.out _ _ (trivial) (fun hHeld => ?_)
          clear hK K
          try simp only [Act.put, put1, put2, put3]
          refine wpAnyH_ready (rs := [13]) (by kernel_rfl) (by simp) ?_
          refine AllReadyH.cons rfl (fun K hK => ?_) AllReadyH.nil
          go_simp
          refine hK.out _ _ (trivial) (fun hHeld => ?_)
          clear hK K
          try simp only [Act.put, put1, put2, put3]
          refine wpAnyH_ready (rs := [14]) (by kernel_rfl) (by simp) ?_
          refine AllReadyH.cons rfl (fun K hK => ?_) AllReadyH.nil
          go_simp
          refine hK.out _ _ (trivial) (fun hHeld => ?_)
          clear hK K
          try simp only [Act.put, put1, put2, put3]
          refine wpAnyH_done (by kernel_rfl) ?_ _
          go_wp2_with fail
          go_meet
          exact ⟨rfl, rfl, _, _, H9.out.cg (Cg.refl _ _) (H9.out.cur.mono (by omega)), rfl, by rw [List.length_append, List.length_singleton]; omega⟩
    ·skip
     go_simp
     refine hK.out _ _ (trivial) (fun hHeld => ?_)
     clear hK K
     try simp only [Act.put, put1, put2, put3]
     refine tkY 7 (.int .i64 (r.body.length : Int)) 30 rfl rfl (fun w' hw' => ?_) hHeld ?_
     ·go_simp
     try simp only [Act.put, put1, put2, put3]
     refine wpAnyH_ready (rs := [1, 3, 8]) (by kernel_rfl) (by simp) ?_
     refine AllReadyH.cons rfl (fun K hK => ?_) (AllReadyH.cons rfl (fun K hK => ?_) (AllReadyH.cons rfl (fun K hK => ?_) AllReadyH.nil))
     ·skip
      go_simp
      refine hK.out _ _ (trivial) (fun hHeld => ?_)
      clear hK K
      try simp only [Act.put, put1, put2, put3]
      refine wpAnyH_ready (rs := [3, 8]) (by kernel_rfl) (by simp) ?_
      refine AllReadyH.cons rfl (fun K hK => ?_) (AllReadyH.cons rfl (fun K hK => ?_) AllReadyH.nil)
      ·skip
       go_simp
       refine hK.out _ _ (trivial) (fun hHeld => ?_)
       clear hK K
       try simp only [Act.put, put1, put2, put3]
       refine wpAnyH_ready (rs := [8]) (by kernel_rfl) (by simp) ?_
       refine AllReadyH.cons rfl (fun K hK => ?_) AllReadyH.nil
       go_simp
       refine (pick_calls c 6001 (r.body.length : Int) wc.drew (h5.cur.kept (Below.refl _ _).drew) (by omega) ⟨by omega, by omega⟩).mono ?_
       rintro e w5 ⟨s, ⟨hs0, hs1, hs2⟩, rfl, hc5, hw5⟩
       have hs1 : s < (r.body.length : Int) := by
        by_cases h2 : 2 ≤ (r.body.length : Int)
        ·exact hs1 h2
        ·have := hs2 (by omega); omega
       obtain ⟨k, rfl⟩ := Int.eq_ofNat_of_zero_le hs0
       have hk : k < r.body.length := by omega
       have h6 := h5.cg (Cg.wrote (S := fun x => x = c) (((Wrote.refl c _).drewN 1).trans hw5) rfl) hc5
       clear y0 y1 y2 y3 y4 yf
       obtain ⟨y0, y1, y2, y3, y4, yf⟩ := h6.box.cells
       obtain ⟨hC, hF1, hF2⟩ : Cells w5 gb (k * 2) [.int .i64 (nth r.body k).1, .int .i64 (nth r.body k).2] ∧ Fits (nth r.body k).1 ∧ Fits (nth r.body k).2 := by
        obtain ⟨f1, f2, o1, o2, hn, hf⟩ := h6.own
        obtain ⟨g1, ecs, fb, e1, hC, hO⟩ := owL_at (α := Int × Int) o2 hk
        cases e1
        obtain ⟨⟨rfl, hF1, hF2⟩, rfl⟩ := hO
        exact ⟨hC, hF1, hF2⟩
       have z0 := hC.c0
       have z1 := hC.c1
       have ka : Cg (fun x => x = c) w5 (w5.alloc (.cells #[.int .i64 (nth r.body k).1, .int .i64 (nth r.body k).2] 94)) := (Cg.refl _ _).alloc _
       have h7 := h6.cg ka (hc5.kept ((Below.refl _ _).alloc (Nat.le_refl _) _))
       have t4 := h7.box.cells.2.2.2.2.1
       obtain ⟨v8, w8, r8, B8, ⟨a8, q8, rfl⟩, h9⟩ := h7.push (P := Tryz.prog) (y := nth r.body k) (t := 32) (ty := 32) (cp := 1) i2 _ 16 Tryz.underlying32 hi2 hz20 hz21 hz22 rfl (Cells.new w5 [.int .i64 (nth r.body k).1, .int .i64 (nth r.body k).2] 94) ⟨⟨rfl, hF1, hF2⟩, rfl⟩ (by omega) (by omega)
       have H9 := Lib.hid h9
       obtain ⟨x0, x1, x2, x3, x4, xf⟩ := B8.cells
       refine hK.out _ _ (trivial) (fun hHeld => ?_)
       clear hK K
       try simp only [Act.put, put1, put2, put3]
       refine wpAnyH_ready (rs := [9]) (by kernel_rfl) (by simp) ?_
       refine AllReadyH.cons rfl (fun K hK => ?_) AllReadyH.nil
       go_simp
       refine hK.out _ _ (trivial) (fun hHeld => ?_)
       clear hK K
       try simp only [Act.put, put1, put2, put3]
       refine wpAnyH_ready (rs := [10]) (by kernel_rfl) (by simp) ?_
       refine AllReadyH.cons rfl (fun K hK => ?_) AllReadyH.nil
       go_simp
       refine hK.out _ _ (trivial) (fun hHeld => ?_)
       clear hK K
       try simp only [Act.put, put1, put2, put3]
       refine wpAnyH_ready (rs := [11]) (by kernel_rfl) (by simp) ?_
       refine AllReadyH.cons rfl (fun K hK => ?_) AllReadyH.nil
       go_simp
       refine hK.out _ _ (trivial) (fun hHeld => ?_)
       clear hK K
       try simp only [Act.put, put1, put2, put3]
       refine wpAnyH_ready (rs := [12]) (by kernel_rfl) (by simp) ?_
       refine AllReadyH.cons rfl (fun K hK => ?_) AllReadyH.nil
       refine step_append_of rfl _ _ rfl rfl rfl r8 ?_
       refine hK.out _ _ (trivial) (fun hHeld => ?_)
       clear hK K
       try simp only [Act.put, put1, put2, put3]
       refine wpAnyH_ready (rs := [13]) (by kernel_rfl) (by simp) ?_
       refine AllReadyH.cons rfl (fun K hK => ?_) AllReadyH.nil
       go_simp
       refine hK.out _ _ (trivial) (fun hHeld => ?_)
       clear hK K
       try simp only [Act.put, put1, put2, put3]
       refine wpAnyH_ready (rs := [14]) (by kernel_rfl) (by simp) ?_
       refine AllReadyH.cons rfl (fun K hK => ?_) AllReadyH.nil
       go_simp
       refine hK.out _ _ (trivial) (fun hHeld => ?_)
       clear hK K
       try simp only [Act.put, put1, put2, put3]
       refine wpAnyH_done (by kernel_rfl) ?_ _
       go_wp2_with fail
       go_meet
       exact ⟨rfl, rfl, _, _, H9.out.cg (Cg.refl _ _) (H9.out.cur.mono (by omega)), rfl, by rw [List.length_append, List.length_singleton]; omega⟩
      ·skip
       go_simp
       refine (pick_calls c 6001 (r.body.length : Int) wc.drew (h5.cur.kept (Below.refl _ _).drew) (by omega) ⟨by omega, by omega⟩).mono ?_
       rintro e w5 ⟨s, ⟨hs0, hs1, hs2⟩, rfl, hc5, hw5⟩
       have hs1 : s < (r.body.length : Int) := by
        by_cases h2 : 2 ≤ (r.body.length : Int)
        ·exact hs1 h2
        ·have := hs2 (by omega); omega
       obtain ⟨k, rfl⟩ := Int.eq_ofNat_of_zero_le hs0
       have hk : k < r.body.length := by omega
       have h6 := h5.cg (Cg.wrote (S := fun x => x = c) (((Wrote.refl c _).drewN 1).trans hw5) rfl) hc5
       clear y0 y1 y2 y3 y4 yf
       obtain ⟨y0, y1, y2, y3, y4, yf⟩ := h6.box.cells
       obtain ⟨hC, hF1, hF2⟩ : Cells w5 gb (k * 2) [.int .i64 (nth r.body k).1, .int .i64 (nth r.body k).2] ∧ Fits (nth r.body k).1 ∧ Fits (nth r.body k).2 := by
        obtain ⟨f1, f2, o1, o2, hn, hf⟩ := h6.own
        obtain ⟨g1, ecs, fb, e1, hC, hO⟩ := owL_at (α := Int × Int) o2 hk
        cases e1
        obtain ⟨⟨rfl, hF1, hF2⟩, rfl⟩ := hO
        exact ⟨hC, hF1, hF2⟩
       have z0 := hC.c0
       have z1 := hC.c1
       have ka : Cg (fun x => x = c) w5 (w5.alloc (.cells #[.int .i64 (nth r.body k).1, .int .i64 (nth r.body k).2] 94)) := (Cg.refl _ _).alloc _
       have h7 := h6.cg ka (hc5.kept ((Below.refl _ _).alloc (Nat.le_refl _) _))
       have t4 := h7.box.cells.2.2.2.2.1
       obtain ⟨v8, w8, r8, B8, ⟨a8, q8, rfl⟩, h9⟩ := h7.push (P := Tryz.prog) (y := nth r.body k) (t := 32) (ty := 32) (cp := 1) i2 _ 16 Tryz.underlying32 hi2 hz20 hz21 hz22 rfl (Cells.new w5 [.int .i64 (nth r.body k).1, .int .i64 (nth r.body k).2] 94) ⟨⟨rfl, hF1, hF2⟩, rfl⟩ (by omega) (by omega)
       have H9 := Lib.hid h9
       obtain ⟨x0, x1, x2, x3, x4, xf⟩ := B8.cells
       refine hK.out _ _ (trivial) (fun hHeld => ?_)
       clear hK K
       try simp only [Act.put, put1, put2, put3]
       refine wpAnyH_ready (rs := [3]) (by kernel_rfl) (by simp) ?_
       refine AllReadyH.cons rfl (fun K hK => ?_) AllReadyH.nil
       go_simp
       refine hK.out _ _ (trivial) (fun hHeld => ?_)
       clear hK K
       try simp only [Act.put, put1, put2, put3]
       refine wpAnyH_ready (rs := [9]) (by kernel_rfl) (by simp) ?_
       refine AllReadyH.cons rfl (fun K hK => ?_) AllReadyH.nil
       go_simp
       refine hK.out _ _ (trivial) (fun hHeld => ?_)
       clear hK K
       try simp only [Act.put, put1, put2, put3]
       refine wpAnyH_ready (rs := [10]) (by kernel_rfl) (by simp) ?_
       refine AllReadyH.cons rfl (fun K hK => ?_) AllReadyH.nil
       go_simp
       refine hK.out _ _ (trivial) (fun hHeld => ?_)
       clear hK K
       try simp only [Act.put, put1, put2, put3]
       refine wpAnyH_ready (rs := [11]) (by kernel_rfl) (by simp) ?_
       refine AllReadyH.cons rfl (fun K hK => ?_) AllReadyH.nil
       go_simp
       refine hK.out _ _ (trivial) (fun hHeld => ?_)
       clear hK K
       try simp only [Act.put, put1, put2, put3]
       refine wpAnyH_ready (rs := [12]) (by kernel_rfl) (by simp) ?_
       refine AllReadyH.cons rfl (fun K hK => ?_) AllReadyH.nil
       refine step_append_of rfl _ _ rfl rfl rfl r8 ?_
       refine hK.out _ _ (trivial) (fun hHeld => ?_)
       clear hK K
       try simp only [Act.put, put1, put2, put3]
       refine wpAnyH_ready (rs := [13]) (by kernel_rfl) (by simp) ?_
       refine AllReadyH.cons rfl (fun K hK => ?_) AllReadyH.nil
       go_simp
       refine hK.out _ _ (trivial) (fun hHeld => ?_)
       clear hK K
       try simp only [Act.put, put1, put2, put3]
       refine wpAnyH_ready (rs := [14]) (by kernel_rfl) (by simp) ?_
       refine AllReadyH.cons rfl (fun K hK => ?_) AllReadyH.nil
       go_simp
       refine hK.out _ _ (trivial) (fun hHeld => ?_)
       clear hK K
       try simp only [Act.put, put1, put2, put3]
       refine wpAnyH_done (by kernel_rfl) ?_ _
       go_wp2_with fail
       go_meet
       exact ⟨rfl, rfl, _, _, H9.out.cg (Cg.refl _ _) (H9.out.cur.mono (by omega)), rfl, by rw [List.length_append, List.length_singleton]; omega⟩
     ·skip
      go_simp
      refine hK.out _ _ (trivial) (fun hHeld => ?_)
      clear hK K
      try simp only [Act.put, put1, put2, put3]
      refine wpAnyH_ready (rs := [1, 8]) (by kernel_rfl) (by simp) ?_
      refine AllReadyH.cons rfl (fun K hK => ?_) (AllReadyH.cons rfl (fun K hK => ?_) AllReadyH.nil)
      ·skip
       go_simp
       refine hK.out _ _ (trivial) (fun hHeld => ?_)
       clear hK K
       try simp only [Act.put, put1, put2, put3]
       refine wpAnyH_ready (rs := [8]) (by kernel_rfl) (by simp) ?_
       refine AllReadyH.cons rfl (fun K hK => ?_) AllReadyH.nil
       go_simp
       refine (pick_calls c 6001 (r.body.length : Int) wc.drew (h5.cur.kept (Below.refl _ _).drew) (by omega) ⟨by omega, by omega⟩).mono ?_
       rintro e w5 ⟨s, ⟨hs0, hs1, hs2⟩, rfl, hc5, hw5⟩
       have hs1 : s < (r.body.length : Int) := by
        by_cases h2 : 2 ≤ (r.body.length : Int)
        ·exact hs1 h2
        ·have := hs2 (by omega); omega
       obtain ⟨k, rfl⟩ := Int.eq_ofNat_of_zero_le hs0
       have hk : k < r.body.length := by omega
       have h6 := h5.cg (Cg.wrote (S := fun x => x = c) (((Wrote.refl c _).drewN 1).trans hw5) rfl) hc5
       clear y0 y1 y2 y3 y4 yf
       obtain ⟨y0, y1, y2, y3, y4, yf⟩ := h6.box.cells
       obtain ⟨hC, hF1, hF2⟩ : Cells w5 gb (k * 2) [.int .i64 (nth r.body k).1, .int .i64 (nth r.body k).2] ∧ Fits (nth r.body k).1 ∧ Fits (nth r.body k).2 := by
        obtain ⟨f1, f2, o1, o2, hn, hf⟩ := h6.own
        obtain ⟨g1, ecs, fb, e1, hC, hO⟩ := owL_at (α := Int × Int) o2 hk
        cases e1
        obtain ⟨⟨rfl, hF1, hF2⟩, rfl⟩ := hO
        exact ⟨hC, hF1, hF2⟩
       have z0 := hC.c0
       have z1 := hC.c1
       have ka : Cg (fun x => x = c) w5 (w5.alloc (.cells #[.int .i64 (nth r.body k).1, .int .i64 (nth r.body k).2] 94)) := (Cg.refl _ _).alloc _
       have h7 := h6.cg ka (hc5.kept ((Below.refl _ _).alloc (Nat.le_refl _) _))
       have t4 := h7.box.cells.2.2.2.2.1
       obtain ⟨v8, w8, r8, B8, ⟨a8, q8, rfl⟩, h9⟩ := h7.push (P := Tryz.prog) (y := nth r.body k) (t := 32) (ty := 32) (cp := 1) i2 _ 16 Tryz.underlying32 hi2 hz20 hz21 hz22 rfl (Cells.new w5 [.int .i64 (nth r.body k).1, .int .i64 (nth r.body k).2] 94) ⟨⟨rfl, hF1, hF2⟩, rfl⟩ (by omega) (by omega)
       have H9 := Lib.hid h9
       obtain ⟨x0, x1, x2, x3, x4, xf⟩ := B8.cells
       refine hK.out _ _ (trivial) (fun hHeld => ?_)
       clear hK K
       try simp only [Act.put, put1, put2, put3]
       refine wpAnyH_ready (rs := [9]) (by kernel_rfl) (by simp) ?_
       refine AllReadyH.cons rfl (fun K hK => ?_) AllReadyH.nil
       go_simp
       refine hK.out _ _ (trivial) (fun hHeld => ?_)
       clear hK K
       try simp only [Act.put, put1, put2, put3]
       refine wpAnyH_ready (rs := [10]) (by kernel_rfl) (by simp) ?_
       refine AllReadyH.cons rfl (fun K hK => ?_) AllReadyH.nil
       go_simp
       refine hK.out _ _ (trivial) (fun hHeld => ?_)
       clear hK K
       try simp only [Act.put, put1, put2, put3]
       refine wpAnyH_ready (rs := [11]) (by kernel_rfl) (by simp) ?_
       refine AllReadyH.cons rfl (fun K hK => ?_) AllReadyH.nil
       go_simp
       refine hK.out _ _ (trivial) (fun hHeld => ?_)
       clear hK K
       try simp only [Act.put, put1, put2, put3]
       refine wpAnyH_ready (rs := [12]) (by kernel_rfl) (by simp) ?_
       refine AllReadyH.cons rfl (fun K hK => ?_) AllReadyH.nil
       refine step_append_of rfl _ _ rfl rfl rfl r8 ?_
       refine hK.out _ _ (trivial) (fun hHeld => ?_)
       clear hK K
       try simp only [Act.put, put1, put2, put3]
       refine wpAnyH_ready (rs := [13]) (by kernel_rfl) (by simp) ?_
       refine AllReadyH.cons rfl (fun K hK => ?_) AllReadyH.nil
       go_simp
       refine hK.out _ _ (trivial) (fun hHeld => ?_)
       clear hK K
       try simp only [Act.put, put1, put2, put3]
       refine wpAnyH_ready (rs := [14]) (by kernel_rfl) (by simp) ?_
       refine AllReadyH.cons rfl (fun K hK => ?_) AllReadyH.nil
       go_simp
       refine hK.out _ _ (trivial) (fun hHeld => ?_)
       clear hK K
       try simp only [Act.put, put1, put2, put3]
       refine wpAnyH_done (by kernel_rfl) ?_ _
       go_wp2_with fail
       go_meet
       exact ⟨rfl, rfl, _, _, H9.out.cg (Cg.refl _ _) (H9.out.cur.mono (by omega)), rfl, by rw [List.length_append, List.length_singleton]; omega⟩
      ·skip
       go_simp
       refine (pick_calls c 6001 (r.body.length : Int) wc.drew (h5.cur.kept (Below.refl _ _).drew) (by omega) ⟨by omega, by omega⟩).mono ?_
       rintro e w5 ⟨s, ⟨hs0, hs1, hs2⟩, rfl, hc5, hw5⟩
       have hs1 : s < (r.body.length : Int) := by
        by_cases h2 : 2 ≤ (r.body.length : Int)
        ·exact hs1 h2
        ·have := hs2 (by omega); omega
       obtain ⟨k, rfl⟩ := Int.eq_ofNat_of_zero_le hs0
       have hk : k < r.body.length := by omega
       have h6 := h5.cg (Cg.wrote (S := fun x => x = c) (((Wrote.refl c _).drewN 1).trans hw5) rfl) hc5
       clear y0 y1 y2 y3 y4 yf
       obtain ⟨y0, y1, y2, y3, y4, yf⟩ := h6.box.cells
       obtain ⟨hC, hF1, hF2⟩ : Cells w5 gb (k * 2) [.int .i64 (nth r.body k).1, .int .i64 (nth r.body k).2] ∧ Fits (nth r.body k).1 ∧ Fits (nth r.body k).2 := by
        obtain ⟨f1, f2, o1, o2, hn, hf⟩ := h6.own
        obtain ⟨g1, ecs, fb, e1, hC, hO⟩ := owL_at (α := Int × Int) o2 hk
        cases e1
        obtain ⟨⟨rfl, hF1, hF2⟩, rfl⟩ := hO
        exact ⟨hC, hF1, hF2⟩
       have z0 := hC.c0
       have z1 := hC.c1
       have ka : Cg (fun x => x = c) w5 (w5.alloc (.cells #[.int .i64 (nth r.body k).1, .int .i64 (nth r.body k).2] 94)) := (Cg.refl _ _).alloc _
       have h7 := h6.cg ka (hc5.kept ((Below.refl _ _).alloc (Nat.le_refl _) _))
       have t4 := h7.box.cells.2.2.2.2.1
       obtain ⟨v8, w8, r8, B8, ⟨a8, q8, rfl⟩, h9⟩ := h7.push (P := Tryz.prog) (y := nth r.body k) (t := 32) (ty := 32) (cp := 1) i2 _ 16 Tryz.underlying32 hi2 hz20 hz21 hz22 rfl (Cells.new w5 [.int .i64 (nth r.body k).1, .int .i64 (nth r.body k).2] 94) ⟨⟨rfl, hF1, hF2⟩, rfl⟩ (by omega) (by omega)
       have H9 := Lib.hid h9
       obtain ⟨x0, x1, x2, x3, x4, xf⟩ := B8.cells
       refine hK.out _ _ (trivial) (fun hHeld => ?_)
       clear hK K
       try simp only [Act.put, put1, put2, put3]
       refine wpAnyH_ready (rs := [1, 9]) (by kernel_rfl) (by simp) ?_
       refine AllReadyH.cons rfl (fun K hK => ?_) (AllReadyH.cons rfl (fun K hK => ?_) AllReadyH.nil)
       ·skip
        go_simp
        refine hK.out _ _ (trivial) (fun hHeld => ?_)
        clear hK K
        try simp only [Act.put, put1, put2, put3]
        refine wpAnyH_ready (rs := [9]) (by kernel_rfl) (by simp) ?_
        refine AllReadyH.cons rfl (fun K hK => ?_) AllReadyH.nil
        go_simp
        refine hK.out _ _ (trivial) (fun hHeld => ?_)
        clear hK K
        try simp only [Act.put, put1, put2, put3]
        refine wpAnyH_ready (rs := [10]) (by kernel_rfl) (by simp) ?_
        refine AllReadyH.cons rfl (fun K hK => ?_) AllReadyH.nil
        go_simp
        refine hK.out _ _ (trivial) (fun hHeld => ?_)
        clear hK K
        try simp only [Act.put, put1, put2, put3]
        refine wpAnyH_ready (rs := [11]) (by kernel_rfl) (by simp) ?_
        refine AllReadyH.cons rfl (fun K hK => ?_) AllReadyH.nil
        go_simp
        refine hK.out _ _ (trivial) (fun hHeld => ?_)
        clear hK K
        try simp only [Act.put, put1, put2, put3]
        refine wpAnyH_ready (rs := [12]) (by kernel_rfl) (by simp) ?_
        refine AllReadyH.cons rfl (fun K hK => ?_) AllReadyH.nil
        refine step_append_of rfl _ _ rfl rfl rfl r8 ?_
        refine hK.out _ _ (trivial) (fun hHeld => ?_)
        clear hK K
        try simp only [Act.put, put1, put2, put3]
        refine wpAnyH_ready (rs := [13]) (by kernel_rfl) (by simp) ?_
        refine AllReadyH.cons rfl (fun K hK => ?_) AllReadyH.nil
        go_simp
        refine hK.out _ _ (trivial) (fun hHeld => ?_)
        clear hK K
        try simp only [Act.put, put1, put2, put3]
        refine wpAnyH_ready (rs := [14]) (by kernel_rfl) (by simp) ?_
        refine AllReadyH.cons rfl (fun K hK => ?_) AllReadyH.nil
        go_simp
        refine hK.out _ _ (trivial) (fun hHeld => ?_)
        clear hK K
        try simp only [Act.put, put1, put2, put3]
        refine wpAnyH_done (by kernel_rfl) ?_ _
        go_wp2_with fail
        go_meet
        exact ⟨rfl, rfl, _, _, H9.out.cg (Cg.refl _ _) (H9.out.cur.mono (by omega)), rfl, by rw [List.length_append, List.length_singleton]; omega⟩
       ·skip
        go_simp
        refine hK.out _ _ (trivial) (fun hHeld => ?_)
        clear hK K
        try simp only [Act.put, put1, put2, put3]
        refine wpAnyH_ready (rs := [1, 10]) (by kernel_rfl) (by simp) ?_
        refine AllReadyH.cons rfl (fun K hK => ?_) (AllReadyH.cons rfl (fun K hK => ?_) AllReadyH.nil)
        ·skip
         go_simp
         refine hK.out _ _ (trivial) (fun hHeld => ?_)
         clear hK K
         try simp only [Act.put, put1, put2, put3]
         refine wpAnyH_ready (rs := [10]) (by kernel_rfl) (by simp) ?_
         refine AllReadyH.cons rfl (fun K hK => ?_) AllReadyH.nil
         go_simp
         refine hK.out _ _ (trivial) (fun hHeld => ?_)
         clear hK K
         try simp only [Act.put, put1, put2, put3]
         refine wpAnyH_ready (rs := [11]) (by kernel_rfl) (by simp) ?_
         refine AllReadyH.cons rfl (fun K hK => ?_) AllReadyH.nil
         go_simp
         refine hK.out _ _ (trivial) (fun hHeld => ?_)
         clear hK K
         try simp only [Act.put, put1, put2, put3]
         refine wpAnyH_ready (rs := [12]) (by kernel_rfl) (by simp) ?_
         refine AllReadyH.cons rfl (fun K hK => ?_) AllReadyH.nil
         refine step_append_of rfl _ _ rfl rfl rfl r8 ?_
         refine hK.out _ _ (trivial) (fun hHeld => ?_)
         clear hK K
         try simp only [Act.put, put1, put2, put3]
         refine wpAnyH_ready (rs := [13]) (by kernel_rfl) (by simp) ?_
         refine AllReadyH.cons rfl (fun K hK => ?_) AllReadyH.nil
         go_simp
         refine hK.out _ _ (trivial) (fun hHeld => ?_)
         clear hK K
         try simp only [Act.put, put1, put2, put3]
         refine wpAnyH_ready (rs := [14]) (by kernel_rfl) (by simp) ?_
         refine AllReadyH.cons rfl (fun K hK => ?_) AllReadyH.nil
         go_simp
         refine hK.out _ _ (trivial) (fun hHeld => ?_)
         clear hK K
         try simp only [Act.put, put1, put2, put3]
         refine wpAnyH_done (by kernel_rfl) ?_ _
         go_wp2_with fail
         go_meet
         exact ⟨rfl, rfl, _, _, H9.out.cg (Cg.refl _ _) (H9.out.cur.mono (by omega)), rfl, by rw [List.length_append, List.length_singleton]; omega⟩
        ·skip
         go_simp
         refine hK.out _ _ (trivial) (fun hHeld => ?_)
         clear hK K
         try simp only [Act.put, put1, put2, put3]
         refine wpAnyH_ready (rs := [1, 11]) (by kernel_rfl) (by simp) ?_
         refine AllReadyH.cons rfl (fun K hK => ?_) (AllReadyH.cons rfl (fun K hK => ?_) AllReadyH.nil)
         ·skip
          go_simp
          refine hK.out _ _ (trivial) (fun hHeld => ?_)
          clear hK K
          try simp only [Act.put, put1, put2, put3]
          refine wpAnyH_ready (rs := [11]) (by kernel_rfl) (by simp) ?_
          refine AllReadyH.cons rfl (fun K hK => ?_) AllReadyH.nil
          go_simp
          refine hK.out _ _ (trivial) (fun hHeld => ?_)
          clear hK K
          try simp only [Act.put, put1, put2, put3]
          refine wpAnyH_ready (rs := [12]) (by kernel_rfl) (by simp) ?_
          refine AllReadyH.cons rfl (fun K hK => ?_) AllReadyH.nil
          refine step_append_of rfl _ _ rfl rfl rfl r8 ?_
          refine hK.out _ _ (trivial) (fun hHeld => ?_)
          clear hK K
          try simp only [Act.put, put1, put2, put3]
          refine wpAnyH_ready (rs := [13]) (by kernel_rfl) (by simp) ?_
          refine AllReadyH.cons rfl (fun K hK => ?_) AllReadyH.nil
          go_simp
          refine hK.out _ _ (trivial) (fun hHeld => ?_)
          clear hK K
          try simp only [Act.put, put1, put2, put3]
          refine wpAnyH_ready (rs := [14]) (by kernel_rfl) (by simp) ?_
          refine AllReadyH.cons rfl (fun K hK => ?_) AllReadyH.nil
          go_simp
          refine hK.out _ _ (trivial) (fun hHeld => ?_)
          clear hK K
          try simp only [Act.put, put1, put2, put3]
          refine wpAnyH_done (by kernel_rfl) ?_ _
          go_wp2_with fail
          go_meet
          exact ⟨rfl, rfl, _, _, H9.out.cg (Cg.refl _ _) (H9.out.cur.mono (by omega)), rfl, by rw [List.length_append, List.length_singleton]; omega⟩
         ·skip
          go_simp
          refine hK.out _ _ (trivial) (fun hHeld => ?_)
          clear hK K
          try simp only [Act.put, put1, put2, put3]
          refine wpAnyH_ready (rs := [1]) (by kernel_rfl) (by simp) ?_
          refine AllReadyH.cons rfl (fun K hK => ?_) AllReadyH.nil
          go_simp
          refine hK.out _ _ (trivial) (fun hHeld => ?_)
          clear hK K
          try simp only [Act.put, put1, put2, put3]
          refine wpAnyH_ready (rs := [12]) (by kernel_rfl) (by simp) ?_
          refine AllReadyH.cons rfl (fun K hK => ?_) AllReadyH.nil
          refine step_append_of rfl _ _ rfl rfl rfl r8 ?_
          refine hK.out _ _ (trivial) (fun hHeld => ?_)
          clear hK K
          try simp only [Act.put, put1, put2, put3]
          refine wpAnyH_ready (rs := [13]) (by kernel_rfl) (by simp) ?_
          refine AllReadyH.cons rfl (fun K hK => ?_) AllReadyH.nil
          go_simp
          refine hK.out _ _ (trivial) (fun hHeld => ?_)
          clear hK K
          try simp only [Act.put, put1, put2, put3]
          refine wpAnyH_ready (rs := [14]) (by kernel_rfl) (by simp) ?_
          refine AllReadyH.cons rfl (fun K hK => ?_) AllReadyH.nil
          go_simp
          refine hK.out _ _ (trivial) (fun hHeld => ?_)
          clear hK K
          try simp only [Act.put, put1, put2, put3]
          refine wpAnyH_done (by kernel_rfl) ?_ _
          go_wp2_with fail
          go_meet
          exact ⟨rfl, rfl, _, _, H9.out.cg (Cg.refl _ _) (H9.out.cur.mono (by omega)), rfl, by rw [List.length_append, List.length_singleton]; omega⟩
     ·skip
      go_simp
      refine (pick_calls c 6001 (r.body.length : Int) wc.drew (h5.cur.kept (Below.refl _ _).drew) (by omega) ⟨by omega, by omega⟩).mono ?_
      rintro e w5 ⟨s, ⟨hs0, hs1, hs2⟩, rfl, hc5, hw5⟩
      have hs1 : s < (r.body.length : Int) := by
       by_cases h2 : 2 ≤ (r.body.length : Int)
       ·exact hs1 h2
       ·have := hs2 (by omega); omega
      obtain ⟨k, rfl⟩ := Int.eq_ofNat_of_zero_le hs0
      have hk : k < r.body.length := by omega
      have h6 := h5.cg (Cg.wrote (S := fun x => x = c) (((Wrote.refl c _).drewN 1).trans hw5) rfl) hc5
      clear y0 y1 y2 y3 y4 yf
      obtain ⟨y0, y1, y2, y3, y4, yf⟩ := h6.box.cells
      obtain ⟨hC, hF1, hF2⟩ : Cells w5 gb (k * 2) [.int .i64 (nth r.body k).1, .int .i64 (nth r.body k).2] ∧ Fits (nth r.body k).1 ∧ Fits (nth r.body k).2 := by
       obtain ⟨f1, f2, o1, o2, hn, hf⟩ := h6.own
       obtain ⟨g1, ecs, fb, e1, hC, hO⟩ := owL_at (α := Int × Int) o2 hk
       cases e1
       obtain ⟨⟨rfl, hF1, hF2⟩, rfl⟩ := hO
       exact ⟨hC, hF1, hF2⟩
      have z0 := hC.c0
      have z1 := hC.c1
      have ka : Cg (fun x => x = c) w5 (w5.alloc (.cells #[.int .i64 (nth r.body k).1, .int .i64 (nth r.body k).2] 94)) := (Cg.refl _ _).alloc _
      have h7 := h6.cg ka (hc5.kept ((Below.refl _ _).alloc (Nat.le_refl _) _))
      have t4 := h7.box.cells.2.2.2.2.1
      obtain ⟨v8, w8, r8, B8, ⟨a8, q8, rfl⟩, h9⟩ := h7.push (P := Tryz.prog) (y := nth r.body k) (t := 32) (ty := 32) (cp := 1) i2 _ 16 Tryz.underlying32 hi2 hz20 hz21 hz22 rfl (Cells.new w5 [.int .i64 (nth r.body k).1, .int .i64 (nth r.body k).2] 94) ⟨⟨rfl, hF1, hF2⟩, rfl⟩ (by omega) (by omega)
      have H9 := Lib.hid h9
      obtain ⟨x0, x1, x2, x3, x4, xf⟩ := B8.cells
      refine hK.out _ _ (trivial) (fun hHeld => ?_)
      clear hK K
      try simp only [Act.put, put1, put2, put3]
      refine wpAnyH_ready (rs := [1, 3]) (by kernel_rfl) (by simp) ?_
      refine AllReadyH.cons rfl (fun K hK => ?_) (AllReadyH.cons rfl (fun K hK => ?_) AllReadyH.nil)
      ·skip
       go_simp
       refine hK.out _ _ (trivial) (fun hHeld => ?_)
       clear hK K
       try simp only [Act.put, put1, put2, put3]
       refine wpAnyH_ready (rs := [3]) (by kernel_rfl) (by simp) ?_
       refine AllReadyH.cons rfl (fun K hK => ?_) AllReadyH.nil
       go_simp
       refine hK.out _ _ (trivial) (fun hHeld => ?_)
       clear hK K
       try simp only [Act.put, put1, put2, put3]
       refine wpAnyH_ready (rs := [9]) (by kernel_rfl) (by simp) ?_
       refine AllReadyH.cons rfl (fun K hK => ?_) AllReadyH.nil
       go_simp
       refine hK.out _ _ (trivial) (fun hHeld => ?_)
       clear hK K
       try simp only [Act.put, put1, put2, put3]
       refine wpAnyH_ready (rs := [10]) (by kernel_rfl) (by simp) ?_
       refine AllReadyH.cons rfl (fun K hK => ?_) AllReadyH.nil
       go_simp
       refine hK.out _ _ (trivial) (fun hHeld => ?_)
       clear hK K
       try simp only [Act.put, put1, put2, put3]
       refine wpAnyH_ready (rs := [11]) (by kernel_rfl) (by simp) ?_
       refine AllReadyH.cons rfl (fun K hK => ?_) AllReadyH.nil
       go_simp
       refine hK.out _ _ (trivial) (fun hHeld => ?_)
       clear hK K
       try simp only [Act.put, put1, put2, put3]
       refine wpAnyH_ready (rs := [12]) (by kernel_rfl) (by simp) ?_
       refine AllReadyH.cons rfl (fun K hK => ?_) AllReadyH.nil
       refine step_append_of rfl _ _ rfl rfl rfl r8 ?_
       refine hK.out _ _ (trivial) (fun hHeld => ?_)
       clear hK K
       try simp only [Act.put, put1, put2, put3]
       refine wpAnyH_ready (rs := [13]) (by kernel_rfl) (by simp) ?_
       refine AllReadyH.cons rfl (fun K hK => ?_) AllReadyH.nil
       go_simp
       refine hK.out _ _ (trivial) (fun hHeld => ?_)
       clear hK K
       try simp only [Act.put, put1, put2, put3]
       refine wpAnyH_ready (rs := [14]) (by kernel_rfl) (by simp) ?_
       refine AllReadyH.cons rfl (fun K hK => ?_) AllReadyH.nil
       go_simp
       refine hK.out _ _ (trivial) (fun hHeld => ?_)
       clear hK K
       try simp only [Act.put, put1, put2, put3]
       refine wpAnyH_done (by kernel_rfl) ?_ _
       go_wp2_with fail
       go_meet
       exact ⟨rfl, rfl, _, _, H9.out.cg (Cg.refl _ _) (H9.out.cur.mono (by omega)), rfl, by rw [List.length_append, List.length_singleton]; omega⟩
      ·skip
       go_simp
       refine hK.out _ _ (trivial) (fun hHeld => ?_)
       clear hK K
       try simp only [Act.put, put1, put2, put3]
       refine wpAnyH_ready (rs := [1, 9]) (by kernel_rfl) (by simp) ?_
       refine AllReadyH.cons rfl (fun K hK => ?_) (AllReadyH.cons rfl (fun K hK => ?_) AllReadyH.nil)
       ·skip
        go_simp
        refine hK.out _ _ (trivial) (fun hHeld => ?_)
        clear hK K
        try simp only [Act.put, put1, put2, put3]
        refine wpAnyH_ready (rs := [9]) (by kernel_rfl) (by simp) ?_
        refine AllReadyH.cons rfl (fun K hK => ?_) AllReadyH.nil
        go_simp
        refine hK.out _ _ (trivial) (fun hHeld => ?_)
        clear hK K
        try simp only [Act.put, put1, put2, put3]
        refine wpAnyH_ready (rs := [10]) (by kernel_rfl) (by simp) ?_
        refine AllReadyH.cons rfl (fun K hK => ?_) AllReadyH.nil
        go_simp
        refine hK.out _ _ (trivial) (fun hHeld => ?_)
        clear hK K
        try simp only [Act.put, put1, put2, put3]
        refine wpAnyH_ready (rs := [11]) (by kernel_rfl) (by simp) ?_
        refine AllReadyH.cons rfl (fun K hK => ?_) AllReadyH.nil
        go_simp
        refine hK.out _ _ (trivial) (fun hHeld => ?_)
        clear hK K
        try simp only [Act.put, put1, put2, put3]
        refine wpAnyH_ready (rs := [12]) (by kernel_rfl) (by simp) ?_
        refine AllReadyH.cons rfl (fun K hK => ?_) AllReadyH.nil
        refine step_append_of rfl _ _ rfl rfl rfl r8 ?_
        refine hK.out _ _ (trivial) (fun hHeld => ?_)
        clear hK K
        try simp only [Act.put, put1, put2, put3]
        refine wpAnyH_ready (rs := [13]) (by kernel_rfl) (by simp) ?_
        refine AllReadyH.cons rfl (fun K hK => ?_) AllReadyH.nil
        go_simp
        refine hK.out _ _ (trivial) (fun hHeld => ?_)
        clear hK K
        try simp only [Act.put, put1, put2, put3]
        refine wpAnyH_ready (rs := [14]) (by kernel_rfl) (by simp) ?_
        refine AllReadyH.cons rfl (fun K hK => ?_) AllReadyH.nil
        go_simp
        refine hK.out _ _ (trivial) (fun hHeld => ?_)
        clear hK K
        try simp only [Act.put, put1, put2, put3]
        refine wpAnyH_done (by kernel_rfl) ?_ _
        go_wp2_with fail
        go_meet
        exact ⟨rfl, rfl, _, _, H9.out.cg (Cg.refl _ _) (H9.out.cur.mono (by omega)), rfl, by rw [List.length_append, List.length_singleton]; omega⟩
       ·skip
        go_simp
        refine hK.out _ _ (trivial) (fun hHeld => ?_)
        clear hK K
        try simp only [Act.put, put1, put2, put3]
        refine wpAnyH_ready (rs := [1, 10]) (by kernel_rfl) (by simp) ?_
        refine AllReadyH.cons rfl (fun K hK => ?_) (AllReadyH.cons rfl (fun K hK => ?_) AllReadyH.nil)
        ·skip
         go_simp
         refine hK.out _ _ (trivial) (fun hHeld => ?_)
         clear hK K
         try simp only [Act.put, put1, put2, put3]
         refine wpAnyH_ready (rs := [10]) (by kernel_rfl) (by simp) ?_
         refine AllReadyH.cons rfl (fun K hK => ?_) AllReadyH.nil
         go_simp
         refine hK.out _ _ (trivial) (fun hHeld => ?_)
         clear hK K
         try simp only [Act.put, put1, put2, put3]
         refine wpAnyH_ready (rs := [11]) (by kernel_rfl) (by simp) ?_
         refine AllReadyH.cons rfl (fun K hK => ?_) AllReadyH.nil
         go_simp
         refine hK.out _ _ (trivial) (fun hHeld => ?_)
         clear hK K
         try simp only [Act.put, put1, put2, put3]
         refine wpAnyH_ready (rs := [12]) (by kernel_rfl) (by simp) ?_
         refine AllReadyH.cons rfl (fun K hK => ?_) AllReadyH.nil
         refine step_append_of rfl _ _ rfl rfl rfl r8 ?_
         refine hK.out _ _ (trivial) (fun hHeld => ?_)
         clear hK K
         try simp only [Act.put, put1, put2, put3]
         refine wpAnyH_ready (rs := [13]) (by kernel_rfl) (by simp) ?_
         refine AllReadyH.cons rfl (fun K hK => ?_) AllReadyH.nil
         go_simp
         refine hK.out _ _ (trivial) (fun hHeld => ?_)
         clear hK K
         try simp only [Act.put, put1, put2, put3]
         refine wpAnyH_ready (rs := [14]) (by kernel_rfl) (by simp) ?_
         refine AllReadyH.cons rfl (fun K hK => ?_) AllReadyH.nil
         go_simp
         refine hK.out _ _ (trivial) (fun hHeld => ?_)
         clear hK K
         try simp only [Act.put, put1, put2, put3]
         refine wpAnyH_done (by kernel_rfl) ?_ _
         go_wp2_with fail
         go_meet
         exact ⟨rfl, rfl, _, _, H9.out.cg (Cg.refl _ _) (H9.out.cur.mono (by omega)), rfl, by rw [List.length_append, List.length_singleton]; omega⟩
        ·skip
         go_simp
         refine hK.out _ _ (trivial) (fun hHeld => ?_)
         clear hK K
         try simp only [Act.put, put1, put2, put3]
         refine wpAnyH_ready (rs := [1, 11]) (by kernel_rfl) (by simp) ?_
         refine AllReadyH.cons rfl (fun K hK => ?_) (AllReadyH.cons rfl (fun K hK => ?_) AllReadyH.nil)
         ·skip
          go_simp
          refine hK.out _ _ (trivial) (fun hHeld => ?_)
          clear hK K
          try simp only [Act.put, put1, put2, put3]
          refine wpAnyH_ready (rs := [11]) (by kernel_rfl) (by simp) ?_
          refine AllReadyH.cons rfl (fun K hK => ?_) AllReadyH.nil
          go_simp
          refine hK.out _ _ (trivial) (fun hHeld => ?_)
          clear hK K
          try simp only [Act.put, put1, put2, put3]
          refine wpAnyH_ready (rs := [12]) (by kernel_rfl) (by simp) ?_
          refine AllReadyH.cons rfl (fun K hK => ?_) AllReadyH.nil
          refine step_append_of rfl _ _ rfl rfl rfl r8 ?_
          refine hK.out _ _ (trivial) (fun hHeld => ?_)
          clear hK K
          try simp only [Act.put, put1, put2, put3]
          refine wpAnyH_ready (rs := [13]) (by kernel_rfl) (by simp) ?_
          refine AllReadyH.cons rfl (fun K hK => ?_) AllReadyH.nil
          go_simp
          refine hK.out _ _ (trivial) (fun hHeld => ?_)
          clear hK K
          try simp only [Act.put, put1, put2, put3]
          refine wpAnyH_ready (rs := [14]) (by kernel_rfl) (by simp) ?_
          refine AllReadyH.cons rfl (fun K hK => ?_) AllReadyH.nil
          go_simp
          refine hK.out _ _ (trivial) (fun hHeld => ?_)
          clear hK K
          try simp only [Act.put, put1, put2, put3]
          refine wpAnyH_done (by kernel_rfl) ?_ _
          go_wp2_with fail
          go_meet
          exact ⟨rfl, rfl, _, _, H9.out.cg (Cg.refl _ _) (H9.out.cur.mono (by omega)), rfl, by rw [List.length_append, List.length_singleton]; omega⟩
         ·skip
          go_simp
          refine hK.out _ _ (trivial) (fun hHeld => ?_)
          clear hK K
          try simp only [Act.put, put1, put2, put3]
          refine wpAnyH_ready (rs := [1]) (by kernel_rfl) (by simp) ?_
          refine AllReadyH.cons rfl (fun K hK => ?_) AllReadyH.nil
          go_simp
          refine hK.out _ _ (trivial) (fun hHeld => ?_)
          clear hK K
          try simp only [Act.put, put1, put2, put3]
          refine wpAnyH_ready (rs := [12]) (by kernel_rfl) (by simp) ?_
          refine AllReadyH.cons rfl (fun K hK => ?_) AllReadyH.nil
          refine step_append_of rfl _ _ rfl rfl rfl r8 ?_
          refine hK.out _ _ (trivial) (fun hHeld => ?_)
          clear hK K
          try simp only [Act.put, put1, put2, put3]
          refine wpAnyH_ready (rs := [13]) (by kernel_rfl) (by simp) ?_
          refine AllReadyH.cons rfl (fun K hK => ?_) AllReadyH.nil
          go_simp
          refine hK.out _ _ (trivial) (fun hHeld => ?_)
          clear hK K
          try simp only [Act.put, put1, put2, put3]
          refine wpAnyH_ready (rs := [14]) (by kernel_rfl) (by simp) ?_
          refine AllReadyH.cons rfl (fun K hK => ?_) AllReadyH.nil
          go_simp
          refine hK.out _ _ (trivial) (fun hHeld => ?_)
          clear hK K
          try simp only [Act.put, put1, put2, put3]
          refine wpAnyH_done (by kernel_rfl) ?_ _
          go_wp2_with fail
          go_meet
          exact ⟨rfl, rfl, _, _, H9.out.cg (Cg.refl _ _) (H9.out.cur.mono (by omega)), rfl, by rw [List.length_append, List.length_singleton]; omega⟩
  case rest =>
   obtain ⟨rfl, rfl, v4, r', hT, hh, hl⟩ := hcut
   clear h5 y0 y1 y2 y3 y4 yf
   obtain ⟨y0, y1, y2, y3, y4, yf⟩ := hT.box.cells
   obtain ⟨b5, q5, rfl⟩ := hT.forms.2
   go_wp2_with fail
   refine (once_calls c 6002 8 _ hT.cur (by omega) (by omega) (by omega)).mono ?_
   rintro e w6 ⟨b, rfl, c6, k6⟩
   have h7 := hT.cg (Cg.wrote (S := fun x => x = c) k6 rfl) c6
   clear y0 y1 y2 y3 y4 yf
   obtain ⟨y0, y1, y2, y3, y4, yf⟩ := h7.box.cells
   cases b
   ·go_upto_region 9 with fail
    have hR := (h7).rd
    have hBL := Lib.hid (h7).bel
    have hk := fun u0 u1 u2 u3 u4 => res_cg (w6) w.heap.size u0 u1 u2 u3 u4
    have hln : (w.heap.size : Nat) < (w6).heap.size := (h7).res.lt
    obtain ⟨s0, s1, s2, s3, s4, sf⟩ := (h7).res.cells
    have hRk := Lib.hid fun u0 u1 u2 u3 u4 => (h7).rdr (hk u0 u1 u2 u3 u4)
    go_wp2
    exact bodyPost_ret (v := .agg #[.bool (r').choice, .slice b1 r.heads.length q1, .bool (r').weight, .int .i64 (r').bound, .slice b5 (r'.body.length) q5]) (by first | (simp [results, Tryz.results13, go_sem, s0, s1, s2, s3, s4]; done) | (simp [results, Tryz.results13, go_sem, s0, s1, s2, s3, s4]; omega)) rfl
     ⟨[.bool (r').choice, .slice b1 r.heads.length q1, .bool (r').weight, .int .i64 (r').bound, .slice b5 (r'.body.length) q5], _, rfl, hRk.out _ _ _ _ _, by simp only [hh]; exact hw5.1, by first | omega | (simp; omega), below_cg hBL.out (hk _ _ _ _ _)⟩
   ·cases hwt : r'.weight
    ·rw [hwt] at y2
     go_upto_region 9 with fail
     have hR := (h7).rd
     have hBL := Lib.hid (h7).bel
     have hk := fun u0 u1 u2 u3 u4 => res_cg (w6) w.heap.size u0 u1 u2 u3 u4
     have hln : (w.heap.size : Nat) < (w6).heap.size := (h7).res.lt
     obtain ⟨s0, s1, s2, s3, s4, sf⟩ := (h7).res.cells
     have hRk := Lib.hid fun u0 u1 u2 u3 u4 => (h7).rdr (hk u0 u1 u2 u3 u4)
     go_wp2
     exact bodyPost_ret (v := .agg #[.bool (r').choice, .slice b1 r.heads.length q1, .bool (r').weight, .int .i64 (r').bound, .slice b5 (r'.body.length) q5]) (by first | (simp [results, Tryz.results13, go_sem, s0, s1, s2, s3, s4]; done) | (simp [results, Tryz.results13, go_sem, s0, s1, s2, s3, s4]; omega)) rfl
      ⟨[.bool (r').choice, .slice b1 r.heads.length q1, .bool (r').weight, .int .i64 (r').bound, .slice b5 (r'.body.length) q5], _, rfl, hRk.out _ _ _ _ _, by simp only [hh]; exact hw5.1, by first | omega | (simp; omega), below_cg hBL.out (hk _ _ _ _ _)⟩
    ·rw [hwt] at y2
     go_upto_region 7 with fail
     go_cut [3, 5] (fun cp q wz => cp = .pointer (some ⟨c, 0, none⟩) ∧ q = .pointer (some ⟨G, 0, none⟩) ∧ ∃ y, TR w c 6004 w1.heap.size G wz (.slice b1 r.heads.length q1) (.slice b5 r'.body.length q5) { r' with bound := y })
     case first =>
      have k8 : Cg (fun x => x = c) w6 (w6.alloc (.cells #[.int .i64 1000, .int .i64 1001, .int .i64 2, .int .i64 1, .int .i64 0] 3)) := (Cg.refl _ _).alloc _
      have h8 := h7.cg k8 (c6.kept ((Below.refl _ _).alloc (Nat.le_refl _) _))
      have hL := Cells.new w6 [.int .i64 1000, .int .i64 1001, .int .i64 2, .int .i64 1, .int .i64 0] 3
      go_wp2_with fail
      refine (pick_calls c 6003 5 _ h8.cur (by omega) ⟨by omega, by omega⟩).mono ?_
      rintro e w8 ⟨s, ⟨hs0, hs1, _⟩, rfl, hc8, hw8⟩
      have hs1 := hs1 (by omega)
      have h9 := h8.cg (Cg.wrote (S := fun x => x = c) hw8 rfl) hc8
      have hcl : c < w6.heap.size := by have := h7.lt; have := h7.box.lt; omega
      have hb9 := (Cg.wrote (S := fun x => x = c) hw8 rfl).at (alloc_block w6 #[.int .i64 1000, .int .i64 1001, .int .i64 2, .int .i64 1, .int .i64 0] 3) (by omega)
      have hcc := fun j => cell_of_row w8 w6.heap.size j _ _ _ hb9
      have l0 := hcc 0
      have l1 := hcc 1
      have l2 := hcc 2
      have l3 := hcc 3
      have l4 := hcc 4
      clear y0 y1 y2 y3 y4 yf hcc
      obtain ⟨y0, y1, y2, y3, y4, yf⟩ := h9.box.cells
      obtain rfl | rfl | rfl | rfl | rfl : s = 0 ∨ s = 1 ∨ s = 2 ∨ s = 3 ∨ s = 4 := by omega
      all_goals
       go_wp2_with fail
       go_meet
       exact ⟨rfl, rfl, _, h9.bound _ ⟨by omega, by omega⟩⟩
     case rest =>
      obtain ⟨rfl, rfl, y, h9⟩ := hcut
      clear y0 y1 y2 y3 y4 yf h7
      obtain ⟨y0, y1, y2, y3, y4, yf⟩ := h9.box.cells
      go_upto_region 8 with fail
      obtain ⟨i2, hi2, hz20, hz21, hz22⟩ := info_parts info_wlit
      have ka : Cg (fun x => x = c) wc (wc.alloc (.cells #[.int .i64 1, .int .i64 1000, .int .i64 2, .int .i64 1000] 94)) := (Cg.refl _ _).alloc _
      have h10 := h9.cg ka (h9.cur.kept ((Below.refl _ _).alloc (Nat.le_refl _) _))
      have hE : Els (α := Int × Int) (wc.alloc (.cells #[.int .i64 1, .int .i64 1000, .int .i64 2, .int .i64 1000] 94)) [.int .i64 1, .int .i64 1000, .int .i64 2, .int .i64 1000] [(1, 1000), (2, 1000)] [[], []] := by
       refine ⟨rfl, by simp, fun i hi => ?_⟩
       match i, hi with
       | 0, _ => exact ⟨[.int .i64 1, .int .i64 1000], fun j u hu => by
         match j, hu with
         | 0, hu => simpa using hu
         | 1, hu => simpa using hu
         | j + 2, hu => simp at hu, ⟨⟨rfl, ⟨by decide, by decide⟩, ⟨by decide, by decide⟩⟩, rfl⟩⟩
       | 1, _ => exact ⟨[.int .i64 2, .int .i64 1000], fun j u hu => by
         rw [show Rd.k (Int × Int) = 2 from rfl]
         match j, hu with
         | 0, hu => simpa using hu
         | 1, hu => simpa using hu
         | j + 2, hu => simp at hu, ⟨⟨rfl, ⟨by decide, by decide⟩, ⟨by decide, by decide⟩⟩, rfl⟩⟩
      obtain ⟨v8, w8, r8, B8, ⟨a8, q8, rfl⟩, h11⟩ := h10.pushS (P := Tryz.prog) (ys := [(1, 1000), (2, 1000)]) (t := 32) (ty := 32) (cp := 2) i2 _ 16 Tryz.underlying32 hi2 hz20 hz21 hz22 rfl (Cells.new wc [.int .i64 1, .int .i64 1000, .int .i64 2, .int .i64 1000] 94) hE rfl rfl (by intro u hu; simp at hu; rcases hu with rfl | rfl | rfl | rfl <;> rfl) (by simp; omega) (by simp; omega) (by simp)
      obtain ⟨x0, x1, x2, x3, x4, xf⟩ := B8.cells
      go_upto_region 9 with (at_builtin; refine wpList_append_of rfl _ _ rfl rfl rfl r8 ?_)
      clear x0 x1 x2 x3 x4 xf r8 B8 ka h10 hE y0 y1 y2 y3 y4 yf h9
      obtain ⟨W, hW⟩ : ∃ W, W = w8.setCell ⟨G, 4, none⟩ (.slice a8 (r'.body.length + 2) q8) := ⟨_, rfl⟩
      have h12 : TR w c 6004 w1.heap.size G W (.slice b1 r.heads.length q1) (.slice a8 (r'.body.length + 2) q8) { r' with bound := y, body := r'.body ++ [(1, 1000), (2, 1000)] } := by rw [hW]; exact h11
      rw [← hW]
      clear hW h11
      obtain ⟨y0, y1, y2, y3, y4, yf⟩ := h12.box.cells
      have hR := (h12).rd
      have hBL := Lib.hid (h12).bel
      have hk := fun u0 u1 u2 u3 u4 => res_cg (W) w.heap.size u0 u1 u2 u3 u4
      have hln : (w.heap.size : Nat) < (W).heap.size := (h12).res.lt
      obtain ⟨s0, s1, s2, s3, s4, sf⟩ := (h12).res.cells
      have hRk := Lib.hid fun u0 u1 u2 u3 u4 => (h12).rdr (hk u0 u1 u2 u3 u4)
      go_wp2
      exact bodyPost_ret (v := .agg #[.bool ({ r' with bound := y, body := r'.body ++ [(1, 1000), (2, 1000)] } : RuleD).choice, .slice b1 r.heads.length q1, .bool ({ r' with bound := y, body := r'.body ++ [(1, 1000), (2, 1000)] } : RuleD).weight, .int .i64 ({ r' with bound := y, body := r'.body ++ [(1, 1000), (2, 1000)] } : RuleD).bound, .slice a8 (r'.body.length + 2) q8]) (by first | (simp [results, Tryz.results13, go_sem, s0, s1, s2, s3, s4]; done) | (simp [results, Tryz.results13, go_sem, s0, s1, s2, s3, s4]; omega)) rfl
       ⟨[.bool ({ r' with bound := y, body := r'.body ++ [(1, 1000), (2, 1000)] } : RuleD).choice, .slice b1 r.heads.length q1, .bool ({ r' with bound := y, body := r'.body ++ [(1, 1000), (2, 1000)] } : RuleD).weight, .int .i64 ({ r' with bound := y, body := r'.body ++ [(1, 1000), (2, 1000)] } : RuleD).bound, .slice a8 (r'.body.length + 2) q8], _, rfl, hRk.out _ _ _ _ _, by simp only [hh]; exact hw5.1, by first | omega | (simp; omega), below_cg hBL.out (hk _ _ _ _ _)⟩

def oneP (p : ProgD) (r : RuleD) : ProgD := ⟨p.atoms, [r], [], false, [], [], [], []⟩
def withP (p : ProgD) (r : RuleD) : ProgD := { p with rules := p.rules ++ [r] }
theorem both_one (p : ProgD) (r : RuleD) : bothD p (oneP p r) = withP p r := by
 unfold bothD oneP withP
 have : max p.atoms p.atoms = p.atoms := by omega
 simp only [this]
theorem oneP_ok {p : ProgD} {r : RuleD} (hp : progOkB p = true) (hr : ruleOkB r p.atoms = true) : progOkB (oneP p r) = true := by
 obtain ⟨h0, h1⟩ := progOk_atoms hp
 have hs : setOkB [] p.atoms = true := by rw [setOkB_in ⟨h0, h1⟩]; rfl
 unfold progOkB oneP
 simp only [Bool.and_eq_true]
 refine ⟨by unfold btwB; exact decide_eq_true ⟨h0, h1⟩, ?_, rfl, ?_, rfl, rfl, rfl⟩
 ·simp [rulesB, hr]
 ·simp [projB, hs]
section
variable {p : ProgD} {r : RuleD} {x : List Int}
theorem both_same (hF : foldB p = true) (hr : ruleOkB r p.atoms = true) (hl : p.rules.length + p.exts.length + p.assume.length + 1 ≤ 60) : bothB p (oneP p r) = true ∧ bothR p (oneP p r) = withP p r := by
 have hp : progOkB p = true := by simp only [foldB, Bool.and_eq_true] at hF; exact hF.1
 have h1 : bothB p (oneP p r) = true := by
  unfold bothB
  rw [hp, oneP_ok hp hr]
  show decide (p.rules.length + 1 ≤ 60) = true
  exact decide_eq_true (by omega)
 exact ⟨h1, by rw [bothR_yes h1, both_one]⟩
theorem headsM_app {rs : List RuleD} : ∀ {k : Nat}, k ≤ rs.length → headsM (rs ++ [r]) k = headsM rs k
 | 0, _ => rfl
 | k + 1, hk => by
  have e : nth (rs ++ [r]) k = nth rs k := by
   unfold nth
   rw [List.getD_eq_getElem?_getD, List.getD_eq_getElem?_getD, List.getElem?_append_left (by omega)]
  show headsM (rs ++ [r]) k ||| maskOf (nth (rs ++ [r]) k).heads = headsM rs k ||| maskOf (nth rs k).heads
  rw [headsM_app (by omega), e]
theorem ext_with (hh : r.heads = []) : extR (withP p r) = extR p := by
 have e1 : headsL (p.rules ++ [r]) (p.rules ++ [r]).length = headsL p.rules p.rules.length := by
  rw [headsL_eq, headsL_eq]
  have : headsM (p.rules ++ [r]) (p.rules ++ [r]).length = headsM p.rules p.rules.length := by
   rw [show (p.rules ++ [r]).length = p.rules.length + 1 by simp]
   show headsM (p.rules ++ [r]) p.rules.length ||| maskOf (nth (p.rules ++ [r]) p.rules.length).heads = _
   have e : nth (p.rules ++ [r]) p.rules.length = r := by
    unfold nth
    rw [List.getD_eq_getElem?_getD, List.getElem?_append_right (Nat.le_refl _), Nat.sub_self]
    rfl
   rw [headsM_app (Nat.le_refl _), e, hh]
   exact Nat.or_zero _
  rw [this]
 have e2 : ∀ k, extTo (p.rules ++ [r]) p.exts k = extTo p.rules p.exts k := by
  intro k
  induction k with
  | zero => rfl
  | succ k ih =>
   have e3 : keepB (p.rules ++ [r]) (nth p.exts k) = keepB p.rules (nth p.exts k) := by unfold keepB; rw [e1]
   unfold extTo
   rw [e3, ih]
 exact e2 _
theorem with_rules (hh : r.heads = []) : (foldD (withP p r)).rules = (p.rules ++ [r]) ++ (extR p ++ asmR p) := by
 show ((p.rules ++ [r]) ++ extR (withP p r)) ++ asmR (withP p r) = _
 rw [ext_with hh, List.append_assoc]
 rfl
theorem with_okp (hp : progOkB p = true) (hr : ruleOkB r p.atoms = true) (hl : p.rules.length + 1 ≤ 60) : progOkB (withP p r) = true := by
 have h2 := bothD_ok hp (oneP_ok hp hr)
 rw [both_one] at h2
 rw [h2]
 exact decide_eq_true hl
theorem with_okf (hF : foldB p = true) (hr : ruleOkB r p.atoms = true) (hh : r.heads = []) (hl : p.rules.length + p.exts.length + p.assume.length + 1 ≤ 60) : foldB (withP p r) = true := by
 have hp : progOkB p = true := by simp only [foldB, Bool.and_eq_true] at hF; exact hF.1
 rw [foldB_yes (with_okp hp hr (by omega)), decide_eq_true_eq, ext_with hh]
 have h1 : (extR p).length ≤ p.exts.length := extTo_len _ _ _
 show (p.rules ++ [r]).length + (extR p).length + p.assume.length ≤ 60
 rw [List.length_append, List.length_singleton]
 omega
theorem con_holds (hr : ruleOkB r 12 = true) (hh : r.heads = []) (hc : r.choice = false) : ruleHoldsB x r = !bodyHoldsB r x := by
 unfold ruleHoldsB
 have hm : meetB r x = [] := by
  rw [List.eq_nil_iff_forall_not_mem]
  intro b hb
  have h1 : b ∈ pickTo (pickM r.heads x) 12 := hb
  have h2 := (mem_pickTo _ _ _).1 h1
  have h3 := hasB_memO.2 h1
  rw [hasB_meet ⟨by omega, by omega⟩, hh, hasB_nil] at h3
  cases h3
 rw [hm, hc]
 cases bodyHoldsB r x <;> rfl
theorem con_put (hh : r.heads = []) (hc : r.choice = false) : putL false x r = [] := by
 rw [putL_F (by rw [hc]; rfl), hh]
theorem both_ans (hF : foldB p = true) (hr : ruleOkB r p.atoms = true) (hh : r.heads = []) (hc : r.choice = false) (hl : p.rules.length + p.exts.length + p.assume.length + 1 ≤ 60) : ansB (foldD (withP p r)) x = (ansB (foldD p) x && !bodyHoldsB r x) := by
 have hp : progOkB p = true := by simp only [foldB, Bool.and_eq_true] at hF; exact hF.1
 have hF2 := with_okf hF hr hh hl
 have k1 := foldR_ok hF
 have k2 := foldR_ok hF2
 have hr12 : ruleOkB r 12 = true := ruleOkB_mono hr (progOk_atoms hp).2 (by omega)
 have e0 : (foldD p).rules = p.rules ++ (extR p ++ asmR p) := by
  show (p.rules ++ extR p) ++ asmR p = _
  rw [List.append_assoc]
 have hm : modelB (foldD (withP p r)) x = (modelB (foldD p) x && !bodyHoldsB r x) := by
  rw [modelB_yes k1, modelB_yes k2, with_rules hh, e0]
  simp only [List.all_append, List.all_cons, List.all_nil, Bool.and_true]
  rw [con_holds hr12 hh hc]
  cases p.rules.all (ruleHoldsB x) <;> cases (extR p).all (ruleHoldsB x) <;> cases (asmR p).all (ruleHoldsB x) <;> cases bodyHoldsB r x <;> rfl
 have hL : leastL (foldD (withP p r)).rules x false = leastL (foldD p).rules x false := by
  refine least_same (foldD_wts hF2) (foldD_wts hF) fun c _ => ?_
  rw [with_rules hh, e0]
  simp only [closed_app]
  have h3 : Closed [r] x false c := fun r' hr' _ => by
   rw [List.mem_singleton.1 hr', con_put hh hc]
   intro a _ _ ha
   rw [hasB_nil] at ha; cases ha
  exact ⟨fun h => ⟨h.1.1, h.2⟩, fun h => ⟨⟨h.1, h3⟩, h.2⟩⟩
 unfold ansB
 rw [hm, hL]
 show (setOkB x (foldD p).atoms && _) = _
 cases setOkB x (foldD p).atoms <;> cases modelB (foldD p) x <;> cases bodyHoldsB r x <;> simp
theorem ansTo_filterB {q q' : ProgD} {f : List Int → Bool} (h : ∀ x, ansB q' x = (ansB q x && f x)) : ∀ n, ansTo q' n = (ansTo q n).filter f
 | 0 => rfl
 | n + 1 => by
  have ih := ansTo_filterB h n
  have e := h (setN n)
  cases hf : ansB q (setN n)
  ·rw [hf, Bool.false_and] at e
   rw [ansTo_no e, ansTo_no hf, ih]
  ·rw [hf, Bool.true_and] at e
   rw [ansTo_yes hf, List.filter_append, ← ih]
   cases hh : f (setN n)
   ·rw [hh] at e
    rw [ansTo_no e]
    simp [hh]
   ·rw [hh] at e
    rw [ansTo_yes e]
    simp [hh]
theorem both_answers (hF : foldB p = true) (hr : ruleOkB r p.atoms = true) (hh : r.heads = []) (hc : r.choice = false) (hl : p.rules.length + p.exts.length + p.assume.length + 1 ≤ 60) : answersL (withP p r) = (answersL p).filter fun x => !bodyHoldsB r x := by
 rw [answersL_yes (with_okf hF hr hh hl), answersL_yes hF]
 exact ansTo_filterB (fun x => both_ans hF hr hh hc hl) _
end

end Go.Proofs.YthikhkeofcjdfaaGreat
