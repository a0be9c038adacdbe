/-
 A row that a call owns, of which the block is known alone: one element more. No condition of its own.
-/
import Derived.Test.YthikhkeofcjdfaaGreatOwnD
import Derived.ArgAppend
namespace Go.Proofs.YthikhkeofcjdfaaGreat
set_option linter.unusedVariables false
set_option linter.unusedSimpArgs false
open Go.RowKit
set_option maxRecDepth 100000

theorem setCells_put (g : Nat) : ∀ (vs : List Value) (o : Nat) (w : World), w.setCells g o vs = put w g o vs
 | [], _, _ => rfl
 | v :: r, o, w => by
  rw [World.setCells, put]
  exact setCells_put g r (o + 1) _
theorem els_row {α : Type} [Ow α] {w : World} {g : Nat} {e : TypeId} {cur : Array Value} {xs : List α} {fps : List (List Nat)} (hh : w.heap[g]? = some (.cells cur e (0, 0))) (hl : fps.length = xs.length) (hn : fps.flatten.Nodup)
  (hx : ∀ i, i < xs.length → ∃ ecs, Cells w g (i * Rd.k α) ecs ∧ Ow.O w ecs (nth xs i) (fps.getD i [])) : Els w (cur.toList.take (xs.length * Rd.k α)) xs fps := by
 refine ⟨hl, hn, fun i hi => ?_⟩
 obtain ⟨ecs, hC, hO⟩ := hx i hi
 refine ⟨ecs, fun j u hu => ?_, hO⟩
 have hj : j < ecs.length := (List.getElem?_eq_some_iff.1 hu).1
 rw [Rd.len (Ow.rd hO)] at hj
 have hroom := mul_room (K := Rd.k α) hi
 have hc := hC j u hu
 rw [cell_of_row w g _ _ _ _ hh] at hc
 rw [List.getElem?_take_of_lt (by omega), Array.getElem?_toList]
 exact hc
/-- What a new row holds is the call's own. -/
theorem owL_grown {α : Type} [Ow α] {w w' : World} {e : TypeId} {v' : Value} {xs : List α} {y : α} {olds ecs : List Value} {fps : List (List Nat)} {fy : List Nat} (hE : Els w olds xs fps) (hol : olds.length = xs.length * Rd.k α) (ho : Ow.O w ecs y fy) (hd : ∀ b ∈ fps.flatten, b ∉ fy)
  (hr : w'.ownsRow w.heap.size e (Rd.k α) v' (xs.length + 1) (olds ++ ecs)) (hg : w.grownBy w' none) : ∃ fp', OwL w' [v'] (xs ++ [y]) fp' ∧ ∀ b ∈ fp', b ∈ fps.flatten ∨ b ∈ fy ∨ w.heap.size ≤ b := by
 have h2 : Els w ecs [y] [fy] := ⟨rfl, by simpa using Ow.nodup ho, fun i hi => by
  have : i = 0 := by simp at hi; omega
  subst this
  exact ⟨ecs, fun j u hu => by simpa using hu, ho⟩⟩
 have hA := Els.app (hE.kept fun g hg' => hg.block g (hE.lt g hg') (by simp)) (h2.kept fun g hg' => hg.block g (h2.lt g hg') (by simp)) hol (fun g h1 h3 => hd g h1 (by simpa using h3))
 have hD : OwnD w.heap.size (fun b => b ∈ fps.flatten ∨ b ∈ fy ∨ w.heap.size ≤ b) e w' v' (xs ++ [y]) := by
  refine ⟨olds ++ ecs, fps ++ [fy], by rw [List.length_append]; exact hr, hA, fun f hf => ?_, fun g hg' => .inr (.inr (hr.lt g hg').1)⟩
  rw [List.flatten_append, List.mem_append] at hf
  have hlt : f < w.heap.size := hf.elim (fun h => hE.lt f h) (fun h => h2.lt f h)
  refine ⟨hf.elim .inl fun h => .inr (.inl (by simpa using h)), fun e => by have := (hr.lt f e).1; omega⟩
 exact hD.own
section
variable {α : Type} [Ow α] {P : Program}
theorem OwL.push {w : World} {v : Value} {xs : List α} {fp : List Nat} {y : α} {ecs : List Value} {ga c : Nat} {fy : List Nat} {t ty e : TypeId}
  (i : TypeInfo) (z : Value) (bytes : Nat) (ht : P.underlying t = some (.slice e)) (hi : P.info? e = some i) (hz : i.zero = some z) (hsize : i.size = Rd.k α) (hby : i.bytes = bytes) (hzs : z.cells.size = Rd.k α) (hK : 0 < Rd.k α)
  (h : OwL w [v] xs fp) (hc : Cells w ga 0 ecs) (ho : Ow.O w ecs y fy) (hd : ∀ b ∈ fp, b ∉ fy) (hl : (xs.length + 1) * bytes ≤ 140737488355328) (hl2 : xs.length + 1 ≤ 140737488355328) :
  ∃ v' w', (Builtin.append_ #[t, t] ty #[v, .slice (some ⟨ga, 0, none⟩) 1 c]).run P w = .ok v' w' ∧ (∃ fp', OwL w' [v'] (xs ++ [y]) fp' ∧ ∀ b ∈ fp', b ∈ fp ∨ b ∈ fy ∨ w.heap.size ≤ b) ∧
   (w'.os = w.os ∧ w'.tape = w.tape ∧ w'.output = w.output ∧ w.heap.size ≤ w'.heap.size ∧ ∀ b, b < w.heap.size → b ∉ fp → w'.heap[b]? = w.heap[b]?) := by
 have hel := Rd.len (Ow.rd ho)
 have hone : ∀ u ∈ ecs, u.oneCell' = true := fun u hu => Rd.one (Ow.rd ho) u hu
 have hnews : ∀ j u, ecs[j]? = some u → w.cell? ((⟨ga, 0, none⟩ : Addr).add j) = some u := fun j u hu => by
  have := hc j u hu
  unfold Addr.add
  by_cases hj : j = 0
  ·subst hj; simpa using this
  ·rw [if_neg hj]; exact this
 have h63 : xs.length + 1 ≤ maxLen := by unfold maxLen; omega
 obtain ⟨a, cap, he, hle, hcm, hrow⟩ := h
 simp only [List.cons.injEq, and_true] at he
 subst he
 rcases hrow with ⟨rfl, rfl, rfl⟩ | ⟨g, e0, cur, fps, rfl, hh, hcs, hfl, rfl, hnd, hx⟩
 ·-- nothing was there
  have hend : ∀ v' w', w'.ownsRow w.heap.size e (Rd.k α) v' (0 + 1) ([] ++ ecs) → w.grownBy w' none → (∃ fp', OwL w' [v'] ([] ++ [y]) fp' ∧ ∀ b ∈ fp', b ∈ [] ∨ b ∈ fy ∨ w.heap.size ≤ b) := fun v' w' r1 r2 => by
   obtain ⟨fp', k1, k2⟩ := owL_grown (α := α) (xs := []) (olds := []) (fps := []) (Els.nil _ _) (by simp) ho (by simp) (by simpa using r1) r2
   exact ⟨fp', k1, fun b hb => by simpa using k2 b hb⟩
  cases a with
  | none =>
   obtain ⟨v', w', r0, r1, r2, _⟩ := run_append_own (P := P) w w.heap.size t ty e i z (Rd.k α) bytes ht hi hz hsize hby hzs hK (.slice none 0 0) 0 [] (World.ownsRow_nil w _ e _) ⟨ga, 0, none⟩ 1 c ecs (by rw [hel, Nat.one_mul]) hnews hone (by simpa using h63) (by simpa using hl) (Nat.le_refl _)
   exact ⟨v', w', r0, hend v' w' (by simpa using r1) r2, r2.os, r2.tape, r2.output, r2.size, fun b hb _ => r2.block b hb (by simp [Value.ownBlock])⟩
  | some a' =>
   obtain ⟨v', w', r0, r1, r2⟩ := run_append_arg_grows (P := P) w t ty e i z (Rd.k α) bytes ht hi hz hsize hby hzs hK a' 0 0 [] (by simp) (by intro _ _ h'; simp at h') ⟨ga, 0, none⟩ 1 c ecs (by rw [hel, Nat.one_mul]) hnews (by omega) (by simpa using h63) (by simpa using hl)
   exact ⟨v', w', r0, hend v' w' (by simpa using r1) r2, r2.os, r2.tape, r2.output, r2.size, fun b hb _ => r2.block b hb (by simp)⟩
 ·have hndf := (List.nodup_cons.1 hnd)
  have hE := els_row hh hfl hndf.2 hx
  have hlc : xs.length * Rd.k α ≤ cur.size := Nat.le_trans (Nat.mul_le_mul_right _ hle) hcs
  have hol : (cur.toList.take (xs.length * Rd.k α)).length = xs.length * Rd.k α := by have : cur.toList.length = cur.size := Array.length_toList; rw [List.length_take]; omega
  by_cases hroom : xs.length + 1 ≤ cap
  ·have hrc : (xs.length + 1) * Rd.k α ≤ cur.size := Nat.le_trans (Nat.mul_le_mul_right _ hroom) hcs
   rw [Nat.add_mul, Nat.one_mul] at hrc
   have hrun := run_append_room_cells (P := P) w t ty e i ht hi g 0 xs.length cap ⟨ga, 0, none⟩ 1 c ecs (by rw [hel, hsize, Nat.one_mul]) hnews hone hroom
    (fun j hj => by rw [cell_of_row w g _ _ _ _ hh, hsize, Nat.zero_add, Array.getElem?_eq_getElem (by omega)]; rfl)
    (fun j hj => frozen_of_row w g _ cur e0 hh)
   rw [hsize, Nat.zero_add, setCells_put] at hrun
   have hg1 : g ∉ fy := hd g (List.mem_cons_self ..)
   have hpb := put_block g e0 ecs w (xs.length * Rd.k α) cur hh (by omega)
   have hch := put_chg g ecs w (xs.length * Rd.k α)
   refine ⟨_, _, hrun, ⟨g :: (fps.flatten ++ fy), ?_, fun b hb => ?_⟩, hch.os, hch.tape, hch.output, Nat.le_of_eq hch.size.symm, fun b _ hb => hch.block b (fun hm => hb (by simp at hm; subst hm; simp))⟩
   ·obtain ⟨cur', p1, p2, p3⟩ := hpb
    refine ⟨some ⟨g, 0, none⟩, cap, by rw [List.length_append]; rfl, by rw [List.length_append]; exact hroom, hcm, .inr ⟨g, e0, cur', fps ++ [fy], rfl, p1, by rw [p2]; exact hcs, by simp [hfl], by simp [List.flatten_append], ?_, fun i hi => ?_⟩⟩
    ·refine List.nodup_cons.2 ⟨fun hm => ?_, ?_⟩
     ·rcases List.mem_append.1 hm with hm | hm
      ·exact hndf.1 hm
      ·exact hg1 hm
     ·exact List.nodup_append.2 ⟨hndf.2, Ow.nodup ho, fun a ha b hb e => hd a (List.mem_cons_of_mem _ ha) (e ▸ hb)⟩
    ·rw [List.length_append, List.length_singleton] at hi
     by_cases hlt : i < xs.length
     ·obtain ⟨es, hC, hO⟩ := hx i hlt
      have hes := Rd.len (Ow.rd hO)
      have hrm := mul_room (K := Rd.k α) hlt
      refine ⟨es, fun j u hu => ?_, ?_⟩
      ·have hj : j < es.length := (List.getElem?_eq_some_iff.1 hu).1
       have h0 := hC j u hu
       rw [cell_of_row w g _ _ _ _ hh] at h0
       rw [cell_of_row _ g _ _ _ _ p1, p3, if_neg (by omega)]
       exact h0
      ·rw [nth_app_l hlt, getD_app_l (by omega)]
       exact Ow.kept hO fun b hb => hch.block b (fun hm => hndf.1 (by
        have : b = g := by simpa using hm
        rw [← this]
        exact mem_flat hb))
     ·have hie : i = xs.length := by omega
      subst hie
      refine ⟨ecs, fun j u hu => ?_, ?_⟩
      ·have hj : j < ecs.length := (List.getElem?_eq_some_iff.1 hu).1
       rw [cell_of_row _ g _ _ _ _ p1, p3, if_pos (by omega), Nat.add_sub_cancel_left]
       exact hu
      ·rw [nth_app_r (Nat.le_refl _), getD_app_r (by omega), Nat.sub_self, hfl, Nat.sub_self]
       exact Ow.kept ho fun b hb => hch.block b (fun hm => hg1 (by
        have : b = g := by simpa using hm
        rw [← this]; exact hb))
   ·rcases List.mem_cons.1 hb with rfl | hb
    ·exact .inl (List.mem_cons_self ..)
    ·rcases List.mem_append.1 hb with hb | hb
     ·exact .inl (List.mem_cons_of_mem _ hb)
     ·exact .inr (.inl hb)
  ·obtain ⟨v', w', r0, r1, r2⟩ := run_append_arg_grows (P := P) w t ty e i z (Rd.k α) bytes ht hi hz hsize hby hzs hK ⟨g, 0, none⟩ xs.length cap (cur.toList.take (xs.length * Rd.k α)) hol (fun j u hu => by
    have hj : j < xs.length * Rd.k α := by have := (List.getElem?_eq_some_iff.1 hu).1; rw [hol] at this; exact this
    rw [List.getElem?_take_of_lt hj, Array.getElem?_toList] at hu
    rw [Addr.add_lit, cell_of_row w g _ _ _ _ hh, Nat.zero_add]
    exact hu) ⟨ga, 0, none⟩ 1 c ecs (by rw [hel, Nat.one_mul]) hnews (by omega) h63 hl
   obtain ⟨fp', k1, k2⟩ := owL_grown hE hol ho (fun b hb => hd b (List.mem_cons_of_mem _ hb)) r1 r2
   exact ⟨v', w', r0, ⟨fp', k1, fun b hb => (k2 b hb).imp (List.mem_cons_of_mem _) id⟩, r2.os, r2.tape, r2.output, r2.size, fun b hb _ => r2.block b hb (by simp)⟩
end

end Go.Proofs.YthikhkeofcjdfaaGreat
