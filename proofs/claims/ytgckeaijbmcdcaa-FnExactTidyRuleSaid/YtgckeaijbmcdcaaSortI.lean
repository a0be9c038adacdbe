/-
  The library's stable sort of literals by rank. No condition of its own.
-/
import Derived.Test.YtgckeaijbmcdcaaSortW
import Derived.Test.YtgckeaijbmcdcaaHolds
import Derived.Test.YtgckeaijbmcdcaaCopy
import Derived.IntWalk
import Derived.BigQuiet
import Derived.Deep.QuietTactic
import Derived.Deep.DeepCutAuto
import Derived.Shelf.SlSortCmp.QuietGrown
namespace Go.Proofs.Ytgckeaijbmcdcaa
open Go.RowKit
set_option maxRecDepth 100000

set_option maxHeartbeats 1000000 in
theorem litRank_calls (l : Int) (w : World) (h : -12 ≤ l ∧ l ≤ 12) :
    Calls Try.prog 115 #[.int .i64 l] w fun e w' => e = .returned (.int .i64 (rankI l)) ∧ w = w' := by
  obtain ⟨h1, h2⟩ := h
  have hf : Fits l := by unfold Fits; omega
  obtain ⟨t, ht⟩ : ∃ t, t = atomI l := ⟨_, rfl⟩
  have hr : 0 ≤ t ∧ t ≤ 12 := by rw [ht]; unfold atomI; rw [if_neg (by omega)]; split <;> omega
  have hA := atom_calls l w hf
  rw [← ht] at hA
  have hrk : rankI l = if l < 0 then 2 * t + 1 else 2 * t := by
    rw [ht]; unfold rankI atomI; rw [if_neg (show ¬ l = -9223372036854775808 by omega)]; split <;> rfl
  obtain ⟨r1, r2⟩ := hr
  have HR := Lib.hid hrk
  clear ht hrk hf
  by_cases hn : l < 0
  · have HR2 : Hid (rankI l = 2 * t + 1) := by show _ = _; rw [HR.out, if_pos hn]
    clear HR
    go_enter Try.func115, Try.ntmps115
    go_wp2_with (go_at_call 118; refine hA.mono ?_; rintro e w' ⟨rfl, rfl⟩)
    go_ret
    exact ⟨ret_int HR2.out.symm, rfl⟩
  · have HR2 : Hid (rankI l = 2 * t) := by show _ = _; rw [HR.out, if_neg hn]
    clear HR
    go_enter Try.func115, Try.ntmps115
    go_wp2_with (go_at_call 118; refine hA.mono ?_; rintro e w' ⟨rfl, rfl⟩)
    go_ret
    exact ⟨ret_int HR2.out.symm, rfl⟩
set_option maxHeartbeats 1000000 in
theorem wRank_calls (l c : Int) (w : World) (h : -12 ≤ l ∧ l ≤ 12) :
    Calls Try.prog 99 #[.agg #[.int .i64 l, .int .i64 c]] w fun e w' => e = .returned (.int .i64 (rankI l)) ∧ ∃ q os', w' = Sort.grow (w.drewN q) os' := by
  have HH := Lib.hid h
  clear h
  go_enter Try.func99, Try.ntmps99
  go_wp2_with (go_at_call 115; refine (litRank_calls _ _ HH.out).mono ?_; rintro e w' ⟨rfl, rfl⟩)
  go_ret
  exact ⟨rfl, 0, _, by rw [Sort.alloc_eq_grow]; rfl⟩
def cmpI (a b : Int) : Int := if a < b then -1 else if b < a then 1 else 0
set_option maxHeartbeats 1000000 in
theorem cmp_calls (a b : Int) (w : World) :
    Calls Try.prog 114 #[.int .i64 a, .int .i64 b] w fun e w' => e = .returned (.int .i64 (cmpI a b)) ∧ ∃ q os', w' = Sort.grow (w.drewN q) os' := by
  have hw : ∃ q os', w = Sort.grow (w.drewN q) os' := ⟨0, #[], by rw [Sort.grow_empty]; rfl⟩
  have HW := Lib.hid hw
  clear hw
  by_cases h1 : a < b
  · have hv := Lib.hid (show -1 = cmpI a b from by unfold cmpI; rw [if_pos h1])
    go_enter Try.func114, Try.ntmps114
    go_wp2
    go_ret
    exact ⟨ret_int hv.out, HW.out⟩
  · by_cases h2 : b < a
    · have hv := Lib.hid (show 1 = cmpI a b from by unfold cmpI; rw [if_neg h1, if_pos h2])
      go_enter Try.func114, Try.ntmps114
      go_wp2
      go_ret
      exact ⟨ret_int hv.out, HW.out⟩
    · have hv := Lib.hid (show 0 = cmpI a b from by unfold cmpI; rw [if_neg h1, if_neg h2])
      go_enter Try.func114, Try.ntmps114
      go_wp2
      go_ret
      exact ⟨ret_int hv.out, HW.out⟩
set_option maxHeartbeats 2000000 in
theorem byRank_calls {l c l' c' : Int} {b : Nat} {w : World} (hb : b < w.heap.size) (hc : w.cell? ⟨b, 0, none⟩ = some (.func (.func 99) #[] #[])) (h : -12 ≤ l ∧ l ≤ 12) (h' : -12 ≤ l' ∧ l' ≤ 12) :
    Calls Try.prog 113 #[.agg #[.int .i64 l, .int .i64 c], .agg #[.int .i64 l', .int .i64 c'], .pointer (some ⟨b, 0, none⟩)] w fun e w' => e = .returned (.int .i64 (cmpI (rankI l) (rankI l'))) ∧ ∃ q os', w' = Sort.grow (w.drewN q) os' := by
  have HH := Lib.hid h
  have HH' := Lib.hid h'
  clear h h'
  have CA := (Cells.new w [.int .i64 l, .int .i64 c] 84).alloc (.cells #[.int .i64 l', .int .i64 c'] 84)
  have CB := Cells.new (w.alloc (.cells #[.int .i64 l, .int .i64 c] 84)) [.int .i64 l', .int .i64 c'] 84
  have hbel : Below w.heap.size w ((w.alloc (.cells #[.int .i64 l, .int .i64 c] 84)).alloc (.cells #[.int .i64 l', .int .i64 c'] 84)) := ((Below.refl _ _).alloc (Nat.le_refl _) _).alloc (by simp) _
  have hf : ((w.alloc (.cells #[.int .i64 l, .int .i64 c] 84)).alloc (.cells #[.int .i64 l', .int .i64 c'] 84)).cell? ⟨b, 0, none⟩ = some (.func (.func 99) #[] #[]) := (World.cell?_of_block (a := ⟨b, 0, none⟩) (hbel.block b hb)).trans hc
  have hgrow : Hid (((w.alloc (.cells #[.int .i64 l, .int .i64 c] 84)).alloc (.cells #[.int .i64 l', .int .i64 c'] 84)) = Sort.grow w (#[.cells #[.int .i64 l, .int .i64 c] 84] ++ #[.cells #[.int .i64 l', .int .i64 c'] 84])) := by show _ = _; rw [Sort.alloc_eq_grow, Sort.alloc_eq_grow, Sort.grow_grow]
  have hsz : ((w.alloc (.cells #[.int .i64 l, .int .i64 c] 84)).alloc (.cells #[.int .i64 l', .int .i64 c'] 84)).heap.size = w.heap.size + 2 := by simp
  rw [World.size_alloc] at CB
  clear hc hbel
  go_enter Try.func113, Try.ntmps113
  go_upto_region 1 with fail
  generalize ((w.alloc (.cells #[.int .i64 l, .int .i64 c] 84)).alloc (.cells #[.int .i64 l', .int .i64 c'] 84)) = wa at CA CB hf hgrow hsz ⊢
  have k0 := fun n os => cell_grown (a := ⟨b, 0, none⟩) (by show b < wa.heap.size; omega) hf n os
  have k1 := fun n os => cell_grown (a := ⟨w.heap.size, 0, none⟩) (by show w.heap.size < wa.heap.size; omega) CA.c0 n os
  have k2 := fun n os => cell_grown (a := ⟨w.heap.size, 1, none⟩) (by show w.heap.size < wa.heap.size; omega) CA.c1 n os
  have k3 := fun n os => cell_grown (a := ⟨w.heap.size + 1, 0, none⟩) (by show w.heap.size + 1 < wa.heap.size; omega) CB.c0 n os
  have k4 := fun n os => cell_grown (a := ⟨w.heap.size + 1, 1, none⟩) (by show w.heap.size + 1 < wa.heap.size; omega) CB.c1 n os
  clear hf CA CB hsz
  have mixed : Try.prog.follows .mixedOrders = true := by kernel_rfl
  go_quiet_grown (first | (go_at_call 99; first | exact Calls.grown_of (wRank_calls _ _ _ HH.out) | exact Calls.grown_of (wRank_calls _ _ _ HH'.out)) | (go_at_call 114; exact Calls.grown_of (cmp_calls _ _ _)))
  go_wp2
  go_ret
  exact ⟨rfl, nq, _, by rw [hgrow.out]; show Sort.grow (Sort.grow (w.drewN nq) _) osq = _; rw [Sort.grow_grow]⟩

end Go.Proofs.Ytgckeaijbmcdcaa
