/-
  A list of values out of its two numbers. No condition of its own.
-/
import Derived.Test.YtnjiephgiemkjaaGreatVal
namespace Go.Proofs.YtnjiephgiemkjaaGreat
set_option linter.unusedVariables false
set_option linter.unusedSimpArgs false
open Go.RowKit
set_option maxRecDepth 100000
set_option linter.unusedVariables false
set_option linter.unusedSimpArgs false

/-- A list of values for the atoms up to n. -/
def VOk (n : Nat) (vs : List Int) : Prop := vs.length = n ∧ n ≤ 12 ∧ ∀ v ∈ vs, v = 0 ∨ v = 1 ∨ v = 2
theorem VOk.el {n : Nat} {vs : List Int} (h : VOk n vs) {k : Nat} (hk : k < n) : el vs k = 0 ∨ el vs k = 1 ∨ el vs k = 2 := h.2.2 _ (el_mem (by rw [h.1]; exact hk))
theorem el_set {vs : List Int} {i k : Nat} {v : Int} (hi : i < vs.length) : el (vs.set i v) k = if i = k then v else el vs k := by
  unfold el
  rw [List.getD_eq_getElem?_getD, List.getD_eq_getElem?_getD, List.getElem?_set]
  by_cases e : i = k
  · rw [if_pos e, if_pos e, if_pos (by omega)]; rfl
  · rw [if_neg e, if_neg e]
theorem VOk.set {n : Nat} {vs : List Int} (h : VOk n vs) {i : Nat} {v : Int} (hv : v = 0 ∨ v = 1 ∨ v = 2) : VOk n (vs.set i v) :=
  ⟨by rw [List.length_set]; exact h.1, h.2.1, fun u hu => by
    rcases List.mem_or_eq_of_mem_set hu with hu | rfl
    · exact h.2.2 u hu
    · exact hv⟩
theorem hasM_with {vs : List Int} {k x : Int} (h : 1 ≤ x ∧ x ≤ 12) : hasM (maskOf (withL vs k)) x = valB vs k x := by rw [hasM_maskOf _ _ h, hasB_with h]
/-- The two numbers of a list of values. -/
def tM (vs : List Int) : Nat := maskOf (withL vs 1)
def fM (vs : List Int) : Nat := maskOf (withL vs 2)
theorem tM_lt (vs : List Int) : tM vs < 4096 := maskOf_lt _
theorem fM_lt (vs : List Int) : fM vs < 4096 := maskOf_lt _
theorem rowI_same {xs : List Int} {k : Nat} (hk : k < xs.length) (h : el xs k = 0) : rowI xs (k + 1) = rowI xs k := by
  unfold rowI
  obtain ⟨m, hm⟩ : ∃ m, xs.length - k = m + 1 := ⟨xs.length - k - 1, by omega⟩
  rw [hm, show xs.length - (k + 1) = m by omega, take_el hk, List.map_append, h, List.replicate_succ]
  simp
theorem hasM_tM {vs : List Int} {k : Nat} (hk : k < vs.length) (hl : vs.length ≤ 12) : hasM (tM vs) ((k : Int) + 1) = decide (el vs k = 1) := by
  unfold tM; rw [hasM_with ⟨by omega, by omega⟩, valB_at hk]
theorem hasM_fM {vs : List Int} {k : Nat} (hk : k < vs.length) (hl : vs.length ≤ 12) : hasM (fM vs) ((k : Int) + 1) = decide (el vs k = 2) := by
  unfold fM; rw [hasM_with ⟨by omega, by omega⟩, valB_at hk]
set_option maxHeartbeats 4000000 in
theorem valsList_calls (vs : List Int) (w : World) (hv : VOk vs.length vs) :
    Calls Tryz.prog 64 #[.agg #[.int .u16 (tM vs : Int), .int .u16 (fM vs : Int)], .int .i64 (vs.length : Int)] w fun e w' => ∃ u, e = .returned u ∧ OwnI w.heap.size w' u vs ∧ Below w.heap.size w w' := by
  obtain ⟨i0, hi, hz0, hz1, hz2⟩ := info_parts info_int
  have hl12 := hv.2.1
  have hm := tM_lt vs
  have hf := fM_lt vs
  have tb := (Below.refl w.heap.size w).alloc (Nat.le_refl _) (.cells #[.int .u16 (tM vs : Int), .int .u16 (fM vs : Int)] 73)
  have CX0 := Cells.new w [.int .u16 (tM vs : Int), .int .u16 (fM vs : Int)] 73
  have hfit : ∀ n ∈ vs, Fits n := fun n hn => by rcases hv.2.2 n hn with e | e | e <;> (rw [e]; exact ⟨by omega, by omega⟩)
  go_enter Tryz.func64, Tryz.ntmps64
  go_wp2_with (at_make; refine wpList_make_full _ rfl _ _ 24 rfl (w.heap.size + 1) 3 i0 (.int .i64 0) 1 Tryz.underlying24 hi hz0 hz1 _ _ _ _ vs.length rfl rfl rfl rfl ?c1 ?c2 ?c3 ?_)
  case c1 => rw [hz2]; omega
  case c2 => unfold maxLen; omega
  case c3 => simp
  intro w1 hown hgrow
  have hown' : w1.ownsRow (w.heap.size + 1) 3 1 (.slice (some ⟨w.heap.size + 1, 0, none⟩) vs.length vs.length) vs.length (rowI vs 0) := by
    rw [rowI_zero]; simpa [toList_madeCells_one] using hown
  have hb0 : Below (w.heap.size + 1) (w.alloc (.cells #[.int .u16 (tM vs : Int), .int .u16 (fM vs : Int)] 73)) w1 := (Below.refl _ _).grown hgrow (by simp) (fun k hk => by cases hk)
  have CX := CX0.kept (hb0.block w.heap.size (by omega))
  have t1 : Below w.heap.size w w1 := tb.trans (hb0.mono (by omega))
  have hz1' : w.heap.size + 1 ≤ w1.heap.size := by have := hb0.size; rw [World.size_alloc] at this; exact this
  clear hown hgrow hb0 CX0 tb
  go_wp2
  go_loopw [11] (fun i wr => ∃ k : Nat, k ≤ vs.length ∧ i = .int .i64 k ∧ wr.ownsRow (w.heap.size + 1) 3 1 (.slice (some ⟨w.heap.size + 1, 0, none⟩) vs.length vs.length) vs.length (rowI vs k) ∧ Below (w.heap.size + 1) w1 wr) (fun i _ => vs.length - (intOf i).toNat)
  case atStart => exact ⟨0, Nat.zero_le _, rfl, hown', Below.refl _ _⟩
  case round =>
    obtain ⟨k, hk, rfl, ho, hb⟩ := hrel
    clear hown'
    by_cases hlt : k < vs.length
    · have hzr := hb.size
      have hX := CX.kept (hb.block w.heap.size (by omega))
      obtain ⟨v0, v1⟩ := cells2 hX
      have hcs := ho.cellAt k (by omega)
      rw [rowI_get hlt] at hcs
      have hfr := ho.frozenAt k
      have hF : Fits ((k : Int) + 1) := ⟨by omega, by omega⟩
      have hT := hasM_tM hlt hl12
      have hT2 := hasM_fM hlt hl12
      rcases hv.el hlt with h0 | h0 | h0
      · have hN := Lib.hid (rowI_same hlt h0)
        rw [h0] at hT hT2
        clear h0
        go_wp2_with (first | (go_at_call 101; refine (has_calls (tM vs) _ _ hm hF).mono ?_; rintro e w' ⟨he, rfl⟩; rw [hT] at he; subst he) | (go_at_call 101; refine (has_calls (fM vs) _ _ hf hF).mono ?_; rintro e w' ⟨he, rfl⟩; rw [hT2] at he; subst he))
        go_roundw
        case rel => exact ⟨k + 1, by omega, by go_num, by rw [hN.out]; exact ho, hb⟩
        case measure => simp [intOf]; omega
      · have hst := ho.stored k (.int .i64 (el vs k))
        rw [rowI_set hlt, h0] at hst
        obtain ⟨hst1, hst2⟩ := hst
        rw [h0] at hT hT2
        clear h0
        go_wp2_with (first | (go_at_call 101; refine (has_calls (tM vs) _ _ hm hF).mono ?_; rintro e w' ⟨he, rfl⟩; rw [hT] at he; subst he) | (go_at_call 101; refine (has_calls (fM vs) _ _ hf hF).mono ?_; rintro e w' ⟨he, rfl⟩; rw [hT2] at he; subst he))
        go_roundw
        case rel => exact ⟨k + 1, by omega, by go_num, hst1, hb.setCell (Nat.le_refl _) _⟩
        case measure => simp [intOf]; omega
      · have hst := ho.stored k (.int .i64 (el vs k))
        rw [rowI_set hlt, h0] at hst
        obtain ⟨hst1, hst2⟩ := hst
        rw [h0] at hT hT2
        clear h0
        go_wp2_with (first | (go_at_call 101; refine (has_calls (tM vs) _ _ hm hF).mono ?_; rintro e w' ⟨he, rfl⟩; rw [hT] at he; subst he) | (go_at_call 101; refine (has_calls (fM vs) _ _ hf hF).mono ?_; rintro e w' ⟨he, rfl⟩; rw [hT2] at he; subst he))
        go_roundw
        case rel => exact ⟨k + 1, by omega, by go_num, hst1, hb.setCell (Nat.le_refl _) _⟩
        case measure => simp [intOf]; omega
    · obtain rfl : k = vs.length := by omega
      have HO : OwnI (w.heap.size + 1) wr (.slice (some ⟨w.heap.size + 1, 0, none⟩) vs.length vs.length) vs := ⟨by rw [rowI_all] at ho; exact ho, by omega, hfit⟩
      go_wp2
      go_ret
      exact ⟨_, rfl, HO.mono (by omega), t1.trans (hb.mono (by omega))⟩


end Go.Proofs.YtnjiephgiemkjaaGreat
