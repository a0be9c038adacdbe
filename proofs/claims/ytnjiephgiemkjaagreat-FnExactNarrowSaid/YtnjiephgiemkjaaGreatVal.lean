/-
  Lists of values: what is asked of them alone. No condition of its own.
-/
import Derived.Test.YtnjiephgiemkjaaGreatMade
import Derived.Test.YtnjiephgiemkjaaGreatSeq
import Derived.Test.YtnjiephgiemkjaaGreatLeastS
import Derived.Deep.RegionWith
import Derived.StillTailTactics
namespace Go.Proofs.YtnjiephgiemkjaaGreat
set_option linter.unusedVariables false
set_option linter.unusedSimpArgs false
open Go.RowKit
set_option maxRecDepth 100000
set_option linter.unusedVariables false
set_option linter.unusedSimpArgs false

/-- Has a list of values this one for an atom? -/
def valB (vs : List Int) (k a : Int) : Bool := decide (1 ≤ a ∧ a ≤ (vs.length : Int) ∧ el vs (a - 1).toNat = k)
theorem valB_at {vs : List Int} {k : Int} {i : Nat} (h : i < vs.length) : valB vs k ((i : Int) + 1) = decide (el vs i = k) := by
  unfold valB
  rw [show ((i : Int) + 1 - 1).toNat = i by omega, decide_eq_decide]
  exact ⟨fun h => h.2.2, fun e => ⟨by omega, by omega, e⟩⟩
theorem valB_yes {vs : List Int} {k : Int} {i : Nat} (h : i < vs.length) (e : el vs i = k) : valB vs k ((i : Int) + 1) = true := by rw [valB_at h]; exact decide_eq_true e
theorem valB_no {vs : List Int} {k : Int} {i : Nat} (h : i < vs.length) (e : ¬ el vs i = k) : valB vs k ((i : Int) + 1) = false := by rw [valB_at h]; exact decide_eq_false e
theorem valB_out {vs : List Int} {k a : Int} (h : (vs.length : Int) < a) : valB vs k a = false := by
  unfold valB; rw [decide_eq_false_iff_not]; omega
theorem pickTo_stop {f : Int → Bool} {m : Nat} : ∀ {n : Nat}, m ≤ n → (∀ a : Int, (m : Int) < a → a ≤ (n : Int) → f a = false) → pickTo f n = pickTo f m
  | 0, h, _ => by rw [show m = 0 by omega]
  | n + 1, h, hf => by
    rcases Nat.lt_or_ge m (n + 1) with hlt | hge
    · rw [pickTo_no (hf ((n : Int) + 1) (by omega) (by omega)), pickTo_stop (by omega) fun a h1 h2 => hf a h1 (by omega)]
    · rw [show m = n + 1 by omega]
/-- The atoms that have one value. -/
def withL (vs : List Int) (k : Int) : List Int := pickTo (valB vs k) 12
theorem withL_stop {vs : List Int} {k : Int} {m : Nat} (hm : m ≤ 12) (h : m = 12 ∨ vs.length ≤ m) : pickTo (valB vs k) m = withL vs k := by
  rcases h with rfl | h
  · rfl
  · exact (pickTo_stop hm fun a h1 h2 => valB_out (by omega)).symm
theorem withL_isP (vs : List Int) (k : Int) : IsP (withL vs k) := isP_pick _
theorem withL_len (vs : List Int) (k : Int) : (withL vs k).length ≤ 12 := pickTo_len _ _
theorem hasB_with {vs : List Int} {k a : Int} (h : 1 ≤ a ∧ a ≤ 12) : hasB (withL vs k) a = valB vs k a := hasB_pickTo h

/-! ### spec -/
/-- None of them is UnKnown. -/
def wholeB (vs : List Int) : Bool := !hasB vs 0
theorem whole_no {vs : List Int} {k : Nat} (hk : k < vs.length) (h : el vs k = 0) : wholeB vs = false := by unfold wholeB; rw [hasB_yes hk h]; rfl
theorem whole_yes {vs : List Int} (h : hasB vs 0 = false) : wholeB vs = true := by unfold wholeB; rw [h]; rfl
/-- Is a value told otherwise? -/
def badV (xs vs : List Int) (a : Int) : Bool := valB vs 1 a && !hasB xs a || valB vs 2 a && hasB xs a
def agreesB (xs vs : List Int) : Bool := decide (pickTo (badV xs vs) 12 = [])
theorem pick_nil {f : Int → Bool} {n : Nat} : pickTo f n = [] ↔ ∀ a : Int, 1 ≤ a → a ≤ n → f a = false := by
  constructor
  · intro h a h1 h2
    cases e : f a
    · rfl
    · have := (mem_pickTo f a n).2 ⟨h1, h2, e⟩
      rw [h] at this; cases this
  · intro h
    apply List.eq_nil_iff_forall_not_mem.2
    intro a ha
    have := (mem_pickTo f a n).1 ha
    rw [h a this.1 this.2.1] at this
    exact absurd this.2.2 Bool.false_ne_true
theorem agrees_no {xs vs : List Int} {j : Nat} (hj : j < 12) (h : badV xs vs ((j : Int) + 1) = true) : agreesB xs vs = false := by
  unfold agreesB
  rw [decide_eq_false_iff_not, pick_nil]
  intro hh
  rw [hh ((j : Int) + 1) (by omega) (by omega)] at h
  cases h
theorem badV_out {xs vs : List Int} {a : Int} (h : (vs.length : Int) < a) : badV xs vs a = false := by
  unfold badV; rw [valB_out h, valB_out h]; rfl
theorem badV_at {xs vs : List Int} {j : Nat} {b : Bool} (hj : j < vs.length) (hb : hasB xs ((j : Int) + 1) = b) : badV xs vs ((j : Int) + 1) = (decide (el vs j = 1) && !b || decide (el vs j = 2) && b) := by
  unfold badV; rw [valB_at hj, valB_at hj, hb]
theorem agrees_yes {xs vs : List Int} {j : Nat} (hj : j ≤ 12) (h : j = 12 ∨ vs.length ≤ j) (hp : pickTo (badV xs vs) j = []) : agreesB xs vs = true := by
  unfold agreesB
  rw [decide_eq_true_eq]
  rcases h with rfl | h
  · exact hp
  · rw [pickTo_stop hj fun a h1 h2 => badV_out (by omega)]; exact hp
theorem pick_nil_step {f : Int → Bool} {j : Nat} (hp : pickTo f j = []) (h : f ((j : Int) + 1) = false) : pickTo f (j + 1) = [] := by rw [pickTo_no h]; exact hp

set_option maxHeartbeats 4000000 in
theorem specAgrees_calls (a a' : Option Addr) (xs vs : List Int) (cap cap' : Nat) (w : World) (h' : Ints w a xs) (h : Ints w a' vs) :
    Calls Tryz.prog 57 #[.slice a xs.length cap, .slice a' vs.length cap'] w fun e w' => e = .returned (.bool (agreesB xs vs)) ∧ Below w.heap.size w w' := by
  have hm := h.1
  have hm' := h'.1
  go_enter Tryz.func57, Tryz.ntmps57
  go_wp2
  go_loopw [5] (fun i wr => ∃ j : Nat, j ≤ 12 ∧ j ≤ vs.length ∧ i = .int .i64 ((j : Int) + 1) ∧ Hid (pickTo (badV xs vs) j = []) ∧ Below w.heap.size w wr) (fun i _ => 13 - (intOf i).toNat)
  case atStart => exact ⟨0, by omega, by omega, rfl, rfl, Below.refl _ _⟩
  case round =>
    obtain ⟨j, hj, hjl, rfl, hp, hb⟩ := hrel
    by_cases hlt : j < 12
    · by_cases hl2 : j < vs.length
      · have hwr := hb.size
        obtain ⟨b, off, rfl, hc⟩ := (h.later hb).at (by omega)
        have hck := hc j hl2
        clear hc
        have hx' := h'.later hb
        have hd1 : (j : Int) + 1 ≤ (vs.length : Int) := by omega
        cases hH : hasB xs ((j : Int) + 1)
        · have hbd := badV_at hl2 hH
          have hH2 := hH
          rcases (show el vs j = 1 ∨ el vs j = 2 ∨ (¬ el vs j = 1 ∧ ¬ el vs j = 2) by omega) with h1 | h1 | ⟨h1, h2⟩
          · have hv1 : (el vs j == 1) = true := by rw [h1]; rfl
            have hv2 : (el vs j == 2) = false := by rw [h1]; rfl
            rw [h1] at hbd
            have HB := Lib.hid (agrees_no hlt (hbd.trans (by decide)))
            clear hbd h1 hH2
            go_wp2_with (go_at_call 59; refine (SetHas_calls _ _ _ _ _ hx').mono ?_; rintro e w' ⟨he, rfl⟩; rw [hH] at he; subst he)
            go_ret
            exact ⟨ret_bool HB.out.symm, hb⟩
          · have hv1 : (el vs j == 1) = false := by rw [h1]; rfl
            have hv2 : (el vs j == 2) = true := by rw [h1]; rfl
            rw [h1] at hbd
            have HB := Lib.hid (pick_nil_step hp.out (hbd.trans (by decide)))
            clear hbd h1 hH2
            go_wp2_with (go_at_call 59; refine (SetHas_calls _ _ _ _ _ hx').mono ?_; rintro e w' ⟨he, rfl⟩; rw [hH] at he; subst he)
            go_roundw
            case rel => exact ⟨j + 1, by omega, by omega, by go_num, HB, hb⟩
            case measure => simp [intOf]; omega
          · have hv1 : (el vs j == 1) = false := by simpa using h1
            have hv2 : (el vs j == 2) = false := by simpa using h2
            rw [decide_eq_false h1, decide_eq_false h2] at hbd
            have HB := Lib.hid (pick_nil_step hp.out (hbd.trans (by decide)))
            clear hbd h1 h2 hH2
            go_wp2_with (go_at_call 59; refine (SetHas_calls _ _ _ _ _ hx').mono ?_; rintro e w' ⟨he, rfl⟩; rw [hH] at he; subst he)
            go_roundw
            case rel => exact ⟨j + 1, by omega, by omega, by go_num, HB, hb⟩
            case measure => simp [intOf]; omega
        · have hbd := badV_at hl2 hH
          have hH2 := hH
          rcases (show el vs j = 1 ∨ el vs j = 2 ∨ (¬ el vs j = 1 ∧ ¬ el vs j = 2) by omega) with h1 | h1 | ⟨h1, h2⟩
          · have hv1 : (el vs j == 1) = true := by rw [h1]; rfl
            have hv2 : (el vs j == 2) = false := by rw [h1]; rfl
            rw [h1] at hbd
            have HB := Lib.hid (pick_nil_step hp.out (hbd.trans (by decide)))
            clear hbd h1 hH2
            go_wp2_with (go_at_call 59; refine (SetHas_calls _ _ _ _ _ hx').mono ?_; rintro e w' ⟨he, rfl⟩; rw [hH] at he; subst he)
            go_roundw
            case rel => exact ⟨j + 1, by omega, by omega, by go_num, HB, hb⟩
            case measure => simp [intOf]; omega
          · have hv1 : (el vs j == 1) = false := by rw [h1]; rfl
            have hv2 : (el vs j == 2) = true := by rw [h1]; rfl
            rw [h1] at hbd
            have HB := Lib.hid (agrees_no hlt (hbd.trans (by decide)))
            clear hbd h1 hH2
            go_wp2_with (go_at_call 59; refine (SetHas_calls _ _ _ _ _ hx').mono ?_; rintro e w' ⟨he, rfl⟩; rw [hH] at he; subst he)
            go_ret
            exact ⟨ret_bool HB.out.symm, hb⟩
          · have hv1 : (el vs j == 1) = false := by simpa using h1
            have hv2 : (el vs j == 2) = false := by simpa using h2
            rw [decide_eq_false h1, decide_eq_false h2] at hbd
            have HB := Lib.hid (pick_nil_step hp.out (hbd.trans (by decide)))
            clear hbd h1 h2 hH2
            go_wp2_with (go_at_call 59; refine (SetHas_calls _ _ _ _ _ hx').mono ?_; rintro e w' ⟨he, rfl⟩; rw [hH] at he; subst he)
            go_roundw
            case rel => exact ⟨j + 1, by omega, by omega, by go_num, HB, hb⟩
            case measure => simp [intOf]; omega
      · have hS := Lib.hid (agrees_yes (xs := xs) (vs := vs) hj (by omega) hp.out)
        have hd1 : (vs.length : Int) < (j : Int) + 1 := by omega
        go_wp2
        go_ret
        exact ⟨ret_bool hS.out.symm, hb⟩
    · have hS := Lib.hid (agrees_yes (xs := xs) (vs := vs) hj (by omega) hp.out)
      go_wp2
      go_ret
      exact ⟨ret_bool hS.out.symm, hb⟩


/-! ### impl -/
theorem bx_cells {w : World} {g : Nat} {cs : List Value} {e : TypeId} (h : w.heap[g]? = some (.cells cs.toArray e (0, 0))) : Cells w g 0 cs := fun j v hv => by
  rw [Nat.zero_add, cell_of_row w g j _ _ _ h]; simpa using hv
theorem bx_set {w : World} {g i : Nat} {cs : List Value} {e : TypeId} (h : w.heap[g]? = some (.cells cs.toArray e (0, 0))) (v : Value) : (w.setCell ⟨g, i, none⟩ v).heap[g]? = some (.cells (cs.set i v).toArray e (0, 0)) := by
  rw [heap_setCell_same w g i _ _ v h]
  simp
theorem lessN_calls (a b : Nat) (w : World) (ha : a < 4096) (hb : b < 4096) :
    Calls Tryz.prog 63 #[.int .u16 (a : Int), .int .u16 (b : Int)] w fun e w' => e = .returned (.int .u16 ((a &&& (65535 - b) : Nat) : Int)) ∧ w = w' := by
  have hor := andNot_u16 a b ha hb
  go_enter Tryz.func63, Tryz.ntmps63
  go_wp2
  go_ret
  exact ⟨rfl, rfl⟩

/-- The atoms that have one value among the first so many: as a number. -/
def valM (vs : List Int) (k : Int) : Nat → Nat
  | 0 => 0
  | n + 1 => if el vs n = k then valM vs k n ||| bitN ((n : Int) + 1) else valM vs k n
theorem valM_yes {vs : List Int} {k : Int} {n : Nat} (h : el vs n = k) : valM vs k (n + 1) = valM vs k n ||| bitN ((n : Int) + 1) := if_pos h
theorem valM_no {vs : List Int} {k : Int} {n : Nat} (h : ¬ el vs n = k) : valM vs k (n + 1) = valM vs k n := if_neg h
theorem valM_lt (vs : List Int) (k : Int) : ∀ n, valM vs k n < 4096
  | 0 => by simp [valM]
  | n + 1 => by
    by_cases h : el vs n = k
    · rw [valM_yes h]; exact Nat.or_lt_two_pow (n := 12) (valM_lt vs k n) (bitN_lt _)
    · rw [valM_no h]; exact valM_lt vs k n
theorem hasM_bitN {a x : Int} (h : 1 ≤ a ∧ a ≤ 12) : hasM (bitN x) a = decide (x = a) := by
  rw [hasM_bit _ _ h, testBit_bitN _ _ (by omega), decide_eq_decide]
  omega
theorem hasM_valM {vs : List Int} {k a : Int} (h : 1 ≤ a ∧ a ≤ 12) : ∀ n, n ≤ vs.length → hasM (valM vs k n) a = (decide (a ≤ (n : Int)) && valB vs k a)
  | 0, _ => by
    show hasM 0 a = _
    rw [show decide (a ≤ ((0 : Nat) : Int)) = false from decide_eq_false (by omega), Bool.false_and]
    simp [hasM]
  | n + 1, hn => by
    have ih := hasM_valM (vs := vs) (k := k) h n (by omega)
    by_cases e : el vs n = k
    · rw [valM_yes e, hasM_or h, ih, hasM_bitN h]
      by_cases ha : a = (n : Int) + 1
      · subst ha
        rw [valB_yes (by omega) e]
        simp
      · rw [show decide ((n : Int) + 1 = a) = false from decide_eq_false fun e => ha e.symm, Bool.or_false, show decide (a ≤ ((n + 1 : Nat) : Int)) = decide (a ≤ (n : Int)) by rw [decide_eq_decide]; omega]
    · rw [valM_no e, ih]
      by_cases ha : a = (n : Int) + 1
      · subst ha
        rw [valB_no (by omega) e, Bool.and_false, Bool.and_false]
      · rw [show decide (a ≤ ((n + 1 : Nat) : Int)) = decide (a ≤ (n : Int)) by rw [decide_eq_decide]; omega]
theorem valM_all (vs : List Int) (k : Int) : valM vs k vs.length = maskOf (withL vs k) := by
  have e : mset (valM vs k vs.length) = withL vs k := pickTo_congr fun a h1 h2 => by
    rw [hasM_valM ⟨h1, by omega⟩ _ (Nat.le_refl _)]
    by_cases h : a ≤ (vs.length : Int)
    · rw [decide_eq_true h, Bool.true_and]
    · rw [valB_out (by omega), Bool.and_false]
  rw [← e, mask_mset (valM_lt _ _ _)]
set_option maxHeartbeats 600000 in
theorem valuesOf_calls (a : Option Addr) (vs : List Int) (cap : Nat) (w : World) (h : Ints w a vs) :
    Calls Tryz.prog 61 #[.slice a vs.length cap] w fun e w' => e = .returned (.agg #[.int .u16 (maskOf (withL vs 1) : Int), .int .u16 (maskOf (withL vs 2) : Int)]) ∧ Below w.heap.size w w' := by
  have hm := h.1
  have hE1 := Lib.hid (valM_all vs 1)
  have hE2 := Lib.hid (valM_all vs 2)
  go_enter Tryz.func61, Tryz.ntmps61
  go_wp2
  go_loopw [8] (fun i wr => ∃ k : Nat, k ≤ vs.length ∧ i = .int .i64 k ∧ Hid (wr.heap[w.heap.size + 1]? = some (.cells ([.int .u16 (valM vs 1 k : Int), .int .u16 (valM vs 2 k : Int)] : List Value).toArray 73 (0, 0))) ∧ Hid (wr.heap[w.heap.size]? = some (.cells ([.int .u16 0, .int .u16 0] : List Value).toArray 73 (0, 0))) ∧ Below w.heap.size w wr) (fun i _ => vs.length - (intOf i).toNat)
  case atStart =>
    refine ⟨0, Nat.zero_le _, rfl, ?_, ?_, ?_⟩
    · have := heap_alloc_new (w.alloc (.cells #[.int .u16 0, .int .u16 0] 73)) (.cells #[.int .u16 0, .int .u16 0] 73)
      rw [World.size_alloc] at this
      exact this
    · exact (Below.heap_alloc _ _ _ (by simp)).trans (heap_alloc_new w _)
    · exact ((Below.refl _ w).alloc (Nat.le_refl _) _).alloc (by simp) _
  case round =>
    obtain ⟨k, hk, rfl, hV, hR, hb⟩ := hrel
    obtain ⟨v0, v1⟩ := cells2 (bx_cells hV.out)
    obtain ⟨r0, r1⟩ := cells2 (bx_cells hR.out)
    have z0 := frozen_of_row wr (w.heap.size + 1) 0 _ _ hV.out
    have z1 := frozen_of_row wr (w.heap.size + 1) 1 _ _ hV.out
    have y0 := frozen_of_row wr w.heap.size 0 _ _ hR.out
    have y1 := frozen_of_row wr w.heap.size 1 _ _ hR.out
    have hsz1 := block_lt hV.out
    by_cases hlt : k < vs.length
    · obtain ⟨b, off, rfl, hc⟩ := (h.later hb).at (by omega)
      have hck := hc k hlt
      have hF : Fits ((k : Int) + 1) := ⟨by omega, by omega⟩
      have hw1 : IntKind.i64.wrap ((k : Int) + 1) = (k : Int) + 1 := IntWalk.i64_in _ (by omega)
      have hl1 := valM_lt vs 1 k
      have hl2 := valM_lt vs 2 k
      clear hc
      rcases (show el vs k = 1 ∨ el vs k = 2 ∨ (¬ el vs k = 1 ∧ ¬ el vs k = 2) by omega) with h1 | h1 | ⟨h1, h2⟩
      · have hS1 := Lib.hid (valM_yes h1)
        have hS2 := Lib.hid (valM_no (k := 2) (show ¬ el vs k = 2 by omega))
        have hv1 : (el vs k == 1) = true := by rw [h1]; rfl
        clear h1
        go_wp2
        refine wp_region_still_tail 7 (by kernel_rfl) (by kernel_rfl) ?_
        simp only [List.take_succ_cons, List.take_zero, List.drop_succ_cons, List.drop_zero]
        repeat still_step
        still_call ((atomBit_calls _ _ hF).mono fun _ _ h => ⟨h.1, h.2.symm⟩)
        repeat still_step
        still_call ((joinN_calls _ _ _ hl1 (bitN_lt _)).mono fun _ _ h => ⟨h.1, h.2.symm⟩)
        repeat still_step
        try refine wpStill_nil ?_
        go_wp2
        go_roundw
        case rel => exact ⟨k + 1, by omega, by go_num, by rw [hS1.out, hS2.out]; exact bx_set hV.out _, (Below.heap_setCell _ _ _ _ (by simp)).trans hR.out, (hb.setCell (by simp) _).drew⟩
        case measure => simp [intOf]; omega
      · have hS1 := Lib.hid (valM_no (k := 1) (show ¬ el vs k = 1 by omega))
        have hS2 := Lib.hid (valM_yes h1)
        have hv1 : (el vs k == 1) = false := by rw [h1]; rfl
        have hv2 : (el vs k == 2) = true := by rw [h1]; rfl
        clear h1
        go_wp2
        refine wp_region_still_tail 7 (by kernel_rfl) (by kernel_rfl) ?_
        simp only [List.take_succ_cons, List.take_zero, List.drop_succ_cons, List.drop_zero]
        repeat still_step
        still_call ((atomBit_calls _ _ hF).mono fun _ _ h => ⟨h.1, h.2.symm⟩)
        repeat still_step
        still_call ((joinN_calls _ _ _ hl2 (bitN_lt _)).mono fun _ _ h => ⟨h.1, h.2.symm⟩)
        repeat still_step
        try refine wpStill_nil ?_
        go_wp2
        go_roundw
        case rel => exact ⟨k + 1, by omega, by go_num, by rw [hS1.out, hS2.out]; exact bx_set hV.out _, (Below.heap_setCell _ _ _ _ (by simp)).trans hR.out, (hb.setCell (by simp) _).drew⟩
        case measure => simp [intOf]; omega
      · have hS1 := Lib.hid (valM_no h1)
        have hS2 := Lib.hid (valM_no h2)
        have hv1 : (el vs k == 1) = false := by simpa using h1
        have hv2 : (el vs k == 2) = false := by simpa using h2
        clear h1 h2
        go_wp2
        go_roundw
        case rel => exact ⟨k + 1, by omega, by go_num, by rw [hS1.out, hS2.out]; exact hV, hR, hb⟩
        case measure => simp [intOf]; omega
    · obtain rfl : k = vs.length := by omega
      rw [hE1.out] at v0
      rw [hE2.out] at v1
      obtain ⟨q0, q1⟩ := cells2 (bx_cells (cs := [.int .u16 (maskOf (withL vs 1) : Int), .int .u16 (maskOf (withL vs 2) : Int)]) (bx_set (i := 1) (bx_set (i := 0) hR.out (.int .u16 (maskOf (withL vs 1) : Int))) (.int .u16 (maskOf (withL vs 2) : Int))))
      have q0 := Lib.hid q0
      have q1 := Lib.hid q1
      go_wp2
      have q0 := q0.out
      have q1 := q1.out
      exact bodyPost_ret (v := .agg #[.int .u16 (maskOf (withL vs 1) : Int), .int .u16 (maskOf (withL vs 2) : Int)]) (by simp [results, Tryz.results61, go_sem, q0, q1]) rfl ⟨rfl, (hb.setCell (by simp) _).setCell (by simp) _⟩


end Go.Proofs.YtnjiephgiemkjaaGreat
