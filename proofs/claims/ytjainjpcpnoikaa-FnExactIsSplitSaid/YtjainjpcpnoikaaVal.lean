/-
  Lists of values: what is asked of them alone. No condition of its own.
-/
import Derived.Test.YtjainjpcpnoikaaMade
import Derived.Test.YtjainjpcpnoikaaSeq
import Derived.Test.YtjainjpcpnoikaaLeastS
import Derived.Deep.RegionWith
import Derived.StillTailTactics
namespace Go.Proofs.Ytjainjpcpnoikaa
set_option linter.unusedVariables false
set_option linter.unusedSimpArgs false
open Go.RowKit
set_option maxRecDepth 100000
set_option linter.unusedVariables false
set_option linter.unusedSimpArgs false

/-- Has a list of values this one for an atom? -/
def valB (vs : List Int) (k a : Int) : Bool := decide (1 ≤ a ∧ a ≤ (vs.length : Int) ∧ el vs (a - 1).toNat = k)
theorem valB_at {vs : List Int} {k : Int} {i : Nat} (h : i < vs.length) : valB vs k ((i : Int) + 1) = decide (el vs i = k) := by
  unfold valB
  rw [show ((i : Int) + 1 - 1).toNat = i by omega, decide_eq_decide]
  exact ⟨fun h => h.2.2, fun e => ⟨by omega, by omega, e⟩⟩
theorem valB_yes {vs : List Int} {k : Int} {i : Nat} (h : i < vs.length) (e : el vs i = k) : valB vs k ((i : Int) + 1) = true := by rw [valB_at h]; exact decide_eq_true e
theorem valB_no {vs : List Int} {k : Int} {i : Nat} (h : i < vs.length) (e : ¬ el vs i = k) : valB vs k ((i : Int) + 1) = false := by rw [valB_at h]; exact decide_eq_false e
theorem valB_out {vs : List Int} {k a : Int} (h : (vs.length : Int) < a) : valB vs k a = false := by
  unfold valB; rw [decide_eq_false_iff_not]; omega
theorem pickTo_stop {f : Int → Bool} {m : Nat} : ∀ {n : Nat}, m ≤ n → (∀ a : Int, (m : Int) < a → a ≤ (n : Int) → f a = false) → pickTo f n = pickTo f m
  | 0, h, _ => by rw [show m = 0 by omega]
  | n + 1, h, hf => by
    rcases Nat.lt_or_ge m (n + 1) with hlt | hge
    · rw [pickTo_no (hf ((n : Int) + 1) (by omega) (by omega)), pickTo_stop (by omega) fun a h1 h2 => hf a h1 (by omega)]
    · rw [show m = n + 1 by omega]
/-- The atoms that have one value. -/
def withL (vs : List Int) (k : Int) : List Int := pickTo (valB vs k) 12
theorem withL_stop {vs : List Int} {k : Int} {m : Nat} (hm : m ≤ 12) (h : m = 12 ∨ vs.length ≤ m) : pickTo (valB vs k) m = withL vs k := by
  rcases h with rfl | h
  · rfl
  · exact (pickTo_stop hm fun a h1 h2 => valB_out (by omega)).symm
theorem withL_isP (vs : List Int) (k : Int) : IsP (withL vs k) := isP_pick _
theorem withL_len (vs : List Int) (k : Int) : (withL vs k).length ≤ 12 := pickTo_len _ _
theorem hasB_with {vs : List Int} {k a : Int} (h : 1 ≤ a ∧ a ≤ 12) : hasB (withL vs k) a = valB vs k a := hasB_pickTo h

/-! ### spec -/
/-- None of them is UnKnown. -/
def wholeB (vs : List Int) : Bool := !hasB vs 0
theorem whole_no {vs : List Int} {k : Nat} (hk : k < vs.length) (h : el vs k = 0) : wholeB vs = false := by unfold wholeB; rw [hasB_yes hk h]; rfl
theorem whole_yes {vs : List Int} (h : hasB vs 0 = false) : wholeB vs = true := by unfold wholeB; rw [h]; rfl
/-- Is a value told otherwise? -/
def badV (xs vs : List Int) (a : Int) : Bool := valB vs 1 a && !hasB xs a || valB vs 2 a && hasB xs a
def agreesB (xs vs : List Int) : Bool := decide (pickTo (badV xs vs) 12 = [])
theorem pick_nil {f : Int → Bool} {n : Nat} : pickTo f n = [] ↔ ∀ a : Int, 1 ≤ a → a ≤ n → f a = false := by
  constructor
  · intro h a h1 h2
    cases e : f a
    · rfl
    · have := (mem_pickTo f a n).2 ⟨h1, h2, e⟩
      rw [h] at this; cases this
  · intro h
    apply List.eq_nil_iff_forall_not_mem.2
    intro a ha
    have := (mem_pickTo f a n).1 ha
    rw [h a this.1 this.2.1] at this
    exact absurd this.2.2 Bool.false_ne_true
theorem agrees_no {xs vs : List Int} {j : Nat} (hj : j < 12) (h : badV xs vs ((j : Int) + 1) = true) : agreesB xs vs = false := by
  unfold agreesB
  rw [decide_eq_false_iff_not, pick_nil]
  intro hh
  rw [hh ((j : Int) + 1) (by omega) (by omega)] at h
  cases h
theorem badV_out {xs vs : List Int} {a : Int} (h : (vs.length : Int) < a) : badV xs vs a = false := by
  unfold badV; rw [valB_out h, valB_out h]; rfl
theorem badV_at {xs vs : List Int} {j : Nat} {b : Bool} (hj : j < vs.length) (hb : hasB xs ((j : Int) + 1) = b) : badV xs vs ((j : Int) + 1) = (decide (el vs j = 1) && !b || decide (el vs j = 2) && b) := by
  unfold badV; rw [valB_at hj, valB_at hj, hb]
theorem agrees_yes {xs vs : List Int} {j : Nat} (hj : j ≤ 12) (h : j = 12 ∨ vs.length ≤ j) (hp : pickTo (badV xs vs) j = []) : agreesB xs vs = true := by
  unfold agreesB
  rw [decide_eq_true_eq]
  rcases h with rfl | h
  · exact hp
  · rw [pickTo_stop hj fun a h1 h2 => badV_out (by omega)]; exact hp
theorem pick_nil_step {f : Int → Bool} {j : Nat} (hp : pickTo f j = []) (h : f ((j : Int) + 1) = false) : pickTo f (j + 1) = [] := by rw [pickTo_no h]; exact hp


/-! ### impl -/
theorem bx_cells {w : World} {g : Nat} {cs : List Value} {e : TypeId} (h : w.heap[g]? = some (.cells cs.toArray e (0, 0))) : Cells w g 0 cs := fun j v hv => by
  rw [Nat.zero_add, cell_of_row w g j _ _ _ h]; simpa using hv
theorem bx_set {w : World} {g i : Nat} {cs : List Value} {e : TypeId} (h : w.heap[g]? = some (.cells cs.toArray e (0, 0))) (v : Value) : (w.setCell ⟨g, i, none⟩ v).heap[g]? = some (.cells (cs.set i v).toArray e (0, 0)) := by
  rw [heap_setCell_same w g i _ _ v h]
  simp
theorem lessN_calls (a b : Nat) (w : World) (ha : a < 4096) (hb : b < 4096) :
    Calls Try.prog 150 #[.int .u16 (a : Int), .int .u16 (b : Int)] w fun e w' => e = .returned (.int .u16 ((a &&& (65535 - b) : Nat) : Int)) ∧ w = w' := by
  have hor := andNot_u16 a b ha hb
  go_enter Try.func150, Try.ntmps150
  go_wp2
  go_ret
  exact ⟨rfl, rfl⟩


end Go.Proofs.Ytjainjpcpnoikaa
