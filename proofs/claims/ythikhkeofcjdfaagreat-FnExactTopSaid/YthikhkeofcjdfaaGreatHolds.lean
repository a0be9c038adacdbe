/-
 Literals: what spec.Holds and impl.Holds answer. No condition of its own.
-/
import Derived.Test.YthikhkeofcjdfaaGreatSetsPure
import Derived.Test.YthikhkeofcjdfaaGreatSetOk
namespace Go.Proofs.YthikhkeofcjdfaaGreat
set_option linter.unusedVariables false
set_option linter.unusedSimpArgs false
open Go.RowKit
set_option maxRecDepth 100000

/-- What a literal says of a list of atoms. -/
def holdsB (xs : List Int) (l : Int) : Bool :=
 if 1 ≤ l ∧ l ≤ 12 then hasB xs l else if -12 ≤ l ∧ l ≤ -1 then !hasB xs (-l) else false
theorem holdsB_pos {xs : List Int} {l : Int} (h : 1 ≤ l ∧ l ≤ 12) : holdsB xs l = hasB xs l := if_pos h
theorem holdsB_neg {xs : List Int} {l : Int} (h : -12 ≤ l ∧ l ≤ -1) : holdsB xs l = !hasB xs (-l) := by
 unfold holdsB; rw [if_neg (by omega), if_pos h]
theorem holdsB_out {xs : List Int} {l : Int} (h1 : ¬ (1 ≤ l ∧ l ≤ 12)) (h2 : ¬ (-12 ≤ l ∧ l ≤ -1)) : holdsB xs l = false := by
 unfold holdsB; rw [if_neg h1, if_neg h2]

set_option maxHeartbeats 400000 in
theorem specHolds_calls (a : Option Addr) (xs : List Int) (cap : Nat) (l : Int) (w : World) (h : Ints w a xs) (hl : Fits l) :
  Calls Tryz.prog 126 #[.slice a xs.length cap, .int .i64 l] w fun e w' => e = .returned (.bool (holdsB xs l)) ∧ w = w' := by
 unfold Fits at hl
 by_cases h1 : 1 ≤ l ∧ l ≤ 12
 ·have hv := Lib.hid (holdsB_pos (xs := xs) h1)
  have hb1 := btwB_yes h1.1 h1.2
  clear h1
  go_enter Tryz.func126, Tryz.ntmps126
  go_wp2_with (first | (go_at_call 66; refine (between_calls _ _ _ _).mono ?_; rintro e w' ⟨rfl, rfl⟩) | (go_at_call 88; refine (SetHas_calls _ _ _ _ _ h).mono ?_; rintro e w' ⟨rfl, rfl⟩))
  go_ret
  exact ⟨ret_bool hv.out.symm, rfl⟩
 ·have hb1 := btwB_no h1
  by_cases h2 : -12 ≤ l ∧ l ≤ -1
  ·have hv := Lib.hid (holdsB_neg (xs := xs) h2)
   have hb2 := btwB_yes h2.1 h2.2
   obtain ⟨h3, h4⟩ := h2
   clear h1
   go_enter Tryz.func126, Tryz.ntmps126
   go_wp2_with (first | (go_at_call 66; refine (between_calls _ _ _ _).mono ?_; rintro e w' ⟨rfl, rfl⟩) | (go_at_call 88; refine (SetHas_calls _ _ _ _ _ h).mono ?_; rintro e w' ⟨rfl, rfl⟩))
   go_ret
   exact ⟨ret_bool hv.out.symm, rfl⟩
  ·have hv := Lib.hid (holdsB_out (xs := xs) h1 h2)
   have hb2 := btwB_no h2
   clear h1 h2
   go_enter Tryz.func126, Tryz.ntmps126
   go_wp2_with (first | (go_at_call 66; refine (between_calls _ _ _ _).mono ?_; rintro e w' ⟨rfl, rfl⟩) | (go_at_call 88; refine (SetHas_calls _ _ _ _ _ h).mono ?_; rintro e w' ⟨rfl, rfl⟩))
   go_ret
   exact ⟨ret_bool hv.out.symm, rfl⟩

/-- The atom of a literal, as the code has it: below 0 for the least int. -/
def atomI (l : Int) : Int := if l = -9223372036854775808 then l else if l < 0 then -l else l
theorem atomI_fits {l : Int} (h : Fits l) : Fits (atomI l) := by
 unfold Fits at *; unfold atomI; split
 ·omega
 ·split <;> omega

theorem atom_calls (l : Int) (w : World) (hl : Fits l) :
  Calls Tryz.prog 261 #[.int .i64 l] w fun e w' => e = .returned (.int .i64 (atomI l)) ∧ w = w' := by
 unfold Fits at hl
 obtain ⟨hl1, hl2⟩ := hl
 by_cases h0 : l = -9223372036854775808
 ·have hv := Lib.hid (show atomI l = l from if_pos h0)
  have hw := Lib.hid (show wrap64 (-l) = l by rw [h0]; kernel_rfl)
  have hneg : l < 0 := by omega
  clear h0
  go_enter Tryz.func261, Tryz.ntmps261
  go_wp2
  go_ret
  exact ⟨ret_int (by rw [hw.out, hv.out]), rfl⟩
 ·by_cases h1 : l < 0
  ·have hv := Lib.hid (show atomI l = -l from by unfold atomI; rw [if_neg h0, if_pos h1])
   have h2 : -9223372036854775807 ≤ l := by omega
   clear h0
   go_enter Tryz.func261, Tryz.ntmps261
   go_wp2
   go_ret
   exact ⟨ret_int hv.out.symm, rfl⟩
  ·have hv := Lib.hid (show atomI l = l from by unfold atomI; rw [if_neg h0, if_neg h1])
   have h2 : 0 ≤ l := by omega
   clear h0 h1
   go_enter Tryz.func261, Tryz.ntmps261
   go_wp2
   go_ret
   exact ⟨ret_int hv.out.symm, rfl⟩

theorem within_calls (n lo hi : Int) (w : World) :
  Calls Tryz.prog 147 #[.int .i64 n, .int .i64 lo, .int .i64 hi] w fun e w' => e = .returned (.bool (btwB n lo hi)) ∧ w = w' := by
 by_cases h1 : lo ≤ n
 ·by_cases h2 : n ≤ hi
  ·have hb := Lib.hid (btwB_yes h1 h2)
   go_enter Tryz.func147, Tryz.ntmps147
   go_wp2
   go_ret
   exact ⟨ret_bool hb.out.symm, rfl⟩
  ·have hb := Lib.hid (btwB_no (lo := lo) fun h => h2 h.2)
   have h2' : decide (n ≤ hi) = false := decide_eq_false h2
   clear h2
   go_enter Tryz.func147, Tryz.ntmps147
   go_wp2
   go_ret
   exact ⟨ret_bool hb.out.symm, rfl⟩
 ·have hb := Lib.hid (btwB_no (hi := hi) fun h => h1 h.1)
  have h1' : n < lo := by omega
  clear h1
  go_enter Tryz.func147, Tryz.ntmps147
  go_wp2
  go_ret
  exact ⟨ret_bool hb.out.symm, rfl⟩

theorem upTo_calls (l n : Int) (w : World) (hl : Fits l) :
  Calls Tryz.prog 227 #[.int .i64 l, .int .i64 n] w fun e w' => e = .returned (.bool (btwB (atomI l) 1 n)) ∧ w = w' := by
 go_enter Tryz.func227, Tryz.ntmps227
 go_wp2_with (first | (go_at_call 147; refine (within_calls _ _ _ _).mono ?_; rintro e w' ⟨rfl, rfl⟩) | (go_at_call 261; refine (atom_calls _ _ hl).mono ?_; rintro e w' ⟨rfl, rfl⟩))
 go_ret
 exact ⟨rfl, rfl⟩

/-- What a literal says of a set that is told by its number. -/
def litM (m : Nat) (l : Int) : Bool := btwB (atomI l) 1 12 && (hasM m (atomI l) == decide (0 < l))
theorem litM_no {m : Nat} {l : Int} (h : btwB (atomI l) 1 12 = false) : litM m l = false := by unfold litM; rw [h]; rfl
theorem litM_yes {m : Nat} {l : Int} (h : btwB (atomI l) 1 12 = true) : litM m l = (hasM m (atomI l) == decide (0 < l)) := by unfold litM; rw [h]; rfl

theorem litHolds_calls (m : Nat) (l : Int) (w : World) (hm : m < 4096) (hl : Fits l) :
  Calls Tryz.prog 262 #[.int .i64 l, .int .u16 (m : Int)] w fun e w' => e = .returned (.bool (litM m l)) ∧ w = w' := by
 have hF := atomI_fits hl
 cases hb : btwB (atomI l) 1 12
 ·have hv := Lib.hid (litM_no (m := m) hb)
  go_enter Tryz.func262, Tryz.ntmps262
  go_wp2_with (first | (go_at_call 227; refine (upTo_calls _ _ _ hl).mono ?_; rintro e w' ⟨rfl, rfl⟩) | (go_at_call 261; refine (atom_calls _ _ hl).mono ?_; rintro e w' ⟨rfl, rfl⟩) | (go_at_call 174; refine (has_calls _ _ _ hm hF).mono ?_; rintro e w' ⟨rfl, rfl⟩))
  go_ret
  exact ⟨ret_bool hv.out.symm, rfl⟩
 ·have hv := Lib.hid (litM_yes (m := m) hb)
  by_cases h0 : 0 < l
  ·have hd : decide (0 < l) = true := decide_eq_true h0
   have hD := Lib.hid hd
   clear hd
   go_enter Tryz.func262, Tryz.ntmps262
   go_wp2_with (first | (go_at_call 227; refine (upTo_calls _ _ _ hl).mono ?_; rintro e w' ⟨rfl, rfl⟩) | (go_at_call 261; refine (atom_calls _ _ hl).mono ?_; rintro e w' ⟨rfl, rfl⟩) | (go_at_call 174; refine (has_calls _ _ _ hm hF).mono ?_; rintro e w' ⟨rfl, rfl⟩))
   go_ret
   exact ⟨ret_bool (by rw [hv.out, hD.out]; first | done | simp), rfl⟩
  ·have hd : decide (0 < l) = false := decide_eq_false h0
   have hD := Lib.hid hd
   have h1 : l ≤ 0 := by omega
   clear hd h0
   go_enter Tryz.func262, Tryz.ntmps262
   go_wp2_with (first | (go_at_call 227; refine (upTo_calls _ _ _ hl).mono ?_; rintro e w' ⟨rfl, rfl⟩) | (go_at_call 261; refine (atom_calls _ _ hl).mono ?_; rintro e w' ⟨rfl, rfl⟩) | (go_at_call 174; refine (has_calls _ _ _ hm hF).mono ?_; rintro e w' ⟨rfl, rfl⟩))
   go_ret
   exact ⟨ret_bool (by rw [hv.out, hD.out]; first | done | simp), rfl⟩

theorem litM_same (xs : List Int) (l : Int) (hl : Fits l) : litM (maskOf xs) l = holdsB xs l := by
 unfold Fits at hl
 by_cases h1 : 1 ≤ l ∧ l ≤ 12
 ·have ha : atomI l = l := by unfold atomI; rw [if_neg (by omega), if_neg (by omega)]
  rw [holdsB_pos h1, litM_yes (by rw [ha]; exact btwB_yes h1.1 h1.2), ha, decide_eq_true (show 0 < l by omega), hasM_maskOf _ _ h1]
  simp
 ·by_cases h2 : -12 ≤ l ∧ l ≤ -1
  ·have ha : atomI l = -l := by unfold atomI; rw [if_neg (by omega), if_pos (by omega)]
   rw [holdsB_neg h2, litM_yes (by rw [ha]; exact btwB_yes (by omega) (by omega)), ha, decide_eq_false (show ¬ 0 < l by omega), hasM_maskOf _ _ ⟨by omega, by omega⟩]
   simp
  ·rw [holdsB_out h1 h2]
   apply litM_no
   apply btwB_no
   unfold atomI
   split
   ·omega
   ·split <;> omega

end Go.Proofs.YthikhkeofcjdfaaGreat
