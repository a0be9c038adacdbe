import Derived.Test.YthfbnalgnnjbbaaGreatBase
namespace Go.Proofs.YthfbnalgnnjbbaaGreat
set_option linter.unusedVariables false
set_option linter.unusedSimpArgs false
open Go.RowKit
set_option maxRecDepth 100000

/-- Are two lists the same? -/
def eqB (xs ys : List Int) : Bool := decide (xs = ys)
theorem eqB_len {xs ys : List Int} (h : ¬ xs.length = ys.length) : eqB xs ys = false := by
 simp only [eqB, decide_eq_false_iff_not]; rintro rfl; exact h rfl
theorem eqB_step {xs ys : List Int} {k : Nat} (h1 : k < xs.length) (h2 : k < ys.length) (h0 : eqB (xs.take k) (ys.take k) = true) (h : el xs k = el ys k) : eqB (xs.take (k + 1)) (ys.take (k + 1)) = true := by
 simp only [eqB, decide_eq_true_eq] at h0 ⊢
 rw [take_el h1, take_el h2, h0, h]
theorem eqB_no {xs ys : List Int} {k : Nat} (h1 : k < xs.length) (h2 : k < ys.length) (h : ¬ el xs k = el ys k) : eqB xs ys = false := by
 simp only [eqB, decide_eq_false_iff_not]; rintro rfl; exact h rfl




set_option maxHeartbeats 400000 in
theorem same_calls (a b : Option Addr) (xs ys : List Int) (ca cb : Nat) (w : World) (h : Ints w a xs) (h' : Ints w b ys) :
  Calls Tryz.prog 18 #[.slice a xs.length ca, .slice b ys.length cb] w fun e w' => e = .returned (.bool (eqB xs ys)) ∧ Below w.heap.size w w' := by
 by_cases hl : xs.length = ys.length
 ·have hlB : ((xs.length : Int) != (ys.length : Int)) = false := by simp; omega
  by_cases hne : 0 < xs.length
  ·obtain ⟨p, o, rfl, hc⟩ := h.at hne
   obtain ⟨p', o', rfl, hc'⟩ := h'.at (by omega)
   have hm := h.1
   have hm' := h'.1
   have hl1 : xs.length ≤ ys.length := by omega
   have HL := Lib.hid hl
   clear h h' hl
   go_enter Tryz.func18, Tryz.ntmps18
   go_wp2
   go_loopw [5] (fun i wr => ∃ k : Nat, k ≤ xs.length ∧ i = .int .i64 k ∧ eqB (xs.take k) (ys.take k) = true ∧ Below w.heap.size w wr) (fun i _ => xs.length - (intOf i).toNat)
   case atStart => exact ⟨0, Nat.zero_le _, rfl, by simp [eqB], Below.refl _ _⟩
   case round =>
    obtain ⟨k, hk, rfl, h0, hb⟩ := hrel
    have H0 := Lib.hid h0; clear h0
    by_cases hlt : k < xs.length
    ·have hck := cell_kept hb (hc k hlt)
     have hck' := cell_kept hb (hc' k (by omega))
     have hk2 : k < ys.length := by omega
     clear hc hc'
     by_cases hx : el xs k = el ys k
     ·have hy := Lib.hid (eqB_step hlt hk2 H0.out hx)
      have hbx : (el xs k != el ys k) = false := by simpa using hx
      clear hx
      go_wp2
      go_quiet (fail)
      go_wp2
      go_roundw
      case rel => exact ⟨k + 1, by omega, by go_num, hy.out, by first | exact hb.drew | exact below_drewN hb _⟩
      case measure => simp [intOf]; omega
     ·have hy := Lib.hid (eqB_no hlt hk2 hx)
      have hbx : (el xs k != el ys k) = true := by simpa using hx
      clear hx
      go_wp2
      go_quiet (fail)
      go_wp2
      go_ret
      exact ⟨ret_bool hy.out.symm, by first | exact hb.drew | exact below_drewN hb _⟩
    ·have hk' : eqB xs ys = true := by have := H0.out; rwa [List.take_of_length_le (by omega), List.take_of_length_le (by have := HL.out; omega)] at this
     have HK := Lib.hid hk'; clear hk'
     go_wp2
     go_ret
     exact ⟨ret_bool HK.out.symm, hb⟩
  ·have : xs = [] := by cases xs <;> simp_all
   subst this
   have : ys = [] := by cases ys <;> simp_all
   subst this
   clear h h' hne
   go_enter Tryz.func18, Tryz.ntmps18
   go_wp2
   refine wp_loop_rounds 1 ?_
   rw [rounds_succ]
   go_wp2
   go_ret
   exact ⟨rfl, Below.refl _ _⟩
 ·have hlB : ((xs.length : Int) != (ys.length : Int)) = true := by simp; omega
  have HN := Lib.hid (eqB_len hl)
  clear h h'
  go_enter Tryz.func18, Tryz.ntmps18
  go_wp2
  go_ret
  exact ⟨ret_bool HN.out.symm, Below.refl _ _⟩



theorem eqB_self (xs : List Int) : eqB xs xs = true := by simp [eqB]

/-- k, k + 1, ..: n numbers. -/
def seqI (k : Int) : Nat → List Int
 | 0 => []
 | n + 1 => seqI k n ++ [k + n]
theorem seqI_len (k : Int) : ∀ n, (seqI k n).length = n
 | 0 => rfl
 | n + 1 => by simp [seqI, seqI_len k n]
theorem seqI_el (k : Int) {i : Nat} : ∀ {n : Nat}, i < n → el (seqI k n) i = k + i
 | n + 1, h => by
  unfold el
  rw [List.getD_eq_getElem?_getD]
  by_cases e : i < n
  ·have := seqI_el k e
   unfold el at this
   rw [List.getD_eq_getElem?_getD] at this
   rw [seqI, List.getElem?_append_left (by rw [seqI_len]; exact e), this]
  ·have : i = n := by omega
   subst this
   rw [seqI, List.getElem?_append_right (by rw [seqI_len]; exact Nat.le_refl _), seqI_len]
   simp

/-- A row that is being marked. -/
def rowM (xs : List Int) (k : Int) (i : Nat) : List Value := (seqI k i).map (Value.int .i64) ++ (xs.drop i).map (Value.int .i64)




end Go.Proofs.YthfbnalgnnjbbaaGreat
