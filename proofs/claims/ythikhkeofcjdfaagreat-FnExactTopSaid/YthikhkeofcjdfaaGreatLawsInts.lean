import Derived.Test.YthikhkeofcjdfaaGreatBase
namespace Go.Proofs.YthikhkeofcjdfaaGreat
set_option linter.unusedVariables false
set_option linter.unusedSimpArgs false
open Go.RowKit
set_option maxRecDepth 100000

/-- Are two lists the same? -/
def eqB (xs ys : List Int) : Bool := decide (xs = ys)
theorem eqB_len {xs ys : List Int} (h : ¬ xs.length = ys.length) : eqB xs ys = false := by
 simp only [eqB, decide_eq_false_iff_not]; rintro rfl; exact h rfl
theorem eqB_step {xs ys : List Int} {k : Nat} (h1 : k < xs.length) (h2 : k < ys.length) (h0 : eqB (xs.take k) (ys.take k) = true) (h : el xs k = el ys k) : eqB (xs.take (k + 1)) (ys.take (k + 1)) = true := by
 simp only [eqB, decide_eq_true_eq] at h0 ⊢
 rw [take_el h1, take_el h2, h0, h]
theorem eqB_no {xs ys : List Int} {k : Nat} (h1 : k < xs.length) (h2 : k < ys.length) (h : ¬ el xs k = el ys k) : eqB xs ys = false := by
 simp only [eqB, decide_eq_false_iff_not]; rintro rfl; exact h rfl

set_option maxHeartbeats 400000 in
theorem toIntS_calls (a : Option Addr) (xs : List Int) (cap : Nat) (w : World) (h : Ints w a xs) (hlen : xs.length ≤ 1048576) :
  Calls Tryz.prog 31 #[.slice a xs.length cap] w fun e w' => ∃ v, e = .returned v ∧ OwnI w.heap.size w' v xs ∧ Below w.heap.size w w' := by
 obtain ⟨i0, hi, hz0, hz1, hz2⟩ := info_parts info_int
 have hfit := h.2.1
 by_cases hne : 0 < xs.length
 ·obtain ⟨b, off, rfl, hc⟩ := h.at hne
  clear h
  go_enter Tryz.func31, Tryz.ntmps31
  go_wp2_with (at_make; refine wpList_make_full _ rfl _ _ 26 rfl w.heap.size 3 i0 (.int .i64 0) 1 Tryz.underlying26 hi hz0 hz1 _ _ _ _ xs.length rfl rfl rfl rfl ?c1 ?c2 (Nat.le_refl _) ?_)
  case c1 => rw [hz2]; omega
  case c2 => unfold maxLen; omega
  intro w1 hown hgrow
  have hown' : w1.ownsRow w.heap.size 3 1 (.slice (some ⟨w.heap.size, 0, none⟩) xs.length xs.length) xs.length (rowI xs 0) := by
   rw [rowI_zero]; simpa [toList_madeCells_one] using hown
  have hb1 : Below w.heap.size w w1 := (Below.refl _ _).grown hgrow (Nat.le_refl _) (fun k hk => by cases hk)
  clear hown hgrow
  go_wp2
  go_loopw [4] (fun i wr => ∃ k : Nat, k ≤ xs.length ∧ i = .int .i64 k ∧ wr.ownsRow w.heap.size 3 1 (.slice (some ⟨w.heap.size, 0, none⟩) xs.length xs.length) xs.length (rowI xs k) ∧ Below w.heap.size w wr) (fun i _ => xs.length - (intOf i).toNat)
  case atStart => exact ⟨0, Nat.zero_le _, rfl, hown', hb1⟩
  case round =>
   obtain ⟨k, hk, rfl, ho, hb⟩ := hrel
   clear hown' hb1
   by_cases hlt : k < xs.length
   ·have hck := cell_kept hb (hc k hlt)
    have hcs := ho.cellAt k (by omega)
    rw [rowI_get hlt] at hcs
    have hfr := ho.frozenAt k
    have hst := ho.stored k (.int .i64 (el xs k))
    rw [rowI_set hlt] at hst
    obtain ⟨hst1, hst2⟩ := hst
    clear ho hc
    go_wp2
    go_roundw
    case rel => exact ⟨k + 1, by omega, by go_num, hst1, hb.setCell (Nat.le_refl _) _⟩
    case measure => simp [intOf]; omega
   ·have hkk : k = xs.length := by omega
    have HO : OwnI w.heap.size wr (.slice (some ⟨w.heap.size, 0, none⟩) xs.length xs.length) xs := ⟨by rw [hkk, rowI_all] at ho; exact ho, by omega, hfit⟩
    clear hkk
    go_wp2
    go_ret
    exact ⟨_, rfl, HO, hb⟩
 ·have : xs = [] := by cases xs <;> simp_all
  subst this
  clear h hne
  go_enter Tryz.func31, Tryz.ntmps31
  go_wp2_with (at_make; refine wpList_make_full _ rfl _ _ 26 rfl w.heap.size 3 i0 (.int .i64 0) 1 Tryz.underlying26 hi hz0 hz1 _ _ _ _ 0 rfl rfl rfl rfl ?c1 ?c2 (Nat.le_refl _) ?_)
  case c1 => omega
  case c2 => omega
  intro w1 hown hgrow
  have HO : OwnI w.heap.size w1 (.slice (some ⟨w.heap.size, 0, none⟩) 0 0) [] := ⟨by simpa [toList_madeCells_one] using hown, by simp, by simp⟩
  clear hown
  go_wp2
  refine wp_loop_rounds 1 ?_
  rw [rounds_succ]
  go_wp2
  go_ret
  exact ⟨_, rfl, HO, (Below.refl _ _).grown hgrow (Nat.le_refl _) (fun k hk => by cases hk)⟩

set_option maxHeartbeats 400000 in
theorem eqIntS_calls (a b : Option Addr) (xs ys : List Int) (ca cb : Nat) (w : World) (h : Ints w a xs) (h' : Ints w b ys) :
  Calls Tryz.prog 34 #[.slice a xs.length ca, .slice b ys.length cb] w fun e w' => e = .returned (.bool (eqB xs ys)) ∧ Below w.heap.size w w' := by
 by_cases hl : xs.length = ys.length
 ·have hlB : ((xs.length : Int) != (ys.length : Int)) = false := by simp; omega
  by_cases hne : 0 < xs.length
  ·obtain ⟨p, o, rfl, hc⟩ := h.at hne
   obtain ⟨p', o', rfl, hc'⟩ := h'.at (by omega)
   have hm := h.1
   have hm' := h'.1
   have hl1 : xs.length ≤ ys.length := by omega
   have HL := Lib.hid hl
   clear h h' hl
   go_enter Tryz.func34, Tryz.ntmps34
   go_wp2
   go_loopw [5] (fun i wr => ∃ k : Nat, k ≤ xs.length ∧ i = .int .i64 k ∧ eqB (xs.take k) (ys.take k) = true ∧ Below w.heap.size w wr) (fun i _ => xs.length - (intOf i).toNat)
   case atStart => exact ⟨0, Nat.zero_le _, rfl, by simp [eqB], Below.refl _ _⟩
   case round =>
    obtain ⟨k, hk, rfl, h0, hb⟩ := hrel
    have H0 := Lib.hid h0; clear h0
    by_cases hlt : k < xs.length
    ·have hck := cell_kept hb (hc k hlt)
     have hck' := cell_kept hb (hc' k (by omega))
     have hk2 : k < ys.length := by omega
     clear hc hc'
     by_cases hx : el xs k = el ys k
     ·have hy := Lib.hid (eqB_step hlt hk2 H0.out hx)
      have hbx : (el xs k != el ys k) = false := by simpa using hx
      clear hx
      go_wp2
      go_quiet (fail)
      go_wp2
      go_roundw
      case rel => exact ⟨k + 1, by omega, by go_num, hy.out, by first | exact hb.drew | exact below_drewN hb _⟩
      case measure => simp [intOf]; omega
     ·have hy := Lib.hid (eqB_no hlt hk2 hx)
      have hbx : (el xs k != el ys k) = true := by simpa using hx
      clear hx
      go_wp2
      go_quiet (fail)
      go_wp2
      go_ret
      exact ⟨ret_bool hy.out.symm, by first | exact hb.drew | exact below_drewN hb _⟩
    ·have hk' : eqB xs ys = true := by have := H0.out; rwa [List.take_of_length_le (by omega), List.take_of_length_le (by have := HL.out; omega)] at this
     have HK := Lib.hid hk'; clear hk'
     go_wp2
     go_ret
     exact ⟨ret_bool HK.out.symm, hb⟩
  ·have : xs = [] := by cases xs <;> simp_all
   subst this
   have : ys = [] := by cases ys <;> simp_all
   subst this
   clear h h' hne
   go_enter Tryz.func34, Tryz.ntmps34
   go_wp2
   refine wp_loop_rounds 1 ?_
   rw [rounds_succ]
   go_wp2
   go_ret
   exact ⟨rfl, Below.refl _ _⟩
 ·have hlB : ((xs.length : Int) != (ys.length : Int)) = true := by simp; omega
  have HN := Lib.hid (eqB_len hl)
  clear h h'
  go_enter Tryz.func34, Tryz.ntmps34
  go_wp2
  go_ret
  exact ⟨ret_bool HN.out.symm, Below.refl _ _⟩


set_option maxHeartbeats 400000 in
theorem same_calls (a b : Option Addr) (xs ys : List Int) (ca cb : Nat) (w : World) (h : Ints w a xs) (h' : Ints w b ys) :
  Calls Tryz.prog 77 #[.slice a xs.length ca, .slice b ys.length cb] w fun e w' => e = .returned (.bool (eqB xs ys)) ∧ Below w.heap.size w w' := by
 by_cases hl : xs.length = ys.length
 ·have hlB : ((xs.length : Int) != (ys.length : Int)) = false := by simp; omega
  by_cases hne : 0 < xs.length
  ·obtain ⟨p, o, rfl, hc⟩ := h.at hne
   obtain ⟨p', o', rfl, hc'⟩ := h'.at (by omega)
   have hm := h.1
   have hm' := h'.1
   have hl1 : xs.length ≤ ys.length := by omega
   have HL := Lib.hid hl
   clear h h' hl
   go_enter Tryz.func77, Tryz.ntmps77
   go_wp2
   go_loopw [5] (fun i wr => ∃ k : Nat, k ≤ xs.length ∧ i = .int .i64 k ∧ eqB (xs.take k) (ys.take k) = true ∧ Below w.heap.size w wr) (fun i _ => xs.length - (intOf i).toNat)
   case atStart => exact ⟨0, Nat.zero_le _, rfl, by simp [eqB], Below.refl _ _⟩
   case round =>
    obtain ⟨k, hk, rfl, h0, hb⟩ := hrel
    have H0 := Lib.hid h0; clear h0
    by_cases hlt : k < xs.length
    ·have hck := cell_kept hb (hc k hlt)
     have hck' := cell_kept hb (hc' k (by omega))
     have hk2 : k < ys.length := by omega
     clear hc hc'
     by_cases hx : el xs k = el ys k
     ·have hy := Lib.hid (eqB_step hlt hk2 H0.out hx)
      have hbx : (el xs k != el ys k) = false := by simpa using hx
      clear hx
      go_wp2
      go_quiet (fail)
      go_wp2
      go_roundw
      case rel => exact ⟨k + 1, by omega, by go_num, hy.out, by first | exact hb.drew | exact below_drewN hb _⟩
      case measure => simp [intOf]; omega
     ·have hy := Lib.hid (eqB_no hlt hk2 hx)
      have hbx : (el xs k != el ys k) = true := by simpa using hx
      clear hx
      go_wp2
      go_quiet (fail)
      go_wp2
      go_ret
      exact ⟨ret_bool hy.out.symm, by first | exact hb.drew | exact below_drewN hb _⟩
    ·have hk' : eqB xs ys = true := by have := H0.out; rwa [List.take_of_length_le (by omega), List.take_of_length_le (by have := HL.out; omega)] at this
     have HK := Lib.hid hk'; clear hk'
     go_wp2
     go_ret
     exact ⟨ret_bool HK.out.symm, hb⟩
  ·have : xs = [] := by cases xs <;> simp_all
   subst this
   have : ys = [] := by cases ys <;> simp_all
   subst this
   clear h h' hne
   go_enter Tryz.func77, Tryz.ntmps77
   go_wp2
   refine wp_loop_rounds 1 ?_
   rw [rounds_succ]
   go_wp2
   go_ret
   exact ⟨rfl, Below.refl _ _⟩
 ·have hlB : ((xs.length : Int) != (ys.length : Int)) = true := by simp; omega
  have HN := Lib.hid (eqB_len hl)
  clear h h'
  go_enter Tryz.func77, Tryz.ntmps77
  go_wp2
  go_ret
  exact ⟨ret_bool HN.out.symm, Below.refl _ _⟩



theorem eqB_self (xs : List Int) : eqB xs xs = true := by simp [eqB]

/-- k, k + 1, ..: n numbers. -/
def seqI (k : Int) : Nat → List Int
 | 0 => []
 | n + 1 => seqI k n ++ [k + n]
theorem seqI_len (k : Int) : ∀ n, (seqI k n).length = n
 | 0 => rfl
 | n + 1 => by simp [seqI, seqI_len k n]
theorem seqI_el (k : Int) {i : Nat} : ∀ {n : Nat}, i < n → el (seqI k n) i = k + i
 | n + 1, h => by
  unfold el
  rw [List.getD_eq_getElem?_getD]
  by_cases e : i < n
  ·have := seqI_el k e
   unfold el at this
   rw [List.getD_eq_getElem?_getD] at this
   rw [seqI, List.getElem?_append_left (by rw [seqI_len]; exact e), this]
  ·have : i = n := by omega
   subst this
   rw [seqI, List.getElem?_append_right (by rw [seqI_len]; exact Nat.le_refl _), seqI_len]
   simp

/-- A row that is being marked. -/
def rowM (xs : List Int) (k : Int) (i : Nat) : List Value := (seqI k i).map (Value.int .i64) ++ (xs.drop i).map (Value.int .i64)
theorem rowM_zero (xs : List Int) (k : Int) : rowM xs k 0 = xs.map (Value.int .i64) := by simp [rowM, seqI]
theorem rowM_all (xs : List Int) (k : Int) : rowM xs k xs.length = (seqI k xs.length).map (Value.int .i64) := by simp [rowM]
theorem rowM_get {xs : List Int} (k : Int) {i : Nat} (hi : i < xs.length) : (rowM xs k i)[i]? = some (.int .i64 (el xs i)) := by
 unfold rowM
 have hl : ((seqI k i).map (Value.int .i64)).length = i := by simp [seqI_len]
 rw [List.getElem?_append_right (by omega), hl, Nat.sub_self, List.drop_eq_getElem_cons hi, el_eq hi]
 rfl
theorem rowM_set {xs : List Int} (k : Int) {i : Nat} (hi : i < xs.length) : (rowM xs k i).set i (.int .i64 (k + i)) = rowM xs k (i + 1) := by
 unfold rowM
 have hl : ((seqI k i).map (Value.int .i64)).length = i := by simp [seqI_len]
 rw [List.set_append_right _ _ (by omega), hl, Nat.sub_self, List.drop_eq_getElem_cons hi, List.map_cons, List.set_cons_zero, seqI, List.map_append, List.append_assoc]
 rfl

theorem seqI_fits {k : Int} {n : Nat} (h0 : 0 ≤ k) (h1 : k + n ≤ 1152921504606846976) : ∀ x ∈ seqI k n, Fits x := by
 intro x hx
 have : ∀ m, x ∈ seqI k m → k ≤ x ∧ x ≤ k + m := by
  intro m
  induction m with
  | zero => intro h; cases h
  | succ m ih =>
   intro h
   rcases List.mem_append.1 h with h | h
   ·have := ih h; omega
   ·simp at h; omega
 have := this n hx
 exact ⟨by omega, by omega⟩

set_option maxHeartbeats 1000000 in
theorem markIntS_calls (B : Nat) (p : Option Addr) (n c : Nat) (xs : List Int) (k : Int) (w : World) (h : OwnI B w (.slice p n c) xs) (h0 : 0 ≤ k) (h1 : k + xs.length ≤ 1152921504606846976) :
  Calls Tryz.prog 36 #[.slice p n c, .int .i64 k] w fun e w' => e = .returned (.int .i64 (k + xs.length)) ∧ OwnI B w' (.slice p n c) (seqI k xs.length) ∧ w.grownBy w' (Value.slice p n c).ownBlock ∧ ∀ j, (Value.slice p n c).ownBlock = some j → B ≤ j := by
 have hlt : ∀ j, (Value.slice p n c).ownBlock = some j → B ≤ j := fun j hj => (h.lt hj).1
 have hn : n = xs.length := by obtain ⟨_, _, hv, _⟩ := h.open; cases hv; rfl
 subst hn
 rcases h.1.2 with ⟨hv, hn⟩ | ⟨g, cap, cur, hv, hg, _⟩
 ·have : xs = [] := List.eq_nil_of_length_eq_zero hn
  subst this
  cases hv
  clear hn
  go_enter Tryz.func36, Tryz.ntmps36
  go_wp2
  refine wp_loop_rounds 1 ?_
  rw [rounds_succ]
  go_wp2
  go_ret
  exact ⟨ret_int (by simp), h, ⟨rfl, rfl, rfl, Nat.le_refl _, fun _ _ _ => rfl⟩, hlt⟩
 ·cases hv
  have ho := h.1
  rw [← rowM_zero xs k] at ho
  have hb := h.2.1
  have hfit := seqI_fits h0 h1
  clear h
  go_enter Tryz.func36, Tryz.ntmps36
  go_wp2
  go_loopw [1, 5] (fun q i wr => ∃ j : Nat, j ≤ xs.length ∧ i = .int .i64 j ∧ q = .int .i64 (k + j) ∧ wr.ownsRow B 3 1 (.slice (some ⟨g, 0, none⟩) xs.length c) xs.length (rowM xs k j) ∧ w.grownBy wr (some g)) (fun _ i _ => xs.length - (intOf i).toNat)
  case atStart => exact ⟨0, Nat.zero_le _, rfl, by simp, ho, ⟨rfl, rfl, rfl, Nat.le_refl _, fun _ _ _ => rfl⟩⟩
  case round =>
   obtain ⟨j, hj, rfl, rfl, hr, hgr⟩ := hrel
   clear ho
   by_cases hlt' : j < xs.length
   ·have hcs := hr.cellAt j (by omega)
    rw [rowM_get k hlt'] at hcs
    have hfr := hr.frozenAt j
    have hst := hr.stored j (.int .i64 (k + j))
    rw [rowM_set k hlt'] at hst
    obtain ⟨hst1, hst2⟩ := hst
    clear hr
    go_wp2
    go_roundw
    case rel => exact ⟨j + 1, by omega, by go_num, by go_num, hst1, ⟨hst2.os.trans hgr.os, hst2.tape.trans hgr.tape, hst2.output.trans hgr.output, Nat.le_trans hgr.size hst2.size, fun i hi hne => (hst2.block i (Nat.lt_of_lt_of_le hi hgr.size) hne).trans (hgr.block i hi hne)⟩⟩
    case measure => simp [intOf]; omega
   ·have hjj : j = xs.length := by omega
    have HO : OwnI B wr (.slice (some ⟨g, 0, none⟩) xs.length c) (seqI k xs.length) := by
     rw [hjj, rowM_all] at hr
     refine ⟨?_, by rw [seqI_len]; exact hb, hfit⟩
     rw [seqI_len]; exact hr
    have hjn := Lib.hid hjj
    clear hjj hr
    go_wp2
    go_ret
    exact ⟨ret_int (by rw [hjn.out]), HO, hgr, hlt⟩

set_option maxHeartbeats 400000 in
theorem heldIntS_calls (a : Option Addr) (n cap : Nat) (k : Int) (w : World) (h : Ints w a (seqI k n)) (h0 : 0 ≤ k) (h1 : k + n ≤ 1152921504606846976) :
  Calls Tryz.prog 123 #[.slice a n cap, .int .i64 k] w fun e w' => e = .returned (.int .i64 (k + n)) ∧ w = w' := by
 by_cases hne : 0 < n
 ·obtain ⟨b, off, rfl, hc⟩ := h.at (by rw [seqI_len]; exact hne)
  rw [seqI_len] at hc
  clear h
  go_enter Tryz.func123, Tryz.ntmps123
  go_wp2
  go_loop [1, 5] (fun q i => ∃ j : Nat, j ≤ n ∧ i = .int .i64 j ∧ q = .int .i64 (k + j)) (fun _ i => n - (intOf i).toNat)
  case atStart => exact ⟨0, Nat.zero_le _, rfl, by simp⟩
  case round =>
   obtain ⟨j, hj, rfl, rfl⟩ := hrel
   by_cases hlt : j < n
   ·have hcj := hc j hlt
    rw [seqI_el k hlt] at hcj
    clear hc
    have hbx : (k + (j : Int) != k + (j : Int)) = false := by simp
    go_wp2
    go_round
    case rel => exact ⟨j + 1, by omega, by go_num, by go_num⟩
    case measure => simp [intOf]; omega
   ·have hjn : j = n := by omega
    have hjd := Lib.hid hjn
    clear hjn
    go_wp2
    go_ret
    exact ⟨ret_int (by rw [hjd.out]), rfl⟩
 ·have : n = 0 := by omega
  subst this
  clear h hne
  go_enter Tryz.func123, Tryz.ntmps123
  go_wp2
  refine wp_loop_rounds 1 ?_
  rw [rounds_succ]
  go_wp2
  go_ret
  exact ⟨ret_int (by simp), rfl⟩

end Go.Proofs.YthikhkeofcjdfaaGreat
