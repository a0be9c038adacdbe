/-
 The least set: what spec answers. No condition of its own.
-/
import Derived.Test.YthikhkeofcjdfaaGreatLeastD
import Derived.Test.YthikhkeofcjdfaaGreatLawsInts
import Derived.Test.YthikhkeofcjdfaaGreatAppend
namespace Go.Proofs.YthikhkeofcjdfaaGreat
set_option linter.unusedVariables false
set_option linter.unusedSimpArgs false
open Go.RowKit
set_option maxRecDepth 100000

set_option maxHeartbeats 400000 in
theorem l01Same_calls (a b : Option Addr) (xs ys : List Int) (ca cb : Nat) (w : World) (h : Ints w a xs) (h' : Ints w b ys) :
  Calls Tryz.prog 162 #[.slice a xs.length ca, .slice b ys.length cb] w fun e w' => e = .returned (.bool (eqB xs ys)) ∧ Below w.heap.size w w' := by
 by_cases hl : xs.length = ys.length
 ·have hlB : ((xs.length : Int) != (ys.length : Int)) = false := by simp; omega
  by_cases hne : 0 < xs.length
  ·obtain ⟨p, o, rfl, hc⟩ := h.at hne
   obtain ⟨p', o', rfl, hc'⟩ := h'.at (by omega)
   have hm := h.1
   have hm' := h'.1
   have hl1 : xs.length ≤ ys.length := by omega
   have HL := Lib.hid hl
   clear h h' hl
   go_enter Tryz.func162, Tryz.ntmps162
   go_wp2
   go_loopw [5] (fun i wr => ∃ k : Nat, k ≤ xs.length ∧ i = .int .i64 k ∧ eqB (xs.take k) (ys.take k) = true ∧ Below w.heap.size w wr) (fun i _ => xs.length - (intOf i).toNat)
   case atStart => exact ⟨0, Nat.zero_le _, rfl, by simp [eqB], Below.refl _ _⟩
   case round =>
    obtain ⟨k, hk, rfl, h0, hb⟩ := hrel
    have H0 := Lib.hid h0; clear h0
    by_cases hlt : k < xs.length
    ·have hck := cell_kept hb (hc k hlt)
     have hck' := cell_kept hb (hc' k (by omega))
     have hk2 : k < ys.length := by omega
     clear hc hc'
     by_cases hx : el xs k = el ys k
     ·have hy := Lib.hid (eqB_step hlt hk2 H0.out hx)
      have hbx : (el xs k != el ys k) = false := by simpa using hx
      clear hx
      go_wp2
      go_quiet (fail)
      go_wp2
      go_roundw
      case rel => exact ⟨k + 1, by omega, by go_num, hy.out, by first | exact hb.drew | exact below_drewN hb _⟩
      case measure => simp [intOf]; omega
     ·have hy := Lib.hid (eqB_no hlt hk2 hx)
      have hbx : (el xs k != el ys k) = true := by simpa using hx
      clear hx
      go_wp2
      go_quiet (fail)
      go_wp2
      go_ret
      exact ⟨ret_bool hy.out.symm, by first | exact hb.drew | exact below_drewN hb _⟩
    ·have hk' : eqB xs ys = true := by have := H0.out; rwa [List.take_of_length_le (by omega), List.take_of_length_le (by have := HL.out; omega)] at this
     have HK := Lib.hid hk'; clear hk'
     go_wp2
     go_ret
     exact ⟨ret_bool HK.out.symm, hb⟩
  ·have : xs = [] := by cases xs <;> simp_all
   subst this
   have : ys = [] := by cases ys <;> simp_all
   subst this
   clear h h' hne
   go_enter Tryz.func162, Tryz.ntmps162
   go_wp2
   refine wp_loop_rounds 1 ?_
   rw [rounds_succ]
   go_wp2
   go_ret
   exact ⟨rfl, Below.refl _ _⟩
 ·have hlB : ((xs.length : Int) != (ys.length : Int)) = true := by simp; omega
  have HN := Lib.hid (eqB_len hl)
  clear h h'
  go_enter Tryz.func162, Tryz.ntmps162
  go_wp2
  go_ret
  exact ⟨ret_bool HN.out.symm, Below.refl _ _⟩

/-- How long a slice is. -/
def lenOf : Value → Nat
 | .slice _ n _ => n
 | _ => 0
theorem iterL_n {rs : List RuleD} {xs : List Int} {all : Bool} {n : Nat} (h : n ≤ (iterL rs xs all n).length) (hne : ¬ (iterL rs xs all (n + 1)).length = (iterL rs xs all n).length) : n + 1 ≤ (iterL rs xs all (n + 1)).length ∧ (iterL rs xs all n).length < (iterL rs xs all (n + 1)).length := by
 have := (iterL_len (rs := rs) (xs := xs) (all := all) n).1
 omega
theorem stepTo_end {rs : List RuleD} {xs : List Int} {all : Bool} {n k : Nat} (h : rs.length = k) : stepTo rs xs all (iterL rs xs all n) k = iterL rs xs all (n + 1) := by rw [← h]; rfl

set_option maxHeartbeats 2000000 in
theorem l05Least_calls {w : World} {v v' : Value} {rs : List RuleD} {xs : List Int} (all : Bool) (h : RdL w [v] rs) (gx : RdL w [v'] xs) (hok : ∀ r ∈ rs, ruleOkB r 12 = true) :
  Calls Tryz.prog 163 #[v, v', .bool all] w fun e w' => ∃ u, e = .returned u ∧ OwnI w.heap.size w' u (leastL rs xs all) ∧ Below w.heap.size w w' := by
 have HOK := Lib.hid hok
 clear hok
 obtain ⟨a1, k1, rfl, _, h1⟩ := h.sl
 obtain ⟨ax, cx, rfl, _, hx⟩ := gx.sl
 have hm1 := h1.1
 go_enter Tryz.func163, Tryz.ntmps163
 go_wp2
 go_loopw [7] (fun s wo => ∃ n : Nat, n ≤ (iterL rs xs all n).length ∧ OwnI w.heap.size wo s (iterL rs xs all n) ∧ Below w.heap.size w wo) (fun s _ => 13 - lenOf s)
 case atStart => exact ⟨0, Nat.zero_le _, OwnI.new _ _ (Nat.le_refl _), (Below.refl _ _).alloc (Nat.le_refl _) _⟩
 case round =>
  obtain ⟨n, hn, ho, hb0⟩ := hrel
  have hlen := (iterL_isP (rs := rs) (xs := xs) (all := all) n).le
  have gs : RdL _ _ (iterL rs xs all n) := ho.own.rd
  obtain ⟨a7, k7, rfl, _, _⟩ := gs.sl
  have hsz0 := hb0.size
  obtain ⟨wm, rfl⟩ : ∃ wm : World, wm = wr := ⟨_, rfl⟩
  go_wp2
  go_loopw [8, 9] (fun t i wr => ∃ k : Nat, k ≤ rs.length ∧ i = .int .i64 k ∧ OwnI w.heap.size wr t (stepTo rs xs all (iterL rs xs all n) k) ∧ Below wm.heap.size wm wr) (fun _ i _ => rs.length - (intOf i).toNat)
  case atStart => exact ⟨0, Nat.zero_le _, rfl, ho, Below.refl _ _⟩
  case round =>
   obtain ⟨k, hk, rfl, ht, hb⟩ := hrel
   have hbw := hb0.trans (hb.mono hsz0)
   have hsz : w.heap.size ≤ wr.heap.size := hbw.size
   by_cases hlt : k < rs.length
   ·obtain ⟨b, off, rfl, hc⟩ := h1.base (by omega)
    obtain ⟨ecs, hC, hR⟩ := hc k hlt
    have hC := hC.later hbw
    have hR := Rd.mono hbw hR
    have hok12 := HOK.out _ (nth_mem hlt)
    have hR0 := hR
    obtain ⟨d1, d4, rfl, hf', r1, r4⟩ := hR0
    obtain ⟨ah, kh, rfl, _, hh⟩ := r1.sl
    obtain ⟨ab, kb, rfl, _, _⟩ := r4.sl
    have u0 := hC.c0
    have u1 := hC.c1
    have u2 := hC.c2
    have u3 := hC.c3
    have u4 := hC.c4
    rw [show Rd.k RuleD = 5 from rfl] at u0 u1 u2 u3 u4
    have bA := (Below.refl wr.heap.size wr).alloc (Nat.le_refl _) (.cells #[.bool (nth rs k).choice, .slice ah (nth rs k).heads.length kh, .bool (nth rs k).weight, .int .i64 (nth rs k).bound, .slice ab (nth rs k).body.length kb] 34)
    have hbA := hb.alloc hb.size (.cells #[.bool (nth rs k).choice, .slice ah (nth rs k).heads.length kh, .bool (nth rs k).weight, .int .i64 (nth rs k).bound, .slice ab (nth rs k).body.length kb] 34)
    have hCL := Lib.hid (Cells.new wr [.bool (nth rs k).choice, .slice ah (nth rs k).heads.length kh, .bool (nth rs k).weight, .int .i64 (nth rs k).bound, .slice ab (nth rs k).body.length kb] 34)
    have hR := Rd.mono bA hR
    have hh := hh.later bA
    have gsA := Rd.mono (α := List Int) (hb.step bA) gs
    have gxA := Rd.mono (α := List Int) (hbw.step bA) gx
    have hxA := hx.later (hbw.step bA)
    have htA := ht.kept bA
    clear hC hc r1 r4
    cases hB : reachB (nth rs k) (h2B (iterL rs xs all n) xs)
    ·have hS := Lib.hid (stepTo_no (all := all) hB)
     go_wp2_with fail
     refine (l02Reaches_calls hR gsA gxA hok12).mono ?_
     rintro e w2 ⟨he, b2⟩
     rw [hB] at he
     subst he
     have hb2 := hbA.step b2
     have ht2 := htA.kept b2
     clear hB
     go_wp2
     go_roundw
     case rel => exact ⟨k + 1, by omega, by go_num, (by rw [hS.out]; exact ht2), hb2⟩
     case measure => simp [intOf]; omega
    ·have hS := Lib.hid (stepTo_yes (all := all) hB)
     go_wp2_with fail
     refine (l02Reaches_calls hR gsA gxA hok12).mono ?_
     rintro e w2 ⟨he, b2⟩
     rw [hB] at he
     subst he
     have hb2 := hbA.step b2
     have ht2 := htA.kept b2
     have hh2 := (hh.later b2).ints
     have hx2 := (hxA.later b2).ints
     obtain ⟨z0, z1, z2, z3, z4⟩ := cells5 (hCL.out.later b2)
     have hsz2 : w.heap.size ≤ w2.heap.size := Nat.le_trans hsz (bA.step b2).size
     obtain ⟨at2, kt2, rfl, htI, htB⟩ := ht2.open
     clear hB
     cases hC : ((nth rs k).choice || all)
     ·have hp := Lib.hid (putL_F (xs := xs) hC)
      obtain ⟨hc1, rfl⟩ : (nth rs k).choice = false ∧ all = false := by simpa using hC
      rw [hc1] at z0
      clear hC
      go_wp2_with fail
      refine (specSetJoin_calls _ _ _ _ _ _ _ htI hh2).mono ?_
      rintro e w3 ⟨v3, rfl, ho3, b3⟩
      have hb3 := hb2.step b3
      have ho3' : OwnI w.heap.size w3 v3 _ := ho3.mono hsz2
      rw [← hp.out, ← hS.out] at ho3'
      go_wp2
      go_roundw
      case rel => exact ⟨k + 1, by omega, by go_num, ho3', hb3⟩
      case measure => simp [intOf]; omega
     ·have hp := Lib.hid (putL_T (xs := xs) hC)
      clear hCL
      cases hc1 : (nth rs k).choice
      ·obtain rfl : all = true := by rw [hc1] at hC; exact hC
       rw [hc1] at z0
       clear hC hc1
       go_wp2_with fail
       refine (specSetMeet_calls _ _ _ _ _ _ _ hh2 hx2).mono ?_
       rintro e w3 ⟨v3, rfl, ho3, b3⟩
       have hb3 := hb2.step b3
       obtain ⟨p3, q3, rfl, hI3, _⟩ := ho3.open
       go_wp2_with fail
       refine (specSetJoin_calls _ _ _ _ _ _ _ (htI.later b3) hI3).mono ?_
       rintro e w4 ⟨v4, rfl, ho4, b4⟩
       have hb4 := hb3.step b4
       have ho4' := ho4.mono (B' := w.heap.size) (Nat.le_trans hsz2 b3.size)
       rw [← hp.out, ← hS.out] at ho4'
       go_wp2
       go_roundw
       case rel => exact ⟨k + 1, by omega, by go_num, ho4', hb4⟩
       case measure => simp [intOf]; omega
      ·rw [hc1] at z0
       clear hC hc1
       go_wp2_with fail
       refine (specSetMeet_calls _ _ _ _ _ _ _ hh2 hx2).mono ?_
       rintro e w3 ⟨v3, rfl, ho3, b3⟩
       have hb3 := hb2.step b3
       obtain ⟨p3, q3, rfl, hI3, _⟩ := ho3.open
       go_wp2_with fail
       refine (specSetJoin_calls _ _ _ _ _ _ _ (htI.later b3) hI3).mono ?_
       rintro e w4 ⟨v4, rfl, ho4, b4⟩
       have hb4 := hb3.step b4
       have ho4' := ho4.mono (B' := w.heap.size) (Nat.le_trans hsz2 b3.size)
       rw [← hp.out, ← hS.out] at ho4'
       go_wp2
       go_roundw
       case rel => exact ⟨k + 1, by omega, by go_num, ho4', hb4⟩
       case measure => simp [intOf]; omega
   ·obtain rfl : k = rs.length := by omega
    have hE := Lib.hid (stepTo_end (rs := rs) (xs := xs) (all := all) (n := n) rfl)
    rw [hE.out] at ht
    have hlen2 := (iterL_isP (rs := rs) (xs := xs) (all := all) (n + 1)).le
    obtain ⟨at2, kt2, rfl, htI, htB⟩ := ht.open
    by_cases hq : (iterL rs xs all (n + 1)).length = (iterL rs xs all n).length
    ·have hL := Lib.hid (iterL_end (rs := rs) (xs := xs) (all := all) (n := n) (by omega) hq)
     have hq' : (((iterL rs xs all (n + 1)).length : Int) == ((iterL rs xs all n).length : Int)) = true := by simp; omega
     have ho2 : ∀ L, iterL rs xs all n = L → OwnI w.heap.size wr (.slice a7 (iterL rs xs all n).length k7) L := fun L e => by subst e; exact ho.kept hb
     clear hq ho ht
     go_wp2
     go_ret
     exact ⟨_, rfl, ho2 _ hL.out, hbw⟩
    ·have hN := iterL_n hn hq
     have hq' : (((iterL rs xs all (n + 1)).length : Int) == ((iterL rs xs all n).length : Int)) = false := by simp; omega
     clear hq
     go_wp2
     go_roundw
     case rel => exact ⟨n + 1, hN.1, ht, hbw⟩
     case measure => simp [lenOf]; omega

end Go.Proofs.YthikhkeofcjdfaaGreat
