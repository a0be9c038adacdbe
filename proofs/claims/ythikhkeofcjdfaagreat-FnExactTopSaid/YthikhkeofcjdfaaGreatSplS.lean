/-
 Splitting: what the model answers (IsSplit, Closure). No condition of its own.
-/
import Derived.Test.YthikhkeofcjdfaaGreatAnsU
import Derived.Test.YthikhkeofcjdfaaGreatSplD
namespace Go.Proofs.YthikhkeofcjdfaaGreat
set_option linter.unusedVariables false
set_option linter.unusedSimpArgs false
open Go.RowKit
set_option maxRecDepth 100000




theorem sm_ok12 {r : RuleD} (h : ruleOkB r 12 = true) : Sm.S r := by
 simp only [ruleOkB, headsB, bodyB, Bool.and_eq_true, decide_eq_true_eq] at h
 obtain ⟨⟨h1, _⟩, ⟨⟨h2, _⟩, _⟩, _⟩ := h
 have h3 : r.heads.length ≤ 12 := (isP_set h1).le
 exact ⟨⟨by omega, fun _ _ => trivial⟩, ⟨by omega, fun _ _ => trivial⟩⟩
theorem pow12S {n : Nat} (h : n ≤ 12) : 2 ^ n ≤ 4096 := by
 have : (2 : Nat) ^ n ≤ 2 ^ 12 := Nat.pow_le_pow_right (by omega) h
 omega
theorem shl_oneS {n : Nat} (h1 : n ≤ 12) : wrap64 ((2 : Int) ^ ((n : Int)).toNat) = ((2 ^ n : Nat) : Int) := by
 have h2 := pow12S h1
 rw [Int.toNat_natCast, show (2 : Int) ^ n = ((2 ^ n : Nat) : Int) by simp]
 generalize 2 ^ n = P at *
 unfold wrap64
 omega

/-- How long a slice is. -/
def slLen (v : Value) : Nat := match v with | .slice _ n _ => n | _ => 0
theorem up_mask {n : Nat} (h : n ≤ 12) : maskOf (setOfS ((2 ^ n : Nat) - 1 : Int)) = 2 ^ n - 1 := by
 have h1 : 2 ^ n ≤ 2 ^ 12 := Nat.pow_le_pow_right (by omega) h
 have h2 : 0 < 2 ^ n := Nat.two_pow_pos _
 rw [show (((2 ^ n : Nat) : Int) - 1) = ((2 ^ n - 1 : Nat) : Int) by omega]
 have : setOfS ((2 ^ n - 1 : Nat) : Int) = mset (2 ^ n - 1) := by
  rw [← of_same]
  unfold setOf mset
  rw [if_pos (by omega)]
  rfl
 rw [this, mask_mset (by omega)]
set_option maxHeartbeats 4000000 in
theorem specIsSplit_calls {cs : List Value} {p : ProgD} {w : World} {v : Value} {us : List Int} (h : Rd.R w cs p) (gx : RdL w [v] us) :
  Calls Tryz.prog 104 #[.agg cs.toArray, v] w fun e w' => e = .returned (.bool (splB p us)) ∧ Below w.heap.size w w' := by
 obtain ⟨p0, p1, p2, p3, p4, p5, p6, p7, rfl⟩ := list8 (Rd.len h)
 obtain ⟨ax, cx, rfl, _, hx⟩ := gx.sl
 have t0 : Below w.heap.size w (w.alloc (.cells #[p0, p1, p2, p3, p4, p5, p6, p7] 30)) := (Below.refl _ _).alloc (by simp) _
 have hmu0 := hx.1
 cases hF : foldB p
 ·have hv := Lib.hid (splB_no (us := us) hF)
  go_enter Tryz.func104, Tryz.ntmps104
  go_wp2_with fail
  refine (specFold_calls (Rd.mono t0 h)).mono ?_
  rintro e w1 ⟨cs1, he, o1, b1⟩
  rw [hF] at he
  subst he
  have t1 := t0.step b1
  have l1 := Rd.one o1.rd
  obtain ⟨x0, x1, x2, x3, x4, x5, x6, x7, rfl⟩ := list8 (Rd.len o1.rd)
  have st0 := sto Tryz.prog (l1 x0 (by simp))
  have st1 := sto Tryz.prog (l1 x1 (by simp))
  have st2 := sto Tryz.prog (l1 x2 (by simp))
  have st3 := sto Tryz.prog (l1 x3 (by simp))
  have st4 := sto Tryz.prog (l1 x4 (by simp))
  have st5 := sto Tryz.prog (l1 x5 (by simp))
  have st6 := sto Tryz.prog (l1 x6 (by simp))
  have st7 := sto Tryz.prog (l1 x7 (by simp))
  have o1 := o1.alloc (.cells #[x0, x1, x2, x3, x4, x5, x6, x7] 30)
  have CX1 := Cells.new w1 [x0, x1, x2, x3, x4, x5, x6, x7] 30
  have t1 := t1.alloc t1.size (.cells #[x0, x1, x2, x3, x4, x5, x6, x7] 30)
  clear l1
  go_wp2
  go_ret
  exact ⟨ret_bool hv.out.symm, t1⟩
 ·have hok : progOkB (foldD p) = true := foldR_ok hF
  have hr12 := Lib.hid (rules12 hok)
  cases hS : setOkB us (foldD p).atoms
  ·have hv : Hid (splB p us = false) := by show _ = _; rw [splB_yes hF, splQ_A hS]
   go_enter Tryz.func104, Tryz.ntmps104
   go_wp2_with fail
   refine (specFold_calls (Rd.mono t0 h)).mono ?_
   rintro e w1 ⟨cs1, he, o1, b1⟩
   rw [hF] at he
   rw [foldR_yes hF] at o1
   subst he
   have t1 := t0.step b1
   have l1 := Rd.one o1.rd
   obtain ⟨x0, x1, x2, x3, x4, x5, x6, x7, rfl⟩ := list8 (Rd.len o1.rd)
   have st0 := sto Tryz.prog (l1 x0 (by simp))
   have st1 := sto Tryz.prog (l1 x1 (by simp))
   have st2 := sto Tryz.prog (l1 x2 (by simp))
   have st3 := sto Tryz.prog (l1 x3 (by simp))
   have st4 := sto Tryz.prog (l1 x4 (by simp))
   have st5 := sto Tryz.prog (l1 x5 (by simp))
   have st6 := sto Tryz.prog (l1 x6 (by simp))
   have st7 := sto Tryz.prog (l1 x7 (by simp))
   have o1 := o1.alloc (.cells #[x0, x1, x2, x3, x4, x5, x6, x7] 30)
   have CX1 := Cells.new w1 [x0, x1, x2, x3, x4, x5, x6, x7] 30
   have t1 := t1.alloc t1.size (.cells #[x0, x1, x2, x3, x4, x5, x6, x7] 30)
   clear l1
   have oR := o1.rd
   obtain ⟨_, _, _, _, _, _, hl, hfa, g1, _⟩ := oR
   simp only [List.cons.injEq, and_true] at hl
   obtain ⟨rfl, rfl, -⟩ := hl
   obtain ⟨a1, k1, rfl, _, h1⟩ := g1.sl
   have hm1 := h1.1
   have CXH := Lib.hid CX1
   have hzw : w1.heap.size < (w1.alloc (.cells #[.int .i64 (foldD p).atoms, .slice a1 (foldD p).rules.length k1, x2, x3, x4, x5, x6, x7] 30)).heap.size := by simp
   generalize hwa : w1.alloc (.cells #[.int .i64 (foldD p).atoms, .slice a1 (foldD p).rules.length k1, x2, x3, x4, x5, x6, x7] 30) = wa at *
   obtain ⟨y0, y1, y2, y3, y4, y5, y6, y7⟩ := cells8 CXH.out
   go_wp2_with fail
   try rw [hwa]
   refine (specSetOk_calls _ _ _ _ _ (hx.later t1).ints).mono ?_
   rintro e w2 ⟨he, b2⟩
   rw [hS] at he
   subst he
   go_wp2
   go_ret
   exact ⟨ret_bool hv.out.symm, t1.step b2⟩
  ·have hv : Hid (splB p us = (foldD p).rules.all (spR us)) := by show _ = _; rw [splB_yes hF, splQ_B hS]
   go_enter Tryz.func104, Tryz.ntmps104
   go_wp2_with fail
   refine (specFold_calls (Rd.mono t0 h)).mono ?_
   rintro e w1 ⟨cs1, he, o1, b1⟩
   rw [hF] at he
   rw [foldR_yes hF] at o1
   subst he
   have t1 := t0.step b1
   have l1 := Rd.one o1.rd
   obtain ⟨x0, x1, x2, x3, x4, x5, x6, x7, rfl⟩ := list8 (Rd.len o1.rd)
   have st0 := sto Tryz.prog (l1 x0 (by simp))
   have st1 := sto Tryz.prog (l1 x1 (by simp))
   have st2 := sto Tryz.prog (l1 x2 (by simp))
   have st3 := sto Tryz.prog (l1 x3 (by simp))
   have st4 := sto Tryz.prog (l1 x4 (by simp))
   have st5 := sto Tryz.prog (l1 x5 (by simp))
   have st6 := sto Tryz.prog (l1 x6 (by simp))
   have st7 := sto Tryz.prog (l1 x7 (by simp))
   have o1 := o1.alloc (.cells #[x0, x1, x2, x3, x4, x5, x6, x7] 30)
   have CX1 := Cells.new w1 [x0, x1, x2, x3, x4, x5, x6, x7] 30
   have t1 := t1.alloc t1.size (.cells #[x0, x1, x2, x3, x4, x5, x6, x7] 30)
   clear l1
   have oR := o1.rd
   obtain ⟨_, _, _, _, _, _, hl, hfa, g1, _⟩ := oR
   simp only [List.cons.injEq, and_true] at hl
   obtain ⟨rfl, rfl, -⟩ := hl
   obtain ⟨a1, k1, rfl, _, h1⟩ := g1.sl
   have hm1 := h1.1
   have CXH := Lib.hid CX1
   have hzw : w1.heap.size < (w1.alloc (.cells #[.int .i64 (foldD p).atoms, .slice a1 (foldD p).rules.length k1, x2, x3, x4, x5, x6, x7] 30)).heap.size := by simp
   generalize hwa : w1.alloc (.cells #[.int .i64 (foldD p).atoms, .slice a1 (foldD p).rules.length k1, x2, x3, x4, x5, x6, x7] 30) = wa at *
   obtain ⟨y0, y1, y2, y3, y4, y5, y6, y7⟩ := cells8 CXH.out
   go_wp2_with fail
   try rw [hwa]
   clear st0 st1 st2 st3 st4 st5 st6 st7
   refine (specSetOk_calls _ _ _ _ _ (hx.later t1).ints).mono ?_
   rintro e w2 ⟨he, b2⟩
   rw [hS] at he
   subst he
   have t3 := t1.step b2
   clear y0 y1 y2 y3 y4 y5 y6 y7
   have CX3 := Lib.hid (CXH.out.later b2)
   obtain ⟨q, hq⟩ : ∃ q, q = foldD p := ⟨_, rfl⟩
   have hua := (hx.later t3).ints
   have g1 := Rd.mono (α := List RuleD) b2 g1
   have h1 := h1.later b2
   clear CXH
   have CXH := CX3
   rw [← hq] at CXH h1 hm1 hr12 hv g1
   clear hq
   clear CX3 hok hS hx
   go_wp2
   go_loopw [7] (fun i wr => ∃ k : Nat, k ≤ q.rules.length ∧ i = .int .i64 (k : Int) ∧ Hid ((q.rules.take k).all (spR us) = true) ∧ Below w2.heap.size w2 wr) (fun i _ => q.rules.length - (intOf i).toNat)
   case atStart => exact ⟨0, Nat.zero_le _, rfl, show (q.rules.take 0).all _ = true by simp, Below.refl _ _⟩
   case round =>
    obtain ⟨k, hk, rfl, hS, hb⟩ := hrel
    obtain ⟨y0, y1, y2, y3, y4, y5, y6, y7⟩ := cells8 (CXH.out.later hb)
    by_cases hlt : k < q.rules.length
    ·skip
     obtain ⟨b, off, rfl, hc⟩ := h1.base (by omega)
     obtain ⟨ecs, hC, hR⟩ := hc k hlt
     have hC := hC.later hb
     have hR := Rd.mono hb hR
     have hok12 := hr12.out _ (nth_mem hlt)
     have hR0 := hR
     obtain ⟨d1, d4, rfl, hf', r1, r4⟩ := hR0
     obtain ⟨ah, kh, rfl, hkh, hh⟩ := r1.sl
     obtain ⟨ab, kb, rfl, _, _⟩ := r4.sl
     have u0 := hC.c0
     have u1 := hC.c1
     have u2 := hC.c2
     have u3 := hC.c3
     have u4 := hC.c4
     rw [show Rd.k RuleD = 5 from rfl] at u0 u1 u2 u3 u4
     clear hC hc
     cases hM : (((pickTo (pickM (nth q.rules k).heads us) 12).length : Int) == 0)
     ·have hMd : 0 < ((pickTo (pickM (nth q.rules k).heads us) 12).length : Int) := by have := beq_eq_false_iff_ne.1 hM; omega
      cases hB : (((pickTo (pickL (atomsB (nth q.rules k)) us) 12).length : Int) == 0)
      ·have hv2 : Hid (splB p us = false) := by show _ = _; rw [hv.out, all_no hlt (show spR us _ = false by unfold spR; rw [hM, hB]; rfl)]
       go_wp2_with fail
       refine (specSetMeet_calls _ _ _ _ _ _ _ hh.ints (hua.later hb)).mono ?_
       rintro e w2 ⟨v2, rfl, ho2, b2⟩
       obtain ⟨p2, q2, hv2, _, _⟩ := ho2.open
       subst hv2
       have hb2 := hb.step b2
       clear y0 y1 y2 y3 y4 y5 y6 y7
       obtain ⟨y0, y1, y2, y3, y4, y5, y6, y7⟩ := cells8 (CXH.out.later hb2)
       replace u0 := cell_kept b2 u0
       replace u1 := cell_kept b2 u1
       replace u2 := cell_kept b2 u2
       replace u3 := cell_kept b2 u3
       replace u4 := cell_kept b2 u4
       go_wp2_with fail
       refine (specAtomsOf_calls (Rd.mono b2 hR) (sm_ok12 hok12)).mono ?_
       rintro e w3 ⟨v3, rfl, ho3, b3⟩
       obtain ⟨p3, q3, hv3, _, _⟩ := ho3.open
       subst hv3
       have hb3 := hb2.step b3
       go_wp2_with fail
       refine (specSetIn_calls _ _ _ _ _ _ _ ho3.ints (hua.later hb3)).mono ?_
       rintro e w4 ⟨he, b4⟩
       rw [hB] at he
       subst he
       go_wp2
       go_ret
       exact ⟨ret_bool hv2.out.symm, t3.step (hb3.step b4)⟩
      ·have hS' := Lib.hid (all_take hlt hS.out (show spR us _ = true by unfold spR; rw [hB, Bool.or_true]))
       go_wp2_with fail
       refine (specSetMeet_calls _ _ _ _ _ _ _ hh.ints (hua.later hb)).mono ?_
       rintro e w2 ⟨v2, rfl, ho2, b2⟩
       obtain ⟨p2, q2, hv2, _, _⟩ := ho2.open
       subst hv2
       have hb2 := hb.step b2
       clear y0 y1 y2 y3 y4 y5 y6 y7
       obtain ⟨y0, y1, y2, y3, y4, y5, y6, y7⟩ := cells8 (CXH.out.later hb2)
       replace u0 := cell_kept b2 u0
       replace u1 := cell_kept b2 u1
       replace u2 := cell_kept b2 u2
       replace u3 := cell_kept b2 u3
       replace u4 := cell_kept b2 u4
       go_wp2_with fail
       refine (specAtomsOf_calls (Rd.mono b2 hR) (sm_ok12 hok12)).mono ?_
       rintro e w3 ⟨v3, rfl, ho3, b3⟩
       obtain ⟨p3, q3, hv3, _, _⟩ := ho3.open
       subst hv3
       have hb3 := hb2.step b3
       go_wp2_with fail
       refine (specSetIn_calls _ _ _ _ _ _ _ ho3.ints (hua.later hb3)).mono ?_
       rintro e w4 ⟨he, b4⟩
       rw [hB] at he
       subst he
       go_wp2
       go_roundw
       case rel => exact ⟨k + 1, by omega, by go_num, hS', hb3.step b4⟩
       case measure => simp [intOf]; omega
     ·have hMd : ((pickTo (pickM (nth q.rules k).heads us) 12).length : Int) = 0 := beq_iff_eq.1 hM
      have hS' := Lib.hid (all_take hlt hS.out (show spR us _ = true by unfold spR; rw [hM, Bool.true_or]))
      go_wp2_with fail
      refine (specSetMeet_calls _ _ _ _ _ _ _ hh.ints (hua.later hb)).mono ?_
      rintro e w2 ⟨v2, rfl, ho2, b2⟩
      obtain ⟨p2, q2, hv2, _, _⟩ := ho2.open
      subst hv2
      have hb2 := hb.step b2
      go_wp2
      go_roundw
      case rel => exact ⟨k + 1, by omega, by go_num, hS', hb2⟩
      case measure => simp [intOf]; omega
    ·have hv2 : Hid (splB p us = true) := by show _ = _; rw [hv.out]; exact all_end (by omega) hS.out
     go_wp2
     go_ret
     exact ⟨ret_bool hv2.out.symm, t3.step hb⟩


end Go.Proofs.YthikhkeofcjdfaaGreat
