/-
  laws.FnLeastTurns returns true for all byte strings: without Choice, of a greater set the least set made is a lesser one.
  Conditions: none (what every row of this form says by itself: the arguments can be read as data).
-/
import Derived.Test.YtjainjpcpnoikaaLeP
import Derived.Test.YtjainjpcpnoikaaDrawN
import Derived.Test.YtjainjpcpnoikaaDraw
import Derived.Test.YtjainjpcpnoikaaLawsInts
import Derived.Test.YtjainjpcpnoikaaPlain
import Derived.Test.YtjainjpcpnoikaaAnyW
import Derived.Deep.RegionHeld3
import Derived.Test.YtjainjpcpnoikaaOpen
import Derived.Test.YtjainjpcpnoikaaRows
import Derived.WalkKit
import Derived.ProofKit
import Derived.OpenShut
import Derived.ShutString
import Derived.ChangeOld
import Derived.Below
namespace Go.Proofs.Ytjainjpcpnoikaa.fnLeastTurns
open Go.ChangeShapes Go.WideShapes Go.ChangeAt Go.RowKit
open Go.ChangeMaps (open_string shut_string)
set_option linter.unusedVariables false
set_option linter.unusedSimpArgs false

theorem own : ownKnob Try.prog.godebug = none := by kernel_rfl
theorem laidOut : laidOutB Try.prog = true := by kernel_rfl

theorem any_ok : AnyOk := fun c N w h hN => any_calls c N w h hN
theorem below_cg {w w2 w3 : World} (t : Below w.heap.size w w2) (kp : Cg (fun x => x = w.heap.size) w2 w3) : Below w.heap.size w w3 :=
  ⟨kp.os.trans t.os, kp.tape.trans t.tape, kp.output.trans t.output, Nat.le_trans t.size kp.size, fun k hk => (kp.block k (Nat.lt_of_lt_of_le hk t.size) (by omega)).trans (t.block k hk)⟩
/-- What is said of plainProg, as a word of its own. -/
def PlainOk : Prop := ∀ (c N : Nat) (w : World), Cur w c N → N ≤ 50000 → Calls Try.prog 71 #[.pointer (some ⟨c, 0, none⟩)] w (AnyPost w c (N + 6100))
set_option maxHeartbeats 8000000 in
theorem DrawPlain_calls (HP : PlainOk) {a : Option Addr} {bs : List Int} {cap : Nat} {w : World} (h : Bytes w a bs) :
    Calls Try.prog 29 #[.slice a bs.length cap] w fun e w' => ∃ cs p, e = .returned (.agg (List.toArray cs)) ∧ Rd.R (α := ProgD) w' cs p ∧ Below w.heap.size w w' := by
  have tz : Below w.heap.size w (w.alloc (.cells zP.toArray 36)) := (Below.refl _ _).alloc (Nat.le_refl _) _
  have hB := h.later tz
  have hz0 := alloc_block w zP.toArray 36
  go_enter Try.func29, Try.ntmps29
  go_wp2_with fail
  refine (open_calls _ _ _ _ hB).mono ?_
  rintro e w1 ⟨rfl, hc, hb⟩
  rw [World.size_alloc] at hc hb
  have hcl := hc.lt
  have hz1 := (hb.block _ (Nat.lt_succ_self _)).trans hz0
  rw [World.size_alloc]
  go_wp2_with fail
  refine (HP (w.heap.size + 1) 0 w1 hc (by omega)).mono ?_
  rintro e w2 ⟨cs, p, rfl, hL, hwee, c2, k2⟩
  obtain ⟨x0, x1, x2, x3, x4, x5, x6, x7, rfl⟩ := list8 (Rd.len hL.rd)
  have l1 := Rd.one hL.rd
  have st0 := sto Try.prog (l1 x0 (by simp))
  have st1 := sto Try.prog (l1 x1 (by simp))
  have st2 := sto Try.prog (l1 x2 (by simp))
  have st3 := sto Try.prog (l1 x3 (by simp))
  have st4 := sto Try.prog (l1 x4 (by simp))
  have st5 := sto Try.prog (l1 x5 (by simp))
  have st6 := sto Try.prog (l1 x6 (by simp))
  have st7 := sto Try.prog (l1 x7 (by simp))
  have hz2 := k2.size
  have hr2 := (Cg.wrote (S := fun x => x = w.heap.size + 1) k2 rfl).at hz1 (by omega)
  obtain ⟨v0, v1, v2, v3, v4, v5, v6, v7⟩ := cells8 (box_cells hr2)
  have vf := fun j => frozen_of_row w2 w.heap.size j _ _ hr2
  have hln := block_lt hr2
  have hk := fun u0 u1 u2 u3 u4 u5 u6 u7 => res_cg8 w2 w.heap.size u0 u1 u2 u3 u4 u5 u6 u7
  have t1 : Below w.heap.size w w1 := tz.trans (hb.mono (Nat.le_succ _))
  have t2 : Below w.heap.size w w2 := Wrote.mark t1 k2 (by omega)
  go_wp2
  exact bodyPost_ret (v := .agg #[x0, x1, x2, x3, x4, x5, x6, x7]) (by first | (simp [results, Try.results29, go_sem, v0, v1, v2, v3, v4, v5, v6, v7]; done) | (simp [results, Try.results29, go_sem, v0, v1, v2, v3, v4, v5, v6, v7]; omega)) rfl
    ⟨[x0, x1, x2, x3, x4, x5, x6, x7], p, rfl, (hL.cg ((hk _ _ _ _ _ _ _ _).more fun g _ hg => by omega)).rd, below_cg t2 (hk _ _ _ _ _ _ _ _)⟩

/-- The least set made: of a greater set a lesser one. -/
theorem turns {p : ProgD} (xs ys : List Int) (h : plainB p = true) : ((((pickTo (pickL (leastR p (pickTo (pickJ xs ys) 12) false) (leastR p (pickTo (pickJ xs []) 12) false)) 12).length : Nat) : Int) == 0) = true := by
  have hF := plainB_fold h
  rw [leastR_yes hF, leastR_yes hF]
  have hw : Wts (foldD p).rules := wts_ok (rules12 (foldR_ok hF))
  have hS : Sub (pickTo (pickJ xs []) 12) (pickTo (pickJ xs ys) 12) := fun a h1 h2 ha => by
    rw [hasB_join ⟨h1, h2⟩] at ha ⊢
    rw [hasB_nil, Bool.or_false] at ha
    rw [ha, Bool.true_or]
  have hA := least_anti hw (plainB_ch h) hS
  have : pickTo (pickL (leastL (foldD p).rules (pickTo (pickJ xs ys) 12) false) (leastL (foldD p).rules (pickTo (pickJ xs []) 12) false)) 12 = [] := by
    refine List.eq_nil_iff_forall_not_mem.2 fun x hx => ?_
    obtain ⟨h1, h2, h3⟩ := (mem_pickTo _ x 12).1 hx
    unfold pickL pickF at h3
    have ha := hA x h1 h2
    cases hq : hasB (leastL (foldD p).rules (pickTo (pickJ xs ys) 12) false) x
    · rw [hq] at h3
      simp at h3
    · rw [hq, ha hq] at h3
      simp at h3
  rw [this]
  rfl

set_option maxRecDepth 100000 in
set_option maxHeartbeats 8000000 in
theorem law0 (HP : PlainOk) {a a' : Option Addr} {bs ms : List Int} {cap cap' : Nat} {w : World} (h : Bytes w a bs) (h' : Bytes w a' ms) :
    Calls Try.prog 6 #[.slice a bs.length cap, .slice a' ms.length cap'] w fun e w' => e = .returned (.bool true) ∧ Below w.heap.size w w' := by
  have hb1 : decide (1048576 < (bs.length : Int)) = false := decide_eq_false (by have := h.1; omega)
  have hb2 : decide (1048576 < (ms.length : Int)) = false := decide_eq_false (by have := h'.1; omega)
  go_enter Try.func6, Try.ntmps6
  go_wp2_with fail
  refine (big_calls _ _ _ _ _ hb1).mono ?_
  rintro e w' ⟨rfl, rfl⟩
  go_wp2_with fail
  refine (big_calls _ _ _ _ _ hb2).mono ?_
  rintro e w' ⟨rfl, rfl⟩
  go_wp2_with fail
  refine (DrawPlain_calls HP h).mono ?_
  rintro e w1 ⟨cs, p, rfl, hp, t1⟩
  have l1 := Rd.one hp
  obtain ⟨x0, x1, x2, x3, x4, x5, x6, x7, rfl⟩ := list8 (Rd.len hp)
  have st0 := sto Try.prog (l1 x0 (by simp))
  have st1 := sto Try.prog (l1 x1 (by simp))
  have st2 := sto Try.prog (l1 x2 (by simp))
  have st3 := sto Try.prog (l1 x3 (by simp))
  have st4 := sto Try.prog (l1 x4 (by simp))
  have st5 := sto Try.prog (l1 x5 (by simp))
  have st6 := sto Try.prog (l1 x6 (by simp))
  have st7 := sto Try.prog (l1 x7 (by simp))
  have CX := Cells.new w1 [x0, x1, x2, x3, x4, x5, x6, x7] 36
  have tn := (Below.refl w1.heap.size w1).alloc (Nat.le_refl _) (.cells #[x0, x1, x2, x3, x4, x5, x6, x7] 36)
  have tb := t1.alloc t1.size (.cells #[x0, x1, x2, x3, x4, x5, x6, x7] 36)
  have hp := Rd.mono tn hp
  clear l1 h hb1 hb2
  obtain ⟨y0, y1, y2, y3, y4, y5, y6, y7⟩ := cells8 CX
  go_wp2_with fail
  refine (DrawSetMeet_calls _ _ _ _ (h'.later tb)).mono ?_
  rintro e w2 ⟨p1, c1, p2, c2, xs, ys, rfl, hx, hy, k1, k2, b2⟩
  have t2 := tb.step b2
  have CX := CX.later b2
  have hp := Rd.mono b2 hp
  clear h'
  clear y0 y1 y2 y3 y4 y5 y6 y7
  obtain ⟨y0, y1, y2, y3, y4, y5, y6, y7⟩ := cells8 (CX)
  go_wp2_with fail
  refine (specSetJoin_calls _ _ _ _ _ _ _ k1.ints k2.ints).mono ?_
  rintro e w3 ⟨u3, rfl, o3, b3⟩
  obtain ⟨p3, c3, rfl, _, _⟩ := o3.open
  have t3 := t2.step b3
  have ta := (Below.refl w3.heap.size w3).alloc (Nat.le_refl _) (.cells #[] 3)
  have CX := CX.later b3
  clear y0 y1 y2 y3 y4 y5 y6 y7
  obtain ⟨y0, y1, y2, y3, y4, y5, y6, y7⟩ := cells8 (CX)
  have hp := Rd.mono ta (Rd.mono b3 hp)
  have k1 := (k1.kept b3).kept ta
  have o3 := o3.kept ta
  have CX := CX.later ta
  clear k2
  go_wp2_with fail
  refine (specSetJoin_calls p1 (some ⟨w3.heap.size, 0, none⟩) xs [] c1 0 _ k1.ints (OwnI.new w3 _ (Nat.le_refl _)).ints).mono ?_
  rintro e w4 ⟨u4, rfl, o4, b4⟩
  obtain ⟨p4, c4, rfl, _, _⟩ := o4.open
  have t4 := (t3.trans (ta.mono t3.size)).step b4
  have CX := CX.later b4
  have hp := Rd.mono b4 hp
  have o3 := o3.kept b4
  clear y0 y1 y2 y3 y4 y5 y6 y7
  obtain ⟨y0, y1, y2, y3, y4, y5, y6, y7⟩ := cells8 (CX)
  have H := Lib.hid (turns (p := p) xs ys)
  have lX : (pickTo (pickJ xs []) 12).length ≤ 12 := pickTo_len _ _
  have lY : (pickTo (pickJ xs ys) 12).length ≤ 12 := pickTo_len _ _
  generalize pickTo (pickJ xs []) 12 = X at *
  generalize pickTo (pickJ xs ys) 12 = Y at *
  clear k1 hx hy
  have hd := (Below.refl w4.heap.size w4).drew
  have CX := CX.drew
  have hp := Rd.mono hd hp
  have o3 := o3.kept hd
  have o4 := o4.kept hd
  have t4 := t4.drew
  go_upto_region 7 with fail
  refine wp_region_held_drew (S := fun W' => W'.cell? ⟨w1.heap.size, 0, none⟩ = some x0 ∧ W'.cell? ⟨w1.heap.size, 1, none⟩ = some x1 ∧ W'.cell? ⟨w1.heap.size, 2, none⟩ = some x2 ∧ W'.cell? ⟨w1.heap.size, 3, none⟩ = some x3 ∧ W'.cell? ⟨w1.heap.size, 4, none⟩ = some x4 ∧ W'.cell? ⟨w1.heap.size, 5, none⟩ = some x5 ∧ W'.cell? ⟨w1.heap.size, 6, none⟩ = some x6 ∧ W'.cell? ⟨w1.heap.size, 7, none⟩ = some x7) (by kernel_rfl) (cells8 CX) (fun hHeld => ?_)
  refine takeD (i := 0) (v := .agg #[x0, x1, x2, x3, x4, x5, x6, x7]) (some 29) rfl rfl (by kernel_rfl) (by kernel_rfl) (by kernel_rfl) (fun _ _ _ h => h) (Or.inl ⟨by rfl, fun w' hw' => ?_⟩) hHeld ?_
  · first | (go_simp; done) | (obtain ⟨s0, s1, s2, s3, s4, s5, s6, s7⟩ := hw'; go_simp; done)
  try simp only [Act.put, List.setIfInBounds_toArray, List.set_cons_zero, List.set_cons_succ]
  refine takeD (i := 1) (v := .slice p4 X.length c4) (some 30) rfl rfl (by kernel_rfl) (by kernel_rfl) (by kernel_rfl) (fun _ _ _ h => h) (Or.inl ⟨by rfl, fun w' hw' => ?_⟩) hHeld ?_
  · first | (go_simp; done) | (obtain ⟨s0, s1, s2, s3, s4, s5, s6, s7⟩ := hw'; go_simp; done)
  try simp only [Act.put, List.setIfInBounds_toArray, List.set_cons_zero, List.set_cons_succ]
  refine takeD (i := 3) (v := .agg #[x0, x1, x2, x3, x4, x5, x6, x7]) (some 32) rfl rfl (by kernel_rfl) (by kernel_rfl) (by kernel_rfl) (fun _ _ _ h => h) (Or.inl ⟨by rfl, fun w' hw' => ?_⟩) hHeld ?_
  · first | (go_simp; done) | (obtain ⟨s0, s1, s2, s3, s4, s5, s6, s7⟩ := hw'; go_simp; done)
  try simp only [Act.put, List.setIfInBounds_toArray, List.set_cons_zero, List.set_cons_succ]
  refine takeD (i := 4) (v := .slice p3 Y.length c3) (some 33) rfl rfl (by kernel_rfl) (by kernel_rfl) (by kernel_rfl) (fun _ _ _ h => h) (Or.inl ⟨by rfl, fun w' hw' => ?_⟩) hHeld ?_
  · first | (go_simp; done) | (obtain ⟨s0, s1, s2, s3, s4, s5, s6, s7⟩ := hw'; go_simp; done)
  try simp only [Act.put, List.setIfInBounds_toArray, List.set_cons_zero, List.set_cons_succ]
  refine wpAnyH_ready (rs := [2]) (by kernel_rfl) (by simp) ?_
  refine AllReadyH.cons rfl (fun K hK => ?_) AllReadyH.nil
  go_simp
  refine (implLeast_calls hp o4.own.rd).mono ?_
  rintro e w5 ⟨u5, rfl, o5, b5⟩
  obtain ⟨p5, c5, rfl, _, _⟩ := o5.open
  have t5 := t4.step b5
  have CX := CX.later b5
  have hp := Rd.mono b5 hp
  have o3 := o3.kept b5
  have o4 := o4.kept b5
  clear y0 y1 y2 y3 y4 y5 y6 y7
  obtain ⟨y0, y1, y2, y3, y4, y5, y6, y7⟩ := cells8 (CX)
  refine hK.out _ _ (cells8 CX) (fun hHeld => ?_)
  clear hK K
  try simp only [Act.put, List.setIfInBounds_toArray, List.set_cons_zero, List.set_cons_succ]
  refine wpAnyH_ready (rs := [5]) (by kernel_rfl) (by simp) ?_
  refine AllReadyH.cons rfl (fun K hK => ?_) AllReadyH.nil
  go_simp
  refine (implLeast_calls hp o3.own.rd).mono ?_
  rintro e w6 ⟨u6, rfl, o6, b6⟩
  obtain ⟨p6, c6, rfl, _, _⟩ := o6.open
  have t6 := t5.step b6
  have CX := CX.later b6
  have hp := Rd.mono b6 hp
  have o3 := o3.kept b6
  have o4 := o4.kept b6
  have o5 := o5.kept b6
  clear y0 y1 y2 y3 y4 y5 y6 y7
  obtain ⟨y0, y1, y2, y3, y4, y5, y6, y7⟩ := cells8 (CX)
  refine hK.out _ _ (cells8 CX) (fun hHeld => ?_)
  clear hK K
  try simp only [Act.put, List.setIfInBounds_toArray, List.set_cons_zero, List.set_cons_succ]
  refine takeD (i := 6) (v := .slice p5 (leastR p X false).length c5) (some 8) rfl rfl (by kernel_rfl) (by kernel_rfl) (by kernel_rfl) (fun _ _ _ h => h) (Or.inl ⟨by rfl, fun w' hw' => ?_⟩) hHeld ?_
  · first | (go_simp; done) | (obtain ⟨s0, s1, s2, s3, s4, s5, s6, s7⟩ := hw'; go_simp; done)
  try simp only [Act.put, List.setIfInBounds_toArray, List.set_cons_zero, List.set_cons_succ]
  refine takeD (i := 7) (v := .slice p6 (leastR p Y false).length c6) (some 9) rfl rfl (by kernel_rfl) (by kernel_rfl) (by kernel_rfl) (fun _ _ _ h => h) (Or.inl ⟨by rfl, fun w' hw' => ?_⟩) hHeld ?_
  · first | (go_simp; done) | (obtain ⟨s0, s1, s2, s3, s4, s5, s6, s7⟩ := hw'; go_simp; done)
  try simp only [Act.put, List.setIfInBounds_toArray, List.set_cons_zero, List.set_cons_succ]
  refine wpAnyH_done (by kernel_rfl) ?_ _
  go_wp2_with fail
  refine (specLeast_calls hp o4.own.rd).mono ?_
  rintro e w7 ⟨u7, rfl, o7, b7⟩
  obtain ⟨p7, c7, rfl, _, _⟩ := o7.open
  have t7 := t6.step b7
  have CX := CX.later b7
  have hp := Rd.mono b7 hp
  have o3 := o3.kept b7
  have o5 := o5.kept b7
  have o6 := o6.kept b7
  clear y0 y1 y2 y3 y4 y5 y6 y7
  obtain ⟨y0, y1, y2, y3, y4, y5, y6, y7⟩ := cells8 (CX)
  go_wp2_with fail
  refine (same_calls _ _ _ _ _ _ _ o5.ints o7.ints).mono ?_
  rintro e w8 ⟨he, b8⟩
  rw [eqB_self] at he
  subst he
  have t8 := t7.step b8
  have CX := CX.later b8
  have hp := Rd.mono b8 hp
  have o3 := o3.kept b8
  have o5 := o5.kept b8
  have o6 := o6.kept b8
  clear o4 o7
  clear y0 y1 y2 y3 y4 y5 y6 y7
  obtain ⟨y0, y1, y2, y3, y4, y5, y6, y7⟩ := cells8 (CX)
  go_wp2_with fail
  refine (specLeast_calls hp o3.own.rd).mono ?_
  rintro e w9 ⟨u9, rfl, o9, b9⟩
  obtain ⟨p9, c9, rfl, _, _⟩ := o9.open
  have t9 := t8.step b9
  have CX := CX.later b9
  have hp := Rd.mono b9 hp
  have o5 := o5.kept b9
  have o6 := o6.kept b9
  clear y0 y1 y2 y3 y4 y5 y6 y7
  obtain ⟨y0, y1, y2, y3, y4, y5, y6, y7⟩ := cells8 (CX)
  go_wp2_with fail
  refine (same_calls _ _ _ _ _ _ _ o6.ints o9.ints).mono ?_
  rintro e w10 ⟨he, b10⟩
  rw [eqB_self] at he
  subst he
  have t10 := t9.step b10
  have CX := CX.later b10
  have hp := Rd.mono b10 hp
  have o5 := o5.kept b10
  have o6 := o6.kept b10
  clear o3 o9
  clear y0 y1 y2 y3 y4 y5 y6 y7
  obtain ⟨y0, y1, y2, y3, y4, y5, y6, y7⟩ := cells8 (CX)
  cases hpl : plainB p
  · go_wp2_with fail
    refine (specPlain_calls hp).mono ?_
    rintro e w11 ⟨he, b11⟩
    rw [hpl] at he
    subst he
    go_wp2
    go_ret
    exact ⟨rfl, t10.step b11⟩
  · have hin := H.out hpl
    go_wp2_with fail
    refine (specPlain_calls hp).mono ?_
    rintro e w11 ⟨he, b11⟩
    rw [hpl] at he
    subst he
    have o5 := o5.kept b11
    have o6 := o6.kept b11
    go_wp2_with fail
    refine (specSetIn_calls _ _ _ _ _ _ _ o6.ints o5.ints).mono ?_
    rintro e w12 ⟨he, b12⟩
    rw [hin] at he
    subst he
    go_wp2
    go_ret
    exact ⟨rfl, (t10.step b11).step b12⟩
theorem plain_ok : PlainOk := fun c N w h hN => plainProg_calls any_ok c N w h hN
set_option maxRecDepth 100000 in
theorem law {a a' : Option Addr} {len0 cap len1 cap' : Nat} {zs zs' : List Int} {w : World} (w0 : IsRow .u8 w a len0 cap zs) (w1 : IsRow .u8 w a' len1 cap' zs') :
    Calls Try.prog 6 #[.slice a len0 cap, .slice a' len1 cap'] w fun e w' => e = .returned (.bool true) ∧ Below w.heap.size w w' := by
  by_cases s0 : 1048576 < len0
  · have hb1 : decide (1048576 < (len0 : Int)) = true := decide_eq_true (by omega)
    go_enter Try.func6, Try.ntmps6
    go_wp2_with fail
    refine (big_calls _ _ _ _ _ hb1).mono ?_
    rintro e w' ⟨rfl, rfl⟩
    go_wp2
    go_ret
    exact ⟨rfl, Below.refl _ _⟩
  by_cases s1 : 1048576 < len1
  · have hb1 : decide (1048576 < (len0 : Int)) = false := decide_eq_false (by omega)
    have hb2 : decide (1048576 < (len1 : Int)) = true := decide_eq_true (by omega)
    go_enter Try.func6, Try.ntmps6
    go_wp2_with fail
    refine (big_calls _ _ _ _ _ hb1).mono ?_
    rintro e w' ⟨rfl, rfl⟩
    go_wp2_with fail
    refine (big_calls _ _ _ _ _ hb2).mono ?_
    rintro e w' ⟨rfl, rfl⟩
    go_wp2
    go_ret
    exact ⟨rfl, Below.refl _ _⟩
  obtain ⟨bs, rfl, h⟩ := isRow_bytes w0 (by omega)
  obtain ⟨ms, rfl, h'⟩ := isRow_bytes w1 (by omega)
  exact law0 plain_ok h h'

set_option maxRecDepth 100000 in
theorem lifted (os : Os) (started : os.Started) (H : Type) (enc : TypeId × Value → H) :
    ReturnsInHanded {} Try.checked os 6 .any (Rows.fnLeastTurnsSpec.pre6 enc Try.prog Try.f6 Rows.fnLeastTurnsRow.domain false) (Rows.fnLeastTurnsSpec.post enc Try.prog Try.f6 false true false false) := by
  refine returnsInHanded_of_change (C := Try.checked) own started (by kernel_rfl) Try.func6
    (ChangeSpec.witness6 (enc := enc) (C := Try.checked) false ⟨#[], #[.slice none 0 0, .slice none 0 0], []⟩ 8 (by kernel_rfl) (by kernel_rfl) (by kernel_rfl) (by kernel_rfl)) ?_
  intro W base args ds gs before hval0 hW hcnd _
  have hval : ∀ (j : Nat) t v, Try.f6.params[j]? = some t → args[j]? = some v → Value.okWide Try.prog W .any base t v := hval0
  have hW' := hW
  obtain ⟨p, q, hA0, hV, rfl, hfz, hnd⟩ := hW
  have hA : DataW.TrodAll enc Try.prog W 0 (fun _ => true) true Try.f6.params.toList args.toList ds p := hA0
  rw [Try.params6] at hA hval
  obtain ⟨v0, vs0, d0, ds0, p0, q0, hargs, rfl, rfl, h0, r0⟩ := trodAll_cons hA
  obtain ⟨v1, vs1, d1, ds1, p1, q1, rfl, rfl, rfl, h1, r1⟩ := trodAll_cons r0
  obtain ⟨rfl, rfl, rfl⟩ := trodAll_nil r1
  obtain rfl : args = #[v0, v1] := by cases args; simp_all
  obtain ⟨rfl, rfl⟩ := trodVars_none hV
  obtain ⟨a0, len0, cap0, rfl⟩ := okWide_slice Try.underlying42 (hval 0 42 v0 rfl rfl)
  have k0 := h0
  have lt0 : ∀ x ∈ p0, x.block < W.heap.size := by obtain ⟨m, hm⟩ := k0; exact DataW.trod_lt m _ _ _ hm
  obtain ⟨z0, w0⟩ : ∃ zs, IsRow .u8 W a0 len0 cap0 zs := by
    obtain ⟨fuel, hf⟩ := h0
    rcases open_ints Try.underlying42 Try.underlying5 (by kernel_rfl) hf with ⟨hcs, _⟩ | ⟨x, l, c, zs, hcs, _, hl, hm, hz, _, hcell, hwz⟩
    · simp [Value.cells] at hcs
      obtain ⟨rfl, rfl, rfl⟩ := hcs
      exact ⟨[], .inl ⟨rfl, rfl, rfl, rfl⟩⟩
    · simp [Value.cells] at hcs
      obtain ⟨rfl, rfl, rfl⟩ := hcs
      exact ⟨zs, .inr ⟨_, rfl, hl, hm, by simpa using hz, hcell, hwz⟩⟩
  obtain ⟨a1, len1, cap1, rfl⟩ := okWide_slice Try.underlying42 (hval 1 42 v1 rfl rfl)
  have k1 := h1
  have lt1 : ∀ x ∈ p1, x.block < W.heap.size := by obtain ⟨m, hm⟩ := k1; exact DataW.trod_lt m _ _ _ hm
  obtain ⟨z1, w1⟩ : ∃ zs, IsRow .u8 W a1 len1 cap1 zs := by
    obtain ⟨fuel, hf⟩ := h1
    rcases open_ints Try.underlying42 Try.underlying5 (by kernel_rfl) hf with ⟨hcs, _⟩ | ⟨x, l, c, zs, hcs, _, hl, hm, hz, _, hcell, hwz⟩
    · simp [Value.cells] at hcs
      obtain ⟨rfl, rfl, rfl⟩ := hcs
      exact ⟨[], .inl ⟨rfl, rfl, rfl, rfl⟩⟩
    · simp [Value.cells] at hcs
      obtain ⟨rfl, rfl, rfl⟩ := hcs
      exact ⟨zs, .inr ⟨_, rfl, hl, hm, by simpa using hz, hcell, hwz⟩⟩
  clear hA0 hval0
  refine (law w0 w1).mono fun e W' ⟨he, bel⟩ => ?_
  subst he
  exact ⟨_, rfl, _, _, _, [], _, [], hW', trodAll_mk1 (shut_bool Try.underlying4 _), (trodAll_cons_mk (Below.trod laidOut (by kernel_rfl) (of_decide_eq_true (by kernel_rfl)) k0 bel lt0) (trodAll_cons_mk (Below.trod laidOut (by kernel_rfl) (of_decide_eq_true (by kernel_rfl)) k1 bel lt1) trodAll_mk0)), rfl, bel.frame _, fun h => by cases h⟩

theorem over : Rows.fnLeastTurnsRow.holds Try.pinned (OpenSpec.ofChange Rows.fnLeastTurnsSpec) :=
  OpenClaim.holds_of_wide 6 Try.f6 rfl rfl rfl rfl rfl rfl rfl ⟨rfl, rfl, rfl, rfl, rfl⟩ rfl rfl rfl rfl rfl (by kernel_rfl) Try.func6 (by kernel_rfl)
    (of_decide_eq_true (by kernel_rfl)) (by unfold Func.isWrapper; first | (rw [if_pos (by decide +kernel)]; kernel_rfl) | (rw [if_neg (by decide +kernel)]; exact ⟨rfl, rfl⟩))
    (fun os started H enc _ => lifted os started H enc)

theorem proved : Rows.FnLeastTurnsSaid := over
end Go.Proofs.Ytjainjpcpnoikaa.fnLeastTurns
