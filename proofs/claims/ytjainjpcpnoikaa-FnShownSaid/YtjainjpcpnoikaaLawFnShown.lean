/-
  laws.FnShown returns true for all byte strings: what is shown of a set is shown of its part of the atoms that conditions name.
  Conditions: none (what every row of this form says by itself: the arguments can be read as data).
-/
import Derived.Test.YtjainjpcpnoikaaShw
import Derived.Test.YtjainjpcpnoikaaDrawN
import Derived.Test.YtjainjpcpnoikaaAnyW
import Derived.Deep.RegionHeld3
import Derived.Test.YtjainjpcpnoikaaOpen
import Derived.Test.YtjainjpcpnoikaaRows
import Derived.WalkKit
import Derived.ProofKit
import Derived.OpenShut
import Derived.ShutString
import Derived.ChangeOld
import Derived.Below
namespace Go.Proofs.Ytjainjpcpnoikaa.fnShown
open Go.ChangeShapes Go.WideShapes Go.ChangeAt Go.RowKit
open Go.ChangeMaps (open_string shut_string)
set_option linter.unusedVariables false
set_option linter.unusedSimpArgs false

theorem own : ownKnob Try.prog.godebug = none := by kernel_rfl
theorem laidOut : laidOutB Try.prog = true := by kernel_rfl

theorem any_ok : AnyOk := fun c N w h hN => any_calls c N w h hN

set_option maxRecDepth 100000 in
set_option maxHeartbeats 8000000 in
theorem law0 {a : Option Addr} {bs : List Int} {cap : Nat} {w : World} (h : Bytes w a bs) :
    Calls Try.prog 5 #[.slice a bs.length cap] w fun e w' => e = .returned (.bool true) ∧ Below w.heap.size w w' := by
  have hb1 : decide (1048576 < (bs.length : Int)) = false := decide_eq_false (by have := h.1; omega)
  go_enter Try.func5, Try.ntmps5
  go_wp2_with fail
  refine (big_calls _ _ _ _ _ hb1).mono ?_
  rintro e w' ⟨rfl, rfl⟩
  go_wp2_with fail
  refine (DrawShown_calls any_ok _ _ _ _ h).mono ?_
  rintro e w1 ⟨cs, p, v, xs, rfl, hp, gx, hwee, hlx, t1⟩
  clear h hb1 hwee
  have hp0 := hp
  obtain ⟨d1, d2, d4, d5, d6, d7, rfl, hfa, g1, g2, g4, g5, g6, g7⟩ := hp0
  obtain ⟨a5, k5, rfl, _, h5⟩ := g5.sl
  clear g1 g2 g4 g5 g6 g7
  have l1 := Rd.one hp
  have st1 := sto Try.prog (l1 d1 (by simp))
  have st2 := sto Try.prog (l1 d2 (by simp))
  have st4 := sto Try.prog (l1 d4 (by simp))
  have st6 := sto Try.prog (l1 d6 (by simp))
  have st7 := sto Try.prog (l1 d7 (by simp))
  have CX := Cells.new w1 [.int .i64 p.atoms, d1, d2, .bool p.projOn, d4, .slice a5 p.shows.length k5, d6, d7] 36
  have tn := (Below.refl w1.heap.size w1).alloc (Nat.le_refl _) (.cells #[.int .i64 p.atoms, d1, d2, .bool p.projOn, d4, .slice a5 p.shows.length k5, d6, d7] 36)
  have tb := t1.alloc t1.size (.cells #[.int .i64 p.atoms, d1, d2, .bool p.projOn, d4, .slice a5 p.shows.length k5, d6, d7] 36)
  have hp := Rd.mono tn hp
  have gx := Rd.mono (α := List Int) tn gx
  have h5 := h5.later tn
  clear l1
  obtain ⟨y0, y1, y2, y3, y4, y5, y6, y7⟩ := cells8 CX
  go_wp2_with fail
  refine (implShown_calls hp gx).mono ?_
  rintro e w2 ⟨u, rfl, o2, b2⟩
  obtain ⟨pu, cu, rfl, _, _⟩ := o2.rd.sl
  have t2 := tb.step b2
  have CX := CX.later b2
  have hp := Rd.mono b2 hp
  have gx := Rd.mono (α := List Int) b2 gx
  have h5 := h5.later b2
  clear y0 y1 y2 y3 y4 y5 y6 y7
  obtain ⟨y0, y1, y2, y3, y4, y5, y6, y7⟩ := cells8 (CX)
  have hlen : (shownR p xs).length ≤ 20 := shownR_len p xs
  cases hP : progOkB p
  · have hz : (((shownR p xs).length : Int) == 0) = true := by rw [shownR_no hP]; rfl
    have hz0 : ((shownR p xs).length : Int) = 0 := by rw [shownR_no hP]; rfl
    go_wp2_with fail
    refine (specProgOk_calls hp).mono ?_
    rintro e w5 ⟨he, b5⟩
    rw [hP] at he
    subst he
    go_wp2
    go_ret
    exact ⟨rfl, t2.step b5⟩
  · have hS := Lib.hid (shows_ok hP)
    have hM := Lib.hid (shown_meet (xs := xs) hP)
    have hsl : p.shows.length ≤ 20 := shows_len hP
    have hAL := Lib.hid (shAt_len (fun s hs => (shows_ok hP s hs).1))
    go_wp2_with fail
    refine (specProgOk_calls hp).mono ?_
    rintro e w5 ⟨he, b5⟩
    rw [hP] at he
    subst he
    have t5 := t2.step b5
    have CX := CX.later b5
    have hp := Rd.mono b5 hp
    have gx := Rd.mono (α := List Int) b5 gx
    have h5 := h5.later b5
    have o2 := o2.later b5
    clear y0 y1 y2 y3 y4 y5 y6 y7
    have hm5 := h5.1
    obtain ⟨ss, hss⟩ : ∃ ss, ss = p.shows := ⟨_, rfl⟩
    rw [← hss] at CX h5 hm5 hS hM hsl hAL
    replace hss := Lib.hid hss
    go_wp2
    go_loopw [6, 7] (fun v i wr => ∃ k : Nat, k ≤ ss.length ∧ i = .int .i64 (k : Int) ∧ OwnI w5.heap.size wr v (shAt ss k) ∧ Below w5.heap.size w5 wr) (fun _ i _ => ss.length - (intOf i).toNat)
    case atStart => exact ⟨0, Nat.zero_le _, rfl, OwnI.new _ _ (Nat.le_refl _), (Below.refl _ _).alloc (Nat.le_refl _) _⟩
    case round =>
      obtain ⟨k, hk, rfl, ho, hb⟩ := hrel
      obtain ⟨y0, y1, y2, y3, y4, y5, y6, y7⟩ := cells8 (CX.later hb)
      by_cases hlt : k < ss.length
      · obtain ⟨b, off, rfl, hc⟩ := h5.base (by omega)
        obtain ⟨ecs, hC, hR⟩ := hc k hlt
        have hSk := Lib.hid (hS.out _ (nth_mem hlt))
        have hlk : (nth ss k).cond.length ≤ 20 := hSk.out.1
        have hal := Lib.hid (hAL.out k hk)
        have HN : Hid (shAt ss (k + 1) = shAt ss k ++ absL (nth ss k).cond) := rfl
        generalize nth ss k = s at *
        obtain ⟨e1, rfl, _, r1⟩ := hR
        obtain ⟨ac, kc, rfl, _, hcd⟩ := r1.sl
        have HCC := Lib.hid hC
        clear hc hC
        obtain ⟨wo, rfl⟩ : ∃ wo, wo = wr := ⟨_, rfl⟩
        go_wp2
        clear y0 y1 y2 y3 y4 y5 y6 y7
        go_loopw [6, 8] (fun v i wr => ∃ j : Nat, j ≤ s.cond.length ∧ i = .int .i64 (j : Int) ∧ OwnI w5.heap.size wr v (shAt ss k ++ absL (s.cond.take j)) ∧ Below w5.heap.size w5 wr) (fun _ i _ => s.cond.length - (intOf i).toNat)
        case atStart => exact ⟨0, Nat.zero_le _, rfl, by rw [List.take_zero]; show OwnI _ _ _ (shAt ss k ++ []); rw [List.append_nil]; exact ho, hb⟩
        case round =>
          obtain ⟨j, hj, rfl, ho2, hb2⟩ := hrel
          have hsz := hb2.size
          obtain ⟨y0, y1, y2, y3, y4, y5, y6, y7⟩ := cells8 (CX.later hb2)
          have hC := HCC.out.later hb2
          have u0 := hC.c0
          have u1 := hC.c1
          rw [show Rd.k ShowD = 2 from rfl] at u0 u1
          clear hC
          by_cases hlj : j < s.cond.length
          · obtain ⟨b3, off3, rfl, hc3⟩ := (hcd.later hb2).ints.at (by omega)
            have hcj := hc3 j hlj
            have hll := hSk.out.2 _ (el_mem hlj)
            have hst := Lib.hid (absL_step hlj)
            have hlen9 : (shAt ss k ++ absL (s.cond.take j)).length ≤ 1000000000 := by
              have := hal.out
              rw [List.length_append]
              unfold absL
              rw [List.length_map, List.length_take]
              omega
            clear hc3
            have hll2 : (1 ≤ el s.cond j ∧ el s.cond j ≤ 12) ∨ (-12 ≤ el s.cond j ∧ el s.cond j ≤ -1) := by
              simpa only [litB, btwB, Bool.or_eq_true, decide_eq_true_eq] using hll
            clear hll
            by_cases hneg : el s.cond j < 0
            · have hab : absI (el s.cond j) = -(el s.cond j) := if_pos hneg
              have hst : Hid (absL (s.cond.take (j + 1)) = absL (s.cond.take j) ++ [-(el s.cond j)]) := by have := hst.out; rw [hab] at this; exact this
              clear hab
              generalize el s.cond j = l at *
              have hF : Fits (-l) := ⟨by omega, by omega⟩
              have hnl : IntKind.i64.wrap (-l) = -l := IntWalk.i64_in _ (by omega)
              go_wp2_with (at_builtin; refine wpList_append_int rfl _ _ rfl rfl ho2 rfl hlen9 hF (by omega) ?_; intro v' w' ho' hb' hg')
              go_roundw
              case rel => exact ⟨j + 1, by omega, by go_num, by rw [hst.out, ← List.append_assoc]; exact ho', hb2.trans hb'⟩
              case measure => simp [intOf]; omega
            · have hab : absI (el s.cond j) = el s.cond j := if_neg hneg
              have hst : Hid (absL (s.cond.take (j + 1)) = absL (s.cond.take j) ++ [el s.cond j]) := by have := hst.out; rw [hab] at this; exact this
              clear hab
              generalize el s.cond j = l at *
              have hF : Fits l := ⟨by omega, by omega⟩
              have hpos : 0 ≤ l := by omega
              go_wp2_with (at_builtin; refine wpList_append_int rfl _ _ rfl rfl ho2 rfl hlen9 hF (by omega) ?_; intro v' w' ho' hb' hg')
              go_roundw
              case rel => exact ⟨j + 1, by omega, by go_num, by rw [hst.out, ← List.append_assoc]; exact ho', hb2.trans hb'⟩
              case measure => simp [intOf]; omega
          · have hE : Hid (shAt ss k ++ absL (s.cond.take j) = shAt ss (k + 1)) := by show _ = _; rw [HN.out, absL_all _ (by omega)]
            go_wp2
            go_roundw
            case rel => exact ⟨k + 1, by omega, by go_num, by rw [← hE.out]; exact ho2, hb2⟩
            case measure => simp [intOf]; omega
      · have hE : Hid (shAt ss k = shAt p.shows p.shows.length) := by show _ = _; rw [← hss.out, show k = ss.length by omega]
        have hM : Hid (shownR p (pickTo (pickM xs (shAt ss k)) 12) = shownR p xs) := by show _ = _; rw [hE.out]; have := hM.out; rwa [hss.out] at this
        have hp := Rd.mono hb hp
        have gx := Rd.mono (α := List Int) hb gx
        have o2 := o2.later hb
        have t6 := t5.step hb
        obtain ⟨ax, cx, rfl, _, hx⟩ := gx.sl
        obtain ⟨pz, cz, rfl, _, _⟩ := ho.open
        generalize shAt ss k = Z at *
        have CX6 := (CX.later hb).drew
        go_upto_region 18 with fail
        have t7 := t6.drew
        have hp := Rd.mono ((Below.refl wr.heap.size wr).drew) hp
        have gx := Rd.mono (α := List Int) ((Below.refl wr.heap.size wr).drew) gx
        have o2 := o2.drew
        have hx := hx.later ((Below.refl wr.heap.size wr).drew)
        have ho := ho.kept ((Below.refl wr.heap.size wr).drew)
        clear y0 y1 y2 y3 y4 y5 y6 y7
        refine wp_region_held_drew (S := fun W' => W'.cell? ⟨w1.heap.size, 0, none⟩ = some (.int .i64 p.atoms) ∧ W'.cell? ⟨w1.heap.size, 1, none⟩ = some d1 ∧ W'.cell? ⟨w1.heap.size, 2, none⟩ = some d2 ∧ W'.cell? ⟨w1.heap.size, 3, none⟩ = some (.bool p.projOn) ∧ W'.cell? ⟨w1.heap.size, 4, none⟩ = some d4 ∧ W'.cell? ⟨w1.heap.size, 5, none⟩ = some (.slice a5 ss.length k5) ∧ W'.cell? ⟨w1.heap.size, 6, none⟩ = some d6 ∧ W'.cell? ⟨w1.heap.size, 7, none⟩ = some d7) (by kernel_rfl) (cells8 CX6) (fun hHeld => ?_)
        generalize wr.drew = wq at *
        refine takeD (i := 0) (v := .slice pu (shownR p xs).length cu) (some 62) rfl rfl (by kernel_rfl) (by kernel_rfl) (by kernel_rfl) (fun _ _ _ h => h) (Or.inl ⟨by rfl, fun w' hw' => ?_⟩) hHeld ?_
        · first | (go_simp; done) | (obtain ⟨s0, s1, s2, s3, s4, s5, s6, s7⟩ := hw'; go_simp; done)
        try simp only [Act.put, List.setIfInBounds_toArray, List.set_cons_zero, List.set_cons_succ]
        refine takeD (i := 1) (v := .agg #[.int .i64 p.atoms, d1, d2, .bool p.projOn, d4, .slice a5 ss.length k5, d6, d7]) (some 63) rfl rfl (by kernel_rfl) (by kernel_rfl) (by kernel_rfl) (fun _ _ _ h => h) (Or.inl ⟨by rfl, fun w' hw' => ?_⟩) hHeld ?_
        · first | (go_simp; done) | (obtain ⟨s0, s1, s2, s3, s4, s5, s6, s7⟩ := hw'; go_simp; done)
        try simp only [Act.put, List.setIfInBounds_toArray, List.set_cons_zero, List.set_cons_succ]
        refine takeD (i := 2) (v := .slice ax xs.length cx) (some 64) rfl rfl (by kernel_rfl) (by kernel_rfl) (by kernel_rfl) (fun _ _ _ h => h) (Or.inl ⟨by rfl, fun w' hw' => ?_⟩) hHeld ?_
        · first | (go_simp; done) | (obtain ⟨s0, s1, s2, s3, s4, s5, s6, s7⟩ := hw'; go_simp; done)
        try simp only [Act.put, List.setIfInBounds_toArray, List.set_cons_zero, List.set_cons_succ]
        rw [hss.out] at *
        refine wpAnyH_ready (rs := [3]) (by kernel_rfl) (by simp) ?_
        refine AllReadyH.cons rfl (fun K hK => ?_) AllReadyH.nil
        go_simp
        refine (specShown_calls hp gx).mono ?_
        rintro e w8 ⟨u8, rfl, o8, b8⟩
        have CX := CX6.later b8
        refine hK.out _ _ (cells8 CX) (fun hHeld => ?_)
        clear hK K
        try simp only [Act.put, List.setIfInBounds_toArray, List.set_cons_zero, List.set_cons_succ]
        refine wpAnyH_ready (rs := [4]) (by kernel_rfl) (by simp) ?_
        refine AllReadyH.cons rfl (fun K hK => ?_) AllReadyH.nil
        go_simp
        refine (sameTexts_calls (o2.later b8).rd o8.rd).mono ?_
        rintro e w9 ⟨rfl, b9⟩
        have CX := CX.later b9
        refine hK.out _ _ (cells8 CX) (fun hHeld => ?_)
        clear hK K
        try simp only [Act.put, List.setIfInBounds_toArray, List.set_cons_zero, List.set_cons_succ]
        refine takeD (i := 5) (v := .bool true) (some 67) rfl rfl (by kernel_rfl) (by kernel_rfl) (by kernel_rfl) (fun _ _ _ h => h) (Or.inl ⟨by rfl, fun w' hw' => ?_⟩) hHeld ?_
        · first | (go_simp; done) | (obtain ⟨s0, s1, s2, s3, s4, s5, s6, s7⟩ := hw'; go_simp; done)
        try simp only [Act.put, List.setIfInBounds_toArray, List.set_cons_zero, List.set_cons_succ]
        refine takeD (i := 6) (v := .agg #[.int .i64 p.atoms, d1, d2, .bool p.projOn, d4, .slice a5 p.shows.length k5, d6, d7]) (some 68) rfl rfl (by kernel_rfl) (by kernel_rfl) (by kernel_rfl) (fun _ _ _ h => h) (Or.inl ⟨by rfl, fun w' hw' => ?_⟩) hHeld ?_
        · first | (go_simp; done) | (obtain ⟨s0, s1, s2, s3, s4, s5, s6, s7⟩ := hw'; go_simp; done)
        try simp only [Act.put, List.setIfInBounds_toArray, List.set_cons_zero, List.set_cons_succ]
        refine takeD (i := 7) (v := .slice ax xs.length cx) (some 69) rfl rfl (by kernel_rfl) (by kernel_rfl) (by kernel_rfl) (fun _ _ _ h => h) (Or.inl ⟨by rfl, fun w' hw' => ?_⟩) hHeld ?_
        · first | (go_simp; done) | (obtain ⟨s0, s1, s2, s3, s4, s5, s6, s7⟩ := hw'; go_simp; done)
        try simp only [Act.put, List.setIfInBounds_toArray, List.set_cons_zero, List.set_cons_succ]
        refine takeD (i := 8) (v := .slice pz Z.length cz) (some 70) rfl rfl (by kernel_rfl) (by kernel_rfl) (by kernel_rfl) (fun _ _ _ h => h) (Or.inl ⟨by rfl, fun w' hw' => ?_⟩) hHeld ?_
        · first | (go_simp; done) | (obtain ⟨s0, s1, s2, s3, s4, s5, s6, s7⟩ := hw'; go_simp; done)
        try simp only [Act.put, List.setIfInBounds_toArray, List.set_cons_zero, List.set_cons_succ]
        refine takeD (i := 11) (v := .slice pu (shownR p xs).length cu) (some 73) rfl rfl (by kernel_rfl) (by kernel_rfl) (by kernel_rfl) (fun _ _ _ h => h) (Or.inl ⟨by rfl, fun w' hw' => ?_⟩) hHeld ?_
        · first | (go_simp; done) | (obtain ⟨s0, s1, s2, s3, s4, s5, s6, s7⟩ := hw'; go_simp; done)
        try simp only [Act.put, List.setIfInBounds_toArray, List.set_cons_zero, List.set_cons_succ]
        refine wpAnyH_ready (rs := [9]) (by kernel_rfl) (by simp) ?_
        refine AllReadyH.cons rfl (fun K hK => ?_) AllReadyH.nil
        go_simp
        refine (specSetMeet_calls _ _ _ _ _ _ _ ((hx.later b8).later b9).ints ((ho.kept b8).kept b9).ints).mono ?_
        rintro e w10 ⟨v10, rfl, o10, b10⟩
        have CX := CX.later b10
        refine hK.out _ _ (cells8 CX) (fun hHeld => ?_)
        clear hK K
        try simp only [Act.put, List.setIfInBounds_toArray, List.set_cons_zero, List.set_cons_succ]
        refine wpAnyH_ready (rs := [10]) (by kernel_rfl) (by simp) ?_
        refine AllReadyH.cons rfl (fun K hK => ?_) AllReadyH.nil
        go_simp
        refine (implShown_calls (Rd.mono b10 (Rd.mono b9 (Rd.mono b8 hp))) o10.own.rd).mono ?_
        rintro e w11 ⟨v11, rfl, o11, b11⟩
        rw [hM.out] at o11
        have CX := CX.later b11
        refine hK.out _ _ (cells8 CX) (fun hHeld => ?_)
        clear hK K
        try simp only [Act.put, List.setIfInBounds_toArray, List.set_cons_zero, List.set_cons_succ]
        refine wpAnyH_ready (rs := [12]) (by kernel_rfl) (by simp) ?_
        refine AllReadyH.cons rfl (fun K hK => ?_) AllReadyH.nil
        go_simp
        refine (sameTexts_calls o11.rd ((((o2.later b8).later b9).later b10).later b11).rd).mono ?_
        rintro e w12 ⟨rfl, b12⟩
        have CX := CX.later b12
        refine hK.out _ _ (cells8 CX) (fun hHeld => ?_)
        clear hK K
        try simp only [Act.put, List.setIfInBounds_toArray, List.set_cons_zero, List.set_cons_succ]
        refine takeD (i := 13) (v := .bool true) (some 75) rfl rfl (by kernel_rfl) (by kernel_rfl) (by kernel_rfl) (fun _ _ _ h => h) (Or.inl ⟨by rfl, fun w' hw' => ?_⟩) hHeld ?_
        · first | (go_simp; done) | (obtain ⟨s0, s1, s2, s3, s4, s5, s6, s7⟩ := hw'; go_simp; done)
        try simp only [Act.put, List.setIfInBounds_toArray, List.set_cons_zero, List.set_cons_succ]
        refine takeD (i := 14) (v := .bool true) (some 2) rfl rfl (by kernel_rfl) (by kernel_rfl) (by kernel_rfl) (fun _ _ _ h => h) (Or.inl ⟨by rfl, fun w' hw' => ?_⟩) hHeld ?_
        · first | (go_simp; done) | (obtain ⟨s0, s1, s2, s3, s4, s5, s6, s7⟩ := hw'; go_simp; done)
        try simp only [Act.put, List.setIfInBounds_toArray, List.set_cons_zero, List.set_cons_succ]
        refine wpAnyH_done (by kernel_rfl) ?_ _
        go_wp2
        go_ret
        exact ⟨rfl, ((((t7.step b8).step b9).step b10).step b11).step b12⟩
set_option maxRecDepth 100000 in
theorem law {a : Option Addr} {len cap : Nat} {zs : List Int} {w : World} (h : IsRow .u8 w a len cap zs) :
    Calls Try.prog 5 #[.slice a len cap] w fun e w' => e = .returned (.bool true) ∧ Below w.heap.size w w' := by
  by_cases hbig : len ≤ 1048576
  · obtain ⟨bs, rfl, hB⟩ := isRow_bytes h hbig
    exact law0 hB
  · have hb1 : decide (1048576 < (len : Int)) = true := decide_eq_true (by omega)
    go_enter Try.func5, Try.ntmps5
    go_wp2_with fail
    refine (big_calls _ _ _ _ _ hb1).mono ?_
    rintro e w' ⟨rfl, rfl⟩
    go_wp2
    go_ret
    exact ⟨rfl, Below.refl _ _⟩

set_option maxRecDepth 100000 in
theorem lifted (os : Os) (started : os.Started) (H : Type) (enc : TypeId × Value → H) :
    ReturnsInHanded {} Try.checked os 5 .any (Rows.fnShownSpec.pre6 enc Try.prog Try.f5 Rows.fnShownRow.domain false) (Rows.fnShownSpec.post enc Try.prog Try.f5 false true false false) := by
  refine returnsInHanded_of_change (C := Try.checked) own started (by kernel_rfl) Try.func5
    (ChangeSpec.witness6 (enc := enc) (C := Try.checked) false ⟨#[], #[.slice none 0 0], []⟩ 8 (by kernel_rfl) (by kernel_rfl) (by kernel_rfl) (by kernel_rfl)) ?_
  intro W base args ds gs before hval0 hW hcnd _
  have hval : ∀ (j : Nat) t v, Try.f5.params[j]? = some t → args[j]? = some v → Value.okWide Try.prog W .any base t v := hval0
  have hW' := hW
  obtain ⟨p, q, hA0, hV, rfl, hfz, hnd⟩ := hW
  have hA : DataW.TrodAll enc Try.prog W 0 (fun _ => true) true Try.f5.params.toList args.toList ds p := hA0
  rw [Try.params5] at hA hval
  obtain ⟨v0, vs0, d0, ds0, p0, q0, hargs, rfl, rfl, h0, r0⟩ := trodAll_cons hA
  obtain ⟨rfl, rfl, rfl⟩ := trodAll_nil r0
  obtain rfl : args = #[v0] := by cases args; simp_all
  obtain ⟨rfl, rfl⟩ := trodVars_none hV
  obtain ⟨a0, len0, cap0, rfl⟩ := okWide_slice Try.underlying42 (hval 0 42 v0 rfl rfl)
  have k0 := h0
  have lt0 : ∀ x ∈ p0, x.block < W.heap.size := by obtain ⟨m, hm⟩ := k0; exact DataW.trod_lt m _ _ _ hm
  obtain ⟨z0, w0⟩ : ∃ zs, IsRow .u8 W a0 len0 cap0 zs := by
    obtain ⟨fuel, hf⟩ := h0
    rcases open_ints Try.underlying42 Try.underlying5 (by kernel_rfl) hf with ⟨hcs, _⟩ | ⟨x, l, c, zs, hcs, _, hl, hm, hz, _, hcell, hwz⟩
    · simp [Value.cells] at hcs
      obtain ⟨rfl, rfl, rfl⟩ := hcs
      exact ⟨[], .inl ⟨rfl, rfl, rfl, rfl⟩⟩
    · simp [Value.cells] at hcs
      obtain ⟨rfl, rfl, rfl⟩ := hcs
      exact ⟨zs, .inr ⟨_, rfl, hl, hm, by simpa using hz, hcell, hwz⟩⟩
  clear hA0 hval0
  refine (law w0).mono fun e W' ⟨he, bel⟩ => ?_
  subst he
  exact ⟨_, rfl, _, _, _, [], _, [], hW', trodAll_mk1 (shut_bool Try.underlying4 _), (trodAll_cons_mk (Below.trod laidOut (by kernel_rfl) (of_decide_eq_true (by kernel_rfl)) k0 bel lt0) trodAll_mk0), rfl, bel.frame _, fun h => by cases h⟩

theorem over : Rows.fnShownRow.holds Try.pinned (OpenSpec.ofChange Rows.fnShownSpec) :=
  OpenClaim.holds_of_wide 5 Try.f5 rfl rfl rfl rfl rfl rfl rfl ⟨rfl, rfl, rfl, rfl, rfl⟩ rfl rfl rfl rfl rfl (by kernel_rfl) Try.func5 (by kernel_rfl)
    (of_decide_eq_true (by kernel_rfl)) (by unfold Func.isWrapper; first | (rw [if_pos (by decide +kernel)]; kernel_rfl) | (rw [if_neg (by decide +kernel)]; exact ⟨rfl, rfl⟩))
    (fun os started H enc _ => lifted os started H enc)

theorem proved : Rows.FnShownSaid := over
end Go.Proofs.Ytjainjpcpnoikaa.fnShown
