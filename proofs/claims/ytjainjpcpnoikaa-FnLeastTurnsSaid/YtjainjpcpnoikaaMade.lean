/-
  The least set: what the program makes. No condition of its own.
-/
import Derived.Test.YtjainjpcpnoikaaMadeD
namespace Go.Proofs.Ytjainjpcpnoikaa
set_option linter.unusedVariables false
set_option linter.unusedSimpArgs false
open Go.RowKit
set_option maxRecDepth 100000

theorem joinN_calls (a b : Nat) (w : World) (ha : a < 4096) (hb : b < 4096) :
    Calls Try.prog 96 #[.int .u16 (a : Int), .int .u16 (b : Int)] w fun e w' => e = .returned (.int .u16 ((a ||| b : Nat) : Int)) ∧ w = w' := by
  have hor := or_u16 a b ha hb
  go_enter Try.func96, Try.ntmps96
  go_wp2
  go_ret
  exact ⟨rfl, rfl⟩
theorem inM_calls (a b : Nat) (w : World) (ha : a < 4096) (hb : b < 4096) :
    Calls Try.prog 141 #[.int .u16 (a : Int), .int .u16 (b : Int)] w fun e w' => e = .returned (.bool (inM a b)) ∧ w = w' := by
  have hlaw := andNot_u16 a b ha hb
  go_enter Try.func141, Try.ntmps141
  go_wp2_with (go_in)
  go_ret
  exact ⟨rfl, rfl⟩

set_option maxHeartbeats 1000000 in
theorem gives_calls {cs : List Value} {r : RuleD} {w : World} (m : Nat) (hm : m < 4096) (h : Rd.R w cs r) :
    Calls Try.prog 140 #[.agg cs.toArray, .int .u16 (m : Int)] w fun e w' => e = .returned (.int .u16 (givesM r m : Int)) ∧ Below w.heap.size w w' := by
  obtain ⟨c1, c4, rfl, hf, g1, g4⟩ := h
  obtain ⟨ah, kh, rfl, _, hh⟩ := g1.sl
  have tb : Below w.heap.size w (w.alloc (.cells #[.bool r.choice, .slice ah r.heads.length kh, .bool r.weight, .int .i64 r.bound, c4] 69)) := (Below.refl _ _).alloc (Nat.le_refl _) _
  have hhI := (hh.later tb).ints
  have hml := maskOf_lt r.heads
  have one4 := g4.one1
  clear g1 g4 hf hh
  cases hc : r.choice
  · have hv := Lib.hid (givesM_F (m := m) hc)
    rw [hc] at tb hhI
    go_enter Try.func140, Try.ntmps140
    go_wp2_with (go_at_call 57; refine (atomsIn_calls _ _ _ _ hhI).mono ?_; rintro e w' ⟨rfl, rfl⟩)
    go_ret
    exact ⟨ret_int (by rw [hv.out]), tb⟩
  · have hv := Lib.hid (givesM_T (m := m) hc)
    rw [hc] at tb hhI
    go_enter Try.func140, Try.ntmps140
    go_wp2_with (first | (go_at_call 57; refine (atomsIn_calls _ _ _ _ hhI).mono ?_; rintro e w' ⟨rfl, rfl⟩) | (go_at_call 58; refine (meet_calls _ _ _ hml hm).mono ?_; rintro e w' ⟨rfl, rfl⟩))
    go_ret
    exact ⟨ret_int (by rw [hv.out]), tb⟩

def natOf : Value → Nat
  | .int _ n => n.toNat
  | _ => 0

set_option maxHeartbeats 4000000 in
theorem made_calls {cs : List Value} {p : ProgD} {w : World} (xs : List Int) (all : Bool) (f : RuleD → RuleD) (ch mo : Nat) (hch : ch < 4096) (hmo : mo < 4096) (H : MoreOk p.rules xs all f ch mo) (h : Rd.R w cs p) (hok : ∀ r ∈ p.rules, ruleOkB r 12 = true) :
    Calls Try.prog 111 #[.agg cs.toArray, .int .u16 (maskOf xs : Int), .int .u16 (ch : Int), .int .u16 (mo : Int)] w fun e w' => ∃ m : Nat, e = .returned (.int .u16 (m : Int)) ∧ (m < 4096 ∧ mset m = leastL (p.rules.map f) xs all) ∧ Below w.heap.size w w' := by
  have hw := Lib.hid (wts_ok hok)
  have HOK := Lib.hid hok
  have hxl := maskOf_lt xs
  have HH := Lib.hid H
  clear H
  clear hok
  obtain ⟨c1, c2, c4, c5, c6, c7, rfl, hf, g1, g2, g4, g5, g6, g7⟩ := h
  obtain ⟨a1, k1, rfl, _, h1⟩ := g1.sl
  have hm1 := h1.1
  have CX := Cells.new w [.int .i64 p.atoms, .slice a1 p.rules.length k1, c2, .bool p.projOn, c4, c5, c6, c7] 36
  have tb : Below w.heap.size w (w.alloc (.cells #[.int .i64 p.atoms, .slice a1 p.rules.length k1, c2, .bool p.projOn, c4, c5, c6, c7] 36)) := (Below.refl _ _).alloc (Nat.le_refl _) _
  clear g1 g2 g4 g5 g6 g7 hf
  go_enter Try.func111, Try.ntmps111
  go_wp2
  have CX1 := Lib.hid CX
  have t1 := tb
  clear CX tb
  go_loopw [9] (fun s wo => ∃ m0 : Nat, s = .int .u16 (m0 : Int) ∧ Hid (MadeJ (p.rules.map f) xs all m0) ∧ Hid (Cells wo w.heap.size 0 [.int .i64 p.atoms, .slice a1 p.rules.length k1, c2, .bool p.projOn, c4, c5, c6, c7]) ∧ Below w.heap.size w wo) (fun s _ => 13 - (mset (natOf s)).length)
  case atStart => exact ⟨0, rfl, madeJ_zero, CX1, t1⟩
  case round =>
    obtain ⟨m0, rfl, hJ0, hX0, hb0⟩ := hrel
    obtain ⟨y0, y1, y2, y3, y4, y5, y6, y7⟩ := cells8 hX0.out
    have hm0 := hJ0.out.1
    clear CX1 t1
    go_wp2
    clear y0 y1 y2 y3 y4 y5 y6 y7
    go_loopw [9, 18] (fun s i wr => ∃ m k : Nat, k ≤ p.rules.length ∧ i = .int .i64 k ∧ s = .int .u16 (m : Int) ∧ Hid (MadeI (p.rules.map f) xs all m0 m k) ∧ Hid (Cells wr w.heap.size 0 [.int .i64 p.atoms, .slice a1 p.rules.length k1, c2, .bool p.projOn, c4, c5, c6, c7]) ∧ Below w.heap.size w wr) (fun _ i _ => p.rules.length - (intOf i).toNat)
    case atStart => exact ⟨m0, 0, Nat.zero_le _, rfl, rfl, madeI_start hJ0.out, hX0, hb0⟩
    case round =>
      obtain ⟨m, k, hk, rfl, rfl, hI0, hX, hb⟩ := hrel
      have hml := hI0.out.1.1
      have hsz := hb.size
      clear hX0 hb0
      by_cases hlt : k < p.rules.length
      · obtain ⟨b, off, rfl, hc⟩ := h1.base (by omega)
        obtain ⟨ecs, hC, hR⟩ := hc k hlt
        have hC := hC.later hb
        have hR := Rd.mono hb hR
        have hok12 := HOK.out _ (nth_mem hlt)
        have hR0 := hR
        obtain ⟨d1, d4, rfl, hf', r1, r4⟩ := hR0
        obtain ⟨ah, kh, rfl, _, _⟩ := r1.sl
        obtain ⟨ab, kb, rfl, _, _⟩ := r4.sl
        have u0 := hC.c0
        have u1 := hC.c1
        have u2 := hC.c2
        have u3 := hC.c3
        have u4 := hC.c4
        rw [show Rd.k RuleD = 5 from rfl] at u0 u1 u2 u3 u4
        have hbA := hb.alloc hb.size (.cells #[.bool (nth p.rules k).choice, .slice ah (nth p.rules k).heads.length kh, .bool (nth p.rules k).weight, .int .i64 (nth p.rules k).bound, .slice ab (nth p.rules k).body.length kb] 69)
        have hXA := Lib.hid (hX.out.alloc (.cells #[.bool (nth p.rules k).choice, .slice ah (nth p.rules k).heads.length kh, .bool (nth p.rules k).weight, .int .i64 (nth p.rules k).bound, .slice ab (nth p.rules k).body.length kb] 69))
        have hCL := Lib.hid (Cells.new wr [.bool (nth p.rules k).choice, .slice ah (nth p.rules k).heads.length kh, .bool (nth p.rules k).weight, .int .i64 (nth p.rules k).bound, .slice ab (nth p.rules k).body.length kb] 69)
        have hR := Rd.mono ((Below.refl wr.heap.size wr).alloc (Nat.le_refl _) (.cells #[.bool (nth p.rules k).choice, .slice ah (nth p.rules k).heads.length kh, .bool (nth p.rules k).weight, .int .i64 (nth p.rules k).bound, .slice ab (nth p.rules k).body.length kb] 69)) hR
        have hgl := givesM_lt (nth p.rules k) ch
        have hml2 : givesM (nth p.rules k) ch &&& mo < 4096 := moreG_lt ch mo (nth p.rules k)
        clear hC hc hX r1 r4
        cases hI : inM (givesM (nth p.rules k) ch &&& mo) m
        · have hI' := Lib.hid (show inM (moreG ch mo (nth p.rules k)) m = false from hI)
          have hRe : Hid (reachI (nth p.rules k) m (maskOf xs) = reachB (nth p.rules k) (h2B (mset m) xs)) := by
            show _ = _
            rw [← reachI_h2 hok12 (rd_rule hR), mask_mset hml]
          cases hB : reachB (nth p.rules k) (h2B (mset m) xs)
          · have hS := Lib.hid (madeI_no HH.out hlt hI0.out hB)
            clear hI0
            go_wp2_with fail
            refine (gives_calls _ hch hR).mono ?_
            rintro e w2 ⟨rfl, b2⟩
            have hb2 := hbA.step b2
            have hX2 := Lib.hid (hXA.out.later b2)
            obtain ⟨z0, z1, z2, z3, z4⟩ := cells5 (hCL.out.later b2)
            go_wp2_with (first | (go_at_call 58; refine (meet_calls _ _ _ hgl hmo).mono ?_; rintro e w' ⟨rfl, rfl⟩) | (go_at_call 141; refine (inM_calls _ _ _ hml2 hml).mono ?_; rintro e w' ⟨he, rfl⟩; rw [hI] at he; subst he))
            refine (implReach2_calls m (maskOf xs) hml hxl (Rd.mono b2 hR) hok12).mono ?_
            rintro e w3 ⟨he, b3⟩
            rw [hRe.out, hB] at he
            subst he
            have hb3 := hb2.step b3
            have hX3 := Lib.hid (hX2.out.later b3)
            clear hB hI
            go_wp2
            go_roundw
            case rel => exact ⟨m, k + 1, by omega, by go_num, rfl, hS, hX3, hb3⟩
            case measure => simp [intOf]; omega
          · have hS := Lib.hid (madeI_yes HH.out hw.out hlt hI0.out hI'.out hB)
            clear hI0
            go_wp2_with fail
            refine (gives_calls _ hch hR).mono ?_
            rintro e w2 ⟨rfl, b2⟩
            have hb2 := hbA.step b2
            have hX2 := Lib.hid (hXA.out.later b2)
            obtain ⟨z0, z1, z2, z3, z4⟩ := cells5 (hCL.out.later b2)
            go_wp2_with (first | (go_at_call 58; refine (meet_calls _ _ _ hgl hmo).mono ?_; rintro e w' ⟨rfl, rfl⟩) | (go_at_call 141; refine (inM_calls _ _ _ hml2 hml).mono ?_; rintro e w' ⟨he, rfl⟩; rw [hI] at he; subst he))
            refine (implReach2_calls m (maskOf xs) hml hxl (Rd.mono b2 hR) hok12).mono ?_
            rintro e w3 ⟨he, b3⟩
            rw [hRe.out, hB] at he
            subst he
            have hb3 := hb2.step b3
            have hX3 := Lib.hid (hX2.out.later b3)
            clear hB hI
            go_wp2_with (go_at_call 96; refine (joinN_calls _ _ _ hml hml2).mono ?_; rintro e w' ⟨rfl, rfl⟩)
            go_roundw
            case rel => exact ⟨m ||| moreG ch mo (nth p.rules k), k + 1, by omega, by go_num, rfl, hS, hX3, hb3⟩
            case measure => simp [intOf]; omega
        · have hS := Lib.hid (madeI_in HH.out hlt hI0.out hI)
          clear hI0
          go_wp2_with fail
          refine (gives_calls _ hch hR).mono ?_
          rintro e w2 ⟨rfl, b2⟩
          have hb2 := hbA.step b2
          have hX2 := Lib.hid (hXA.out.later b2)
          obtain ⟨z0, z1, z2, z3, z4⟩ := cells5 (hCL.out.later b2)
          go_wp2_with (first | (go_at_call 58; refine (meet_calls _ _ _ hgl hmo).mono ?_; rintro e w' ⟨rfl, rfl⟩) | (go_at_call 141; refine (inM_calls _ _ _ hml2 hml).mono ?_; rintro e w' ⟨he, rfl⟩; rw [hI] at he; subst he))
          clear hI
          go_roundw
          case rel => exact ⟨m, k + 1, by omega, by go_num, rfl, hS, hX2, hb2⟩
          case measure => simp [intOf]; omega
      · obtain rfl : k = p.rules.length := by omega
        by_cases he : m = m0
        · subst he
          have hS := Lib.hid (madeI_end HH.out hw.out hI0.out)
          go_wp2
          go_ret
          exact ⟨m, rfl, ⟨hml, hS.out⟩, hb⟩
        · have hne : ((m : Int) == (m0 : Int)) = false := by simp; omega
          have hL := madeI_less hI0.out hm0 he
          have hl12 := mset_len m
          clear he
          go_wp2
          go_roundw
          case rel => exact ⟨m, rfl, hI0.out.1, hX, hb⟩
          case measure => simp [natOf]; omega

end Go.Proofs.Ytjainjpcpnoikaa
