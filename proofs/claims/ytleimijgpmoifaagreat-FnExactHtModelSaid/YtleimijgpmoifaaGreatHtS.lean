/-
  Here and there: what spec answers of a pair. No condition of its own.
-/
import Derived.Test.YtleimijgpmoifaaGreatHtD
import Derived.Test.YtleimijgpmoifaaGreatAnsS
import Derived.Test.YtleimijgpmoifaaGreatSetsB
import Derived.Test.YtleimijgpmoifaaGreatBody
namespace Go.Proofs.YtleimijgpmoifaaGreat
set_option linter.unusedVariables false
set_option linter.unusedSimpArgs false
open Go.RowKit
set_option maxRecDepth 100000


set_option maxHeartbeats 4000000 in
theorem l13Pair_calls {cs : List Value} {p : ProgD} {w : World} {v v2 : Value} {hs ts : List Int} (h : Rd.R w cs p) (gh : RdL w [v] hs) (gt : RdL w [v2] ts) (hok : progOkB p = true) :
    Calls Tryz.prog 44 #[.agg cs.toArray, v, v2] w fun e w' => e = .returned (.bool (p.rules.all (prB hs ts))) ∧ Below w.heap.size w w' := by
  have h0 := h
  have hr12 := Lib.hid (rules12 hok)
  obtain ⟨c1, c2, c4, c5, c6, c7, rfl, hf, g1, g2, g4, g5, g6, g7⟩ := h0
  obtain ⟨a1, k1, rfl, _, h1⟩ := g1.sl
  obtain ⟨ah0, ch0, rfl, _, hhs⟩ := gh.sl
  obtain ⟨at0, ct0, rfl, _, hts⟩ := gt.sl
  have CX := Cells.new w [.int .i64 p.atoms, .slice a1 p.rules.length k1, c2, .bool p.projOn, c4, c5, c6, c7] 36
  have tb : Below w.heap.size w (w.alloc (.cells #[.int .i64 p.atoms, .slice a1 p.rules.length k1, c2, .bool p.projOn, c4, c5, c6, c7] 36)) := (Below.refl _ _).alloc (Nat.le_refl _) _
  have h1 := h1.later tb
  have hm1 := h1.1
  have gh := Rd.mono (α := List Int) tb gh
  have gt := Rd.mono (α := List Int) tb gt
  have hhs := hhs.later tb
  have hts := hts.later tb
  have CXH := Lib.hid CX
  have hzw : w.heap.size < (w.alloc (.cells #[.int .i64 p.atoms, .slice a1 p.rules.length k1, c2, .bool p.projOn, c4, c5, c6, c7] 36)).heap.size := by simp
  clear g1 g2 g4 g5 g6 g7 hf h
  go_enter Tryz.func44, Tryz.ntmps44
  generalize hwa : w.alloc _ = wa at *
  go_wp2
  clear CX
  go_loopw [7] (fun i wr => ∃ k : Nat, k ≤ p.rules.length ∧ i = .int .i64 k ∧ Hid ((p.rules.take k).all (prB hs ts) = true) ∧ Below wa.heap.size wa wr) (fun i _ => p.rules.length - (intOf i).toNat)
  case atStart => exact ⟨0, Nat.zero_le _, rfl, show (p.rules.take 0).all _ = true by simp, Below.refl _ _⟩
  case round =>
    obtain ⟨k, hk, rfl, hS, hb⟩ := hrel
    obtain ⟨y0, y1, y2, y3, y4, y5, y6, y7⟩ := cells8 (CXH.out.later hb)
    by_cases hlt : k < p.rules.length
    · have hok12 := hr12.out _ (nth_mem hlt)
      obtain ⟨b, off, rfl, hc⟩ := h1.base (by omega)
      obtain ⟨ecs, hC, hR⟩ := hc k hlt
      have hC := hC.later hb
      have hR := Rd.mono hb hR
      have hR0 := hR
      obtain ⟨d1, d4, rfl, hf', r1, r4⟩ := hR0
      obtain ⟨ah, kh, rfl, _, hh⟩ := r1.sl
      obtain ⟨ab, kb, rfl, _, _⟩ := r4.sl
      have u0 := hC.c0
      have u1 := hC.c1
      have u2 := hC.c2
      have u3 := hC.c3
      have u4 := hC.c4
      rw [show Rd.k RuleD = 5 from rfl] at u0 u1 u2 u3 u4
      have bA := (Below.refl wr.heap.size wr).alloc (Nat.le_refl _) (.cells #[.bool (nth p.rules k).choice, .slice ah (nth p.rules k).heads.length kh, .bool (nth p.rules k).weight, .int .i64 (nth p.rules k).bound, .slice ab (nth p.rules k).body.length kb] 117)
      have CR := Cells.new wr [.bool (nth p.rules k).choice, .slice ah (nth p.rules k).heads.length kh, .bool (nth p.rules k).weight, .int .i64 (nth p.rules k).bound, .slice ab (nth p.rules k).body.length kb] 117
      have hbA := hb.step bA
      have hR := Rd.mono bA hR
      have hh := hh.later bA
      clear hC hc r1 r4
      cases hcc : (nth p.rules k).choice
      · rw [hcc] at u0 bA CR hbA hR hh
        cases hB : reachB (nth p.rules k) (h2B hs ts)
        · cases hT : reachB (nth p.rules k) (h2B ts ts)
          · have hS' := Lib.hid (all_take hlt hS.out (prB_4 hcc (by rw [hB]; rfl) hT))
            clear hS
            have gh1 := Rd.mono (α := List Int) hbA gh
            have gt1 := Rd.mono (α := List Int) hbA gt
            go_wp2_with fail
            refine (l02Reaches_calls hR gh1 gt1 hok12).mono ?_
            rintro e w2 ⟨he, b2⟩
            rw [hB] at he
            subst he
            have hb2 := hbA.step b2
            have CR2 := CR.later b2
            obtain ⟨z0, z1, z2, z3, z4⟩ := cells5 CR2
            have hR2 := Rd.mono b2 hR
            have hh2 := hh.later b2
            go_wp2_with fail
            refine (l02Reaches_calls hR2 (Rd.mono b2 gt1) (Rd.mono b2 gt1) hok12).mono ?_
            rintro e w3 ⟨he, b3⟩
            rw [hT] at he
            subst he
            have hb3 := hb2.step b3
            go_wp2
            go_roundw
            case rel => exact ⟨k + 1, by omega, by go_num, hS', hb3⟩
            case measure => simp [intOf]; omega
          · have HP := Lib.hid (prB_5 (hs := hs) hcc (by rw [hB]; rfl) hT)
            cases hM : (((meetB (nth p.rules k) ts).length : Int) == 0)
            · have hS' := Lib.hid (all_take hlt hS.out (by rw [HP.out, hM]; rfl))
              clear hS HP
              unfold meetB at hM
              have gh1 := Rd.mono (α := List Int) hbA gh
              have gt1 := Rd.mono (α := List Int) hbA gt
              go_wp2_with fail
              refine (l02Reaches_calls hR gh1 gt1 hok12).mono ?_
              rintro e w2 ⟨he, b2⟩
              rw [hB] at he
              subst he
              have hb2 := hbA.step b2
              have CR2 := CR.later b2
              obtain ⟨z0, z1, z2, z3, z4⟩ := cells5 CR2
              have hR2 := Rd.mono b2 hR
              have hh2 := hh.later b2
              go_wp2_with fail
              refine (l02Reaches_calls hR2 (Rd.mono b2 gt1) (Rd.mono b2 gt1) hok12).mono ?_
              rintro e w3 ⟨he, b3⟩
              rw [hT] at he
              subst he
              have hb3 := hb2.step b3
              clear z0 z1 z2 z3 z4
              obtain ⟨z0, z1, z2, z3, z4⟩ := cells5 (CR2.later b3)
              go_wp2_with fail
              refine (specSetMeet_calls _ _ _ _ _ _ _ (hh2.later b3).ints (hts.later hb3).ints).mono ?_
              rintro e w4 ⟨v4, rfl, ho4, b4⟩
              obtain ⟨p4, q4, hv4, _, _⟩ := ho4.open
              subst hv4
              have hb4 := hb3.step b4
              go_wp2
              go_roundw
              case rel => exact ⟨k + 1, by omega, by go_num, hS', hb4⟩
              case measure => simp [intOf]; omega
            · have hv2 : Hid (p.rules.all (prB hs ts) = false) := by show _ = _; rw [all_no hlt (by rw [HP.out, hM]; rfl)]
              clear hS HP
              unfold meetB at hM
              have gh1 := Rd.mono (α := List Int) hbA gh
              have gt1 := Rd.mono (α := List Int) hbA gt
              go_wp2_with fail
              refine (l02Reaches_calls hR gh1 gt1 hok12).mono ?_
              rintro e w2 ⟨he, b2⟩
              rw [hB] at he
              subst he
              have hb2 := hbA.step b2
              have CR2 := CR.later b2
              obtain ⟨z0, z1, z2, z3, z4⟩ := cells5 CR2
              have hR2 := Rd.mono b2 hR
              have hh2 := hh.later b2
              go_wp2_with fail
              refine (l02Reaches_calls hR2 (Rd.mono b2 gt1) (Rd.mono b2 gt1) hok12).mono ?_
              rintro e w3 ⟨he, b3⟩
              rw [hT] at he
              subst he
              have hb3 := hb2.step b3
              clear z0 z1 z2 z3 z4
              obtain ⟨z0, z1, z2, z3, z4⟩ := cells5 (CR2.later b3)
              go_wp2_with fail
              refine (specSetMeet_calls _ _ _ _ _ _ _ (hh2.later b3).ints (hts.later hb3).ints).mono ?_
              rintro e w4 ⟨v4, rfl, ho4, b4⟩
              obtain ⟨p4, q4, hv4, _, _⟩ := ho4.open
              subst hv4
              have hb4 := hb3.step b4
              go_wp2
              go_ret
              exact ⟨ret_bool hv2.out.symm, tb.step hb4⟩
        · cases hM0 : (((meetB (nth p.rules k) hs).length : Int) == 0)
          · cases hT : reachB (nth p.rules k) (h2B ts ts)
            · have hS' := Lib.hid (all_take hlt hS.out (prB_4 hcc (by rw [hB, hM0]; rfl) hT))
              clear hS
              unfold meetB at hM0
              have gh1 := Rd.mono (α := List Int) hbA gh
              have gt1 := Rd.mono (α := List Int) hbA gt
              go_wp2_with fail
              refine (l02Reaches_calls hR gh1 gt1 hok12).mono ?_
              rintro e w2 ⟨he, b2⟩
              rw [hB] at he
              subst he
              have hb2 := hbA.step b2
              have CR2 := CR.later b2
              obtain ⟨z0, z1, z2, z3, z4⟩ := cells5 CR2
              have hR2 := Rd.mono b2 hR
              have hh2 := hh.later b2
              go_wp2_with fail
              refine (specSetMeet_calls _ _ _ _ _ _ _ hh2.ints (hhs.later hb2).ints).mono ?_
              rintro e w5 ⟨v5, rfl, ho5, b5⟩
              obtain ⟨p5, q5, hv5, _, _⟩ := ho5.open
              subst hv5
              have hb5 := hb2.step b5
              clear z0 z1 z2 z3 z4
              obtain ⟨z0, z1, z2, z3, z4⟩ := cells5 (CR2.later b5)
              have b25 := b2.step b5
              go_wp2_with fail
              refine (l02Reaches_calls (Rd.mono b5 hR2) (Rd.mono b25 gt1) (Rd.mono b25 gt1) hok12).mono ?_
              rintro e w3 ⟨he, b3⟩
              rw [hT] at he
              subst he
              have hb3 := hb5.step b3
              go_wp2
              go_roundw
              case rel => exact ⟨k + 1, by omega, by go_num, hS', hb3⟩
              case measure => simp [intOf]; omega
            · have HP := Lib.hid (prB_5 (hs := hs) hcc (by rw [hB, hM0]; rfl) hT)
              cases hM : (((meetB (nth p.rules k) ts).length : Int) == 0)
              · have hS' := Lib.hid (all_take hlt hS.out (by rw [HP.out, hM]; rfl))
                clear hS HP
                unfold meetB at hM hM0
                have gh1 := Rd.mono (α := List Int) hbA gh
                have gt1 := Rd.mono (α := List Int) hbA gt
                go_wp2_with fail
                refine (l02Reaches_calls hR gh1 gt1 hok12).mono ?_
                rintro e w2 ⟨he, b2⟩
                rw [hB] at he
                subst he
                have hb2 := hbA.step b2
                have CR2 := CR.later b2
                obtain ⟨z0, z1, z2, z3, z4⟩ := cells5 CR2
                have hR2 := Rd.mono b2 hR
                have hh2 := hh.later b2
                go_wp2_with fail
                refine (specSetMeet_calls _ _ _ _ _ _ _ hh2.ints (hhs.later hb2).ints).mono ?_
                rintro e w5 ⟨v5, rfl, ho5, b5⟩
                obtain ⟨p5, q5, hv5, _, _⟩ := ho5.open
                subst hv5
                have hb5 := hb2.step b5
                clear z0 z1 z2 z3 z4
                obtain ⟨z0, z1, z2, z3, z4⟩ := cells5 (CR2.later b5)
                have b25 := b2.step b5
                go_wp2_with fail
                refine (l02Reaches_calls (Rd.mono b5 hR2) (Rd.mono b25 gt1) (Rd.mono b25 gt1) hok12).mono ?_
                rintro e w3 ⟨he, b3⟩
                rw [hT] at he
                subst he
                have hb3 := hb5.step b3
                clear z0 z1 z2 z3 z4
                obtain ⟨z0, z1, z2, z3, z4⟩ := cells5 ((CR2.later b5).later b3)
                go_wp2_with fail
                refine (specSetMeet_calls _ _ _ _ _ _ _ ((hh2.later b5).later b3).ints (hts.later hb3).ints).mono ?_
                rintro e w4 ⟨v4, rfl, ho4, b4⟩
                obtain ⟨p4, q4, hv4, _, _⟩ := ho4.open
                subst hv4
                have hb4 := hb3.step b4
                go_wp2
                go_roundw
                case rel => exact ⟨k + 1, by omega, by go_num, hS', hb4⟩
                case measure => simp [intOf]; omega
              · have hv2 : Hid (p.rules.all (prB hs ts) = false) := by show _ = _; rw [all_no hlt (by rw [HP.out, hM]; rfl)]
                clear hS HP
                unfold meetB at hM hM0
                have gh1 := Rd.mono (α := List Int) hbA gh
                have gt1 := Rd.mono (α := List Int) hbA gt
                go_wp2_with fail
                refine (l02Reaches_calls hR gh1 gt1 hok12).mono ?_
                rintro e w2 ⟨he, b2⟩
                rw [hB] at he
                subst he
                have hb2 := hbA.step b2
                have CR2 := CR.later b2
                obtain ⟨z0, z1, z2, z3, z4⟩ := cells5 CR2
                have hR2 := Rd.mono b2 hR
                have hh2 := hh.later b2
                go_wp2_with fail
                refine (specSetMeet_calls _ _ _ _ _ _ _ hh2.ints (hhs.later hb2).ints).mono ?_
                rintro e w5 ⟨v5, rfl, ho5, b5⟩
                obtain ⟨p5, q5, hv5, _, _⟩ := ho5.open
                subst hv5
                have hb5 := hb2.step b5
                clear z0 z1 z2 z3 z4
                obtain ⟨z0, z1, z2, z3, z4⟩ := cells5 (CR2.later b5)
                have b25 := b2.step b5
                go_wp2_with fail
                refine (l02Reaches_calls (Rd.mono b5 hR2) (Rd.mono b25 gt1) (Rd.mono b25 gt1) hok12).mono ?_
                rintro e w3 ⟨he, b3⟩
                rw [hT] at he
                subst he
                have hb3 := hb5.step b3
                clear z0 z1 z2 z3 z4
                obtain ⟨z0, z1, z2, z3, z4⟩ := cells5 ((CR2.later b5).later b3)
                go_wp2_with fail
                refine (specSetMeet_calls _ _ _ _ _ _ _ ((hh2.later b5).later b3).ints (hts.later hb3).ints).mono ?_
                rintro e w4 ⟨v4, rfl, ho4, b4⟩
                obtain ⟨p4, q4, hv4, _, _⟩ := ho4.open
                subst hv4
                have hb4 := hb3.step b4
                go_wp2
                go_ret
                exact ⟨ret_bool hv2.out.symm, tb.step hb4⟩
          · have hv2 : Hid (p.rules.all (prB hs ts) = false) := by show _ = _; rw [all_no hlt (prB_3 hcc hB hM0)]
            clear hS
            unfold meetB at hM0
            have gh1 := Rd.mono (α := List Int) hbA gh
            have gt1 := Rd.mono (α := List Int) hbA gt
            go_wp2_with fail
            refine (l02Reaches_calls hR gh1 gt1 hok12).mono ?_
            rintro e w2 ⟨he, b2⟩
            rw [hB] at he
            subst he
            have hb2 := hbA.step b2
            have CR2 := CR.later b2
            obtain ⟨z0, z1, z2, z3, z4⟩ := cells5 CR2
            have hR2 := Rd.mono b2 hR
            have hh2 := hh.later b2
            go_wp2_with fail
            refine (specSetMeet_calls _ _ _ _ _ _ _ hh2.ints (hhs.later hb2).ints).mono ?_
            rintro e w5 ⟨v5, rfl, ho5, b5⟩
            obtain ⟨p5, q5, hv5, _, _⟩ := ho5.open
            subst hv5
            have hb5 := hb2.step b5
            go_wp2
            go_ret
            exact ⟨ret_bool hv2.out.symm, tb.step hb5⟩
      · rw [hcc] at u0 bA CR hbA hR hh
        cases hB : reachB (nth p.rules k) (h2B hs ts)
        · have hS' := Lib.hid (all_take hlt hS.out (prB_1 hcc hB))
          clear hS
          have gh1 := Rd.mono (α := List Int) hbA gh
          have gt1 := Rd.mono (α := List Int) hbA gt
          go_wp2_with fail
          refine (l02Reaches_calls hR gh1 gt1 hok12).mono ?_
          rintro e w2 ⟨he, b2⟩
          rw [hB] at he
          subst he
          have hb2 := hbA.step b2
          have CR2 := CR.later b2
          obtain ⟨z0, z1, z2, z3, z4⟩ := cells5 CR2
          have hR2 := Rd.mono b2 hR
          have hh2 := hh.later b2
          go_wp2
          go_roundw
          case rel => exact ⟨k + 1, by omega, by go_num, hS', hb2⟩
          case measure => simp [intOf]; omega
        · have HP := Lib.hid (prB_2 hcc hB)
          cases hI : inL (meetB (nth p.rules k) ts) hs
          · have hv2 : Hid (p.rules.all (prB hs ts) = false) := by show _ = _; rw [all_no hlt (by rw [HP.out, hI])]
            clear hS HP
            unfold inL meetB at hI
            have gh1 := Rd.mono (α := List Int) hbA gh
            have gt1 := Rd.mono (α := List Int) hbA gt
            go_wp2_with fail
            refine (l02Reaches_calls hR gh1 gt1 hok12).mono ?_
            rintro e w2 ⟨he, b2⟩
            rw [hB] at he
            subst he
            have hb2 := hbA.step b2
            have CR2 := CR.later b2
            obtain ⟨z0, z1, z2, z3, z4⟩ := cells5 CR2
            have hR2 := Rd.mono b2 hR
            have hh2 := hh.later b2
            go_wp2_with fail
            refine (specSetMeet_calls _ _ _ _ _ _ _ hh2.ints (hts.later hb2).ints).mono ?_
            rintro e w3 ⟨v3, rfl, ho3, b3⟩
            obtain ⟨p3, q3, hv3, hI3, _⟩ := ho3.open
            subst hv3
            have hb3 := hb2.step b3
            go_wp2_with fail
            refine (specSetIn_calls _ _ _ _ _ _ _ hI3 (hhs.later hb3).ints).mono ?_
            rintro e w4 ⟨he, b4⟩
            rw [hI] at he
            subst he
            have hb4 := hb3.step b4
            go_wp2
            go_ret
            exact ⟨ret_bool hv2.out.symm, tb.step hb4⟩
          · have hS' := Lib.hid (all_take hlt hS.out (by rw [HP.out, hI]))
            clear hS HP
            unfold inL meetB at hI
            have gh1 := Rd.mono (α := List Int) hbA gh
            have gt1 := Rd.mono (α := List Int) hbA gt
            go_wp2_with fail
            refine (l02Reaches_calls hR gh1 gt1 hok12).mono ?_
            rintro e w2 ⟨he, b2⟩
            rw [hB] at he
            subst he
            have hb2 := hbA.step b2
            have CR2 := CR.later b2
            obtain ⟨z0, z1, z2, z3, z4⟩ := cells5 CR2
            have hR2 := Rd.mono b2 hR
            have hh2 := hh.later b2
            go_wp2_with fail
            refine (specSetMeet_calls _ _ _ _ _ _ _ hh2.ints (hts.later hb2).ints).mono ?_
            rintro e w3 ⟨v3, rfl, ho3, b3⟩
            obtain ⟨p3, q3, hv3, hI3, _⟩ := ho3.open
            subst hv3
            have hb3 := hb2.step b3
            go_wp2_with fail
            refine (specSetIn_calls _ _ _ _ _ _ _ hI3 (hhs.later hb3).ints).mono ?_
            rintro e w4 ⟨he, b4⟩
            rw [hI] at he
            subst he
            have hb4 := hb3.step b4
            go_wp2
            go_roundw
            case rel => exact ⟨k + 1, by omega, by go_num, hS', hb4⟩
            case measure => simp [intOf]; omega
    · have hv2 : Hid (p.rules.all (prB hs ts) = true) := all_end (by omega) hS.out
      go_wp2
      go_ret
      exact ⟨ret_bool hv2.out.symm, tb.step hb⟩

set_option maxHeartbeats 2000000 in
theorem specHtModel_calls {cs : List Value} {p : ProgD} {w : World} {v v2 : Value} {xs us : List Int} (h : Rd.R w cs p) (gx : RdL w [v] xs) (gu : RdL w [v2] us) :
    Calls Tryz.prog 10 #[.agg cs.toArray, v, v2] w fun e w' => e = .returned (.bool (htB p xs us)) ∧ Below w.heap.size w w' := by
  obtain ⟨p0, p1, p2, p3, p4, p5, p6, p7, rfl⟩ := list8 (Rd.len h)
  obtain ⟨ax, cx, rfl, _, hx⟩ := gx.sl
  have t0 : Below w.heap.size w (w.alloc (.cells #[p0, p1, p2, p3, p4, p5, p6, p7] 36)) := (Below.refl _ _).alloc (by simp) _
  obtain ⟨au, cu, rfl, _, hu⟩ := gu.sl
  have hmu0 := hu.1
  have hmx0 := hx.1
  cases hF : foldB p
  · have hv := Lib.hid (htB_A (hs := xs) (ts := us) hF)
    go_enter Tryz.func10, Tryz.ntmps10
    go_wp2_with fail
    refine (specFold_calls (Rd.mono t0 h)).mono ?_
    rintro e w1 ⟨cs1, he, o1, b1⟩
    rw [hF] at he
    subst he
    have t1 := t0.step b1
    have l1 := Rd.one o1.rd
    obtain ⟨x0, x1, x2, x3, x4, x5, x6, x7, rfl⟩ := list8 (Rd.len o1.rd)
    have st0 := sto Tryz.prog (l1 x0 (by simp))
    have st1 := sto Tryz.prog (l1 x1 (by simp))
    have st2 := sto Tryz.prog (l1 x2 (by simp))
    have st3 := sto Tryz.prog (l1 x3 (by simp))
    have st4 := sto Tryz.prog (l1 x4 (by simp))
    have st5 := sto Tryz.prog (l1 x5 (by simp))
    have st6 := sto Tryz.prog (l1 x6 (by simp))
    have st7 := sto Tryz.prog (l1 x7 (by simp))
    have o1 := o1.alloc (.cells #[x0, x1, x2, x3, x4, x5, x6, x7] 36)
    have CX1 := Cells.new w1 [x0, x1, x2, x3, x4, x5, x6, x7] 36
    have t1 := t1.alloc t1.size (.cells #[x0, x1, x2, x3, x4, x5, x6, x7] 36)
    clear l1
    go_wp2
    go_ret
    exact ⟨ret_bool hv.out.symm, t1⟩
  cases hS : setOkB xs (foldD p).atoms
  · have hv := Lib.hid (htB_B (ts := us) hS)
    go_enter Tryz.func10, Tryz.ntmps10
    go_wp2_with fail
    refine (specFold_calls (Rd.mono t0 h)).mono ?_
    rintro e w1 ⟨cs1, he, o1, b1⟩
    rw [hF] at he
    rw [foldR_yes hF] at o1
    subst he
    have t1 := t0.step b1
    have l1 := Rd.one o1.rd
    obtain ⟨x0, x1, x2, x3, x4, x5, x6, x7, rfl⟩ := list8 (Rd.len o1.rd)
    have st0 := sto Tryz.prog (l1 x0 (by simp))
    have st1 := sto Tryz.prog (l1 x1 (by simp))
    have st2 := sto Tryz.prog (l1 x2 (by simp))
    have st3 := sto Tryz.prog (l1 x3 (by simp))
    have st4 := sto Tryz.prog (l1 x4 (by simp))
    have st5 := sto Tryz.prog (l1 x5 (by simp))
    have st6 := sto Tryz.prog (l1 x6 (by simp))
    have st7 := sto Tryz.prog (l1 x7 (by simp))
    have o1 := o1.alloc (.cells #[x0, x1, x2, x3, x4, x5, x6, x7] 36)
    have CX1 := Cells.new w1 [x0, x1, x2, x3, x4, x5, x6, x7] 36
    have t1 := t1.alloc t1.size (.cells #[x0, x1, x2, x3, x4, x5, x6, x7] 36)
    clear l1
    have oR := o1.rd
    obtain ⟨_, _, _, _, _, _, hl, _⟩ := oR
    simp only [List.cons.injEq, and_true] at hl
    obtain ⟨rfl, -⟩ := hl
    obtain ⟨y0, y1, y2, y3, y4, y5, y6, y7⟩ := cells8 CX1
    have hxt := hx.later t1
    have hut := hu.later t1
    go_wp2_with fail
    refine (specSetOk_calls _ _ _ _ _ hxt.ints).mono ?_
    rintro e w2 ⟨he, b2⟩
    rw [hS] at he
    subst he
    have t2 := t1.step b2
    clear y0 y1 y2 y3 y4 y5 y6 y7
    have CX2 := CX1.later b2
    obtain ⟨y0, y1, y2, y3, y4, y5, y6, y7⟩ := cells8 CX2
    go_wp2
    go_ret
    exact ⟨ret_bool hv.out.symm, t2⟩
  cases hU : setOkB us (foldD p).atoms
  · have hv := Lib.hid (htB_C (hs := xs) hU)
    go_enter Tryz.func10, Tryz.ntmps10
    go_wp2_with fail
    refine (specFold_calls (Rd.mono t0 h)).mono ?_
    rintro e w1 ⟨cs1, he, o1, b1⟩
    rw [hF] at he
    rw [foldR_yes hF] at o1
    subst he
    have t1 := t0.step b1
    have l1 := Rd.one o1.rd
    obtain ⟨x0, x1, x2, x3, x4, x5, x6, x7, rfl⟩ := list8 (Rd.len o1.rd)
    have st0 := sto Tryz.prog (l1 x0 (by simp))
    have st1 := sto Tryz.prog (l1 x1 (by simp))
    have st2 := sto Tryz.prog (l1 x2 (by simp))
    have st3 := sto Tryz.prog (l1 x3 (by simp))
    have st4 := sto Tryz.prog (l1 x4 (by simp))
    have st5 := sto Tryz.prog (l1 x5 (by simp))
    have st6 := sto Tryz.prog (l1 x6 (by simp))
    have st7 := sto Tryz.prog (l1 x7 (by simp))
    have o1 := o1.alloc (.cells #[x0, x1, x2, x3, x4, x5, x6, x7] 36)
    have CX1 := Cells.new w1 [x0, x1, x2, x3, x4, x5, x6, x7] 36
    have t1 := t1.alloc t1.size (.cells #[x0, x1, x2, x3, x4, x5, x6, x7] 36)
    clear l1
    have oR := o1.rd
    obtain ⟨_, _, _, _, _, _, hl, _⟩ := oR
    simp only [List.cons.injEq, and_true] at hl
    obtain ⟨rfl, -⟩ := hl
    obtain ⟨y0, y1, y2, y3, y4, y5, y6, y7⟩ := cells8 CX1
    have hxt := hx.later t1
    have hut := hu.later t1
    go_wp2_with fail
    refine (specSetOk_calls _ _ _ _ _ hxt.ints).mono ?_
    rintro e w2 ⟨he, b2⟩
    rw [hS] at he
    subst he
    have t2 := t1.step b2
    clear y0 y1 y2 y3 y4 y5 y6 y7
    have CX2 := CX1.later b2
    obtain ⟨y0, y1, y2, y3, y4, y5, y6, y7⟩ := cells8 CX2
    go_wp2_with fail
    refine (specSetOk_calls _ _ _ _ _ (hut.later b2).ints).mono ?_
    rintro e w3 ⟨he, b3⟩
    rw [hU] at he
    subst he
    have t3 := t2.step b3
    clear y0 y1 y2 y3 y4 y5 y6 y7
    have CX3 := CX2.later b3
    obtain ⟨y0, y1, y2, y3, y4, y5, y6, y7⟩ := cells8 CX3
    go_wp2
    go_ret
    exact ⟨ret_bool hv.out.symm, t3⟩
  have hok : progOkB (foldD p) = true := foldR_ok hF
  have hv : Hid (htB p xs us = (inL xs us && (foldD p).rules.all (prB xs us))) := by show _ = _; rw [htB_D hF hS hU, htQ_pr (rules12 hok)]
  cases hI : inL xs us
  · unfold inL at hI
    go_enter Tryz.func10, Tryz.ntmps10
    go_wp2_with fail
    refine (specFold_calls (Rd.mono t0 h)).mono ?_
    rintro e w1 ⟨cs1, he, o1, b1⟩
    rw [hF] at he
    rw [foldR_yes hF] at o1
    subst he
    have t1 := t0.step b1
    have l1 := Rd.one o1.rd
    obtain ⟨x0, x1, x2, x3, x4, x5, x6, x7, rfl⟩ := list8 (Rd.len o1.rd)
    have st0 := sto Tryz.prog (l1 x0 (by simp))
    have st1 := sto Tryz.prog (l1 x1 (by simp))
    have st2 := sto Tryz.prog (l1 x2 (by simp))
    have st3 := sto Tryz.prog (l1 x3 (by simp))
    have st4 := sto Tryz.prog (l1 x4 (by simp))
    have st5 := sto Tryz.prog (l1 x5 (by simp))
    have st6 := sto Tryz.prog (l1 x6 (by simp))
    have st7 := sto Tryz.prog (l1 x7 (by simp))
    have o1 := o1.alloc (.cells #[x0, x1, x2, x3, x4, x5, x6, x7] 36)
    have CX1 := Cells.new w1 [x0, x1, x2, x3, x4, x5, x6, x7] 36
    have t1 := t1.alloc t1.size (.cells #[x0, x1, x2, x3, x4, x5, x6, x7] 36)
    clear l1
    have oR := o1.rd
    obtain ⟨_, _, _, _, _, _, hl, _⟩ := oR
    simp only [List.cons.injEq, and_true] at hl
    obtain ⟨rfl, -⟩ := hl
    obtain ⟨y0, y1, y2, y3, y4, y5, y6, y7⟩ := cells8 CX1
    have hxt := hx.later t1
    have hut := hu.later t1
    go_wp2_with fail
    refine (specSetOk_calls _ _ _ _ _ hxt.ints).mono ?_
    rintro e w2 ⟨he, b2⟩
    rw [hS] at he
    subst he
    have t2 := t1.step b2
    clear y0 y1 y2 y3 y4 y5 y6 y7
    have CX2 := CX1.later b2
    obtain ⟨y0, y1, y2, y3, y4, y5, y6, y7⟩ := cells8 CX2
    go_wp2_with fail
    refine (specSetOk_calls _ _ _ _ _ (hut.later b2).ints).mono ?_
    rintro e w3 ⟨he, b3⟩
    rw [hU] at he
    subst he
    have t3 := t2.step b3
    clear y0 y1 y2 y3 y4 y5 y6 y7
    have CX3 := CX2.later b3
    obtain ⟨y0, y1, y2, y3, y4, y5, y6, y7⟩ := cells8 CX3
    go_wp2_with fail
    refine (specSetIn_calls _ _ _ _ _ _ _ ((hxt.later b2).later b3).ints ((hut.later b2).later b3).ints).mono ?_
    rintro e w4 ⟨he, b4⟩
    rw [hI] at he
    subst he
    go_wp2
    go_ret
    exact ⟨ret_bool (by rw [hv.out]; unfold inL; rw [hI]; rfl), t3.step b4⟩
  · unfold inL at hI
    go_enter Tryz.func10, Tryz.ntmps10
    go_wp2_with fail
    refine (specFold_calls (Rd.mono t0 h)).mono ?_
    rintro e w1 ⟨cs1, he, o1, b1⟩
    rw [hF] at he
    rw [foldR_yes hF] at o1
    subst he
    have t1 := t0.step b1
    have l1 := Rd.one o1.rd
    obtain ⟨x0, x1, x2, x3, x4, x5, x6, x7, rfl⟩ := list8 (Rd.len o1.rd)
    have st0 := sto Tryz.prog (l1 x0 (by simp))
    have st1 := sto Tryz.prog (l1 x1 (by simp))
    have st2 := sto Tryz.prog (l1 x2 (by simp))
    have st3 := sto Tryz.prog (l1 x3 (by simp))
    have st4 := sto Tryz.prog (l1 x4 (by simp))
    have st5 := sto Tryz.prog (l1 x5 (by simp))
    have st6 := sto Tryz.prog (l1 x6 (by simp))
    have st7 := sto Tryz.prog (l1 x7 (by simp))
    have o1 := o1.alloc (.cells #[x0, x1, x2, x3, x4, x5, x6, x7] 36)
    have CX1 := Cells.new w1 [x0, x1, x2, x3, x4, x5, x6, x7] 36
    have t1 := t1.alloc t1.size (.cells #[x0, x1, x2, x3, x4, x5, x6, x7] 36)
    clear l1
    have oR := o1.rd
    obtain ⟨_, _, _, _, _, _, hl, _⟩ := oR
    simp only [List.cons.injEq, and_true] at hl
    obtain ⟨rfl, -⟩ := hl
    obtain ⟨y0, y1, y2, y3, y4, y5, y6, y7⟩ := cells8 CX1
    have hxt := hx.later t1
    have hut := hu.later t1
    go_wp2_with fail
    refine (specSetOk_calls _ _ _ _ _ hxt.ints).mono ?_
    rintro e w2 ⟨he, b2⟩
    rw [hS] at he
    subst he
    have t2 := t1.step b2
    clear y0 y1 y2 y3 y4 y5 y6 y7
    have CX2 := CX1.later b2
    obtain ⟨y0, y1, y2, y3, y4, y5, y6, y7⟩ := cells8 CX2
    go_wp2_with fail
    refine (specSetOk_calls _ _ _ _ _ (hut.later b2).ints).mono ?_
    rintro e w3 ⟨he, b3⟩
    rw [hU] at he
    subst he
    have t3 := t2.step b3
    clear y0 y1 y2 y3 y4 y5 y6 y7
    have CX3 := CX2.later b3
    obtain ⟨y0, y1, y2, y3, y4, y5, y6, y7⟩ := cells8 CX3
    go_wp2_with fail
    refine (specSetIn_calls _ _ _ _ _ _ _ ((hxt.later b2).later b3).ints ((hut.later b2).later b3).ints).mono ?_
    rintro e w4 ⟨he, b4⟩
    rw [hI] at he
    subst he
    have t4 := t3.step b4
    clear y0 y1 y2 y3 y4 y5 y6 y7
    obtain ⟨y0, y1, y2, y3, y4, y5, y6, y7⟩ := cells8 (CX3.later b4)
    go_wp2_with fail
    refine (l13Pair_calls (((o1.later b2).later b3).later b4).rd (Rd.mono (α := List Int) t4 gx) (Rd.mono (α := List Int) t4 gu) hok).mono ?_
    rintro e w5 ⟨rfl, b5⟩
    go_wp2
    go_ret
    exact ⟨ret_bool (by rw [hv.out]; unfold inL; rw [hI]; rfl), t4.step b5⟩

end Go.Proofs.YtleimijgpmoifaaGreat
