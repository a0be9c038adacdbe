/-
  Broken, Why, Against: what spec answers. No condition of its own.
-/
import Derived.Test.YthfbnalgnnjbbaaGreatAnsU
import Derived.Test.YthfbnalgnnjbbaaGreatUnf
import Derived.Test.YthfbnalgnnjbbaaGreatSupS
import Derived.BigQuiet
import Derived.Deep.QuietTactic
import Derived.Test.YthfbnalgnnjbbaaGreatWhyI
namespace Go.Proofs.YthfbnalgnnjbbaaGreat
set_option linter.unusedVariables false
set_option linter.unusedSimpArgs false
open Go.RowKit
set_option maxRecDepth 100000

/-! ### BrkS -/

set_option maxHeartbeats 400000 in
theorem specBroken_calls {cs : List Value} {p : ProgD} {w : World} {v : Value} {xs : List Int} (h : Rd.R w cs p) (gx : RdL w [v] xs) :
    Calls Tryz.prog 99 #[.agg cs.toArray, v] w fun e w' => ∃ u, e = .returned u ∧ Own w.heap.size w' [u] (brkR p xs) ∧ Below w.heap.size w w' := by
  obtain ⟨i0, hi, hz0, hz1, hz2⟩ := info_parts info_int
  obtain ⟨p0, p1, p2, p3, p4, p5, p6, p7, rfl⟩ := list8 (Rd.len h)
  obtain ⟨ax, cx, rfl, _, hx⟩ := gx.sl
  have t0 : Below w.heap.size w ((w.alloc (.cells #[p0, p1, p2, p3, p4, p5, p6, p7] 30)).alloc (.cells #[] 3)) := ((Below.refl _ _).alloc (by simp) _).alloc (by simp) _
  have hn0 : OwnD (α := Int) w.heap.size (fun f => f = w.heap.size + 1) 3 ((w.alloc (.cells #[p0, p1, p2, p3, p4, p5, p6, p7] 30)).alloc (.cells #[] 3)) (.slice (some ⟨w.heap.size + 1, 0, none⟩) 0 0) [] := by
    have := World.ownsRow_lit (e := 3) (size := 1) (base := w.heap.size) (w.alloc (.cells #[p0, p1, p2, p3, p4, p5, p6, p7] 30)) #[] 0 (by simp) (by simp [maxLen]) (by simp)
    rw [World.size_alloc] at this
    exact OwnD.start this fun g hg => by simpa [Value.ownBlock] using hg.symm
  cases hF : foldB p
  · have hv := Lib.hid (brkR_no (xs := xs) hF)
    go_enter Tryz.func99, Tryz.ntmps99
    go_wp2_with fail
    refine (specFold_calls (Rd.mono t0 h)).mono ?_
    rintro e w1 ⟨cs1, he, o1, b1⟩
    rw [hF] at he
    subst he
    have hn1 := hn0.later b1
    have t1 := t0.step b1
    have l1 := Rd.one o1.rd
    obtain ⟨x0, x1, x2, x3, x4, x5, x6, x7, rfl⟩ := list8 (Rd.len o1.rd)
    have st0 := sto Tryz.prog (l1 x0 (by simp))
    have st1 := sto Tryz.prog (l1 x1 (by simp))
    have st2 := sto Tryz.prog (l1 x2 (by simp))
    have st3 := sto Tryz.prog (l1 x3 (by simp))
    have st4 := sto Tryz.prog (l1 x4 (by simp))
    have st5 := sto Tryz.prog (l1 x5 (by simp))
    have st6 := sto Tryz.prog (l1 x6 (by simp))
    have st7 := sto Tryz.prog (l1 x7 (by simp))
    have o1 := o1.alloc (.cells #[x0, x1, x2, x3, x4, x5, x6, x7] 30)
    have CX1 := Cells.new w1 [x0, x1, x2, x3, x4, x5, x6, x7] 30
    have t1 := t1.alloc t1.size (.cells #[x0, x1, x2, x3, x4, x5, x6, x7] 30)
    clear l1
    have hn2 := hn1.later ((Below.refl w1.heap.size w1).alloc (Nat.le_refl _) (.cells #[x0, x1, x2, x3, x4, x5, x6, x7] 30))
    go_wp2
    go_ret
    exact ⟨_, rfl, by rw [hv.out]; exact ownD_own hn2 (fun f h => by omega), t1⟩
  · have hv := Lib.hid (brkR_yes (xs := xs) hF)
    have hok : progOkB (foldD p) = true := foldR_ok hF
    have hr12 := Lib.hid (rules12 hok)
    have hlen := (progOk_rules hok).1
    go_enter Tryz.func99, Tryz.ntmps99
    go_wp2_with fail
    refine (specFold_calls (Rd.mono t0 h)).mono ?_
    rintro e w1 ⟨cs1, he, o1, b1⟩
    rw [hF] at he
    rw [foldR_yes hF] at o1
    subst he
    have hn1 := hn0.later b1
    have t1 := t0.step b1
    have l1 := Rd.one o1.rd
    obtain ⟨x0, x1, x2, x3, x4, x5, x6, x7, rfl⟩ := list8 (Rd.len o1.rd)
    have st0 := sto Tryz.prog (l1 x0 (by simp))
    have st1 := sto Tryz.prog (l1 x1 (by simp))
    have st2 := sto Tryz.prog (l1 x2 (by simp))
    have st3 := sto Tryz.prog (l1 x3 (by simp))
    have st4 := sto Tryz.prog (l1 x4 (by simp))
    have st5 := sto Tryz.prog (l1 x5 (by simp))
    have st6 := sto Tryz.prog (l1 x6 (by simp))
    have st7 := sto Tryz.prog (l1 x7 (by simp))
    have o1 := o1.alloc (.cells #[x0, x1, x2, x3, x4, x5, x6, x7] 30)
    have CX1 := Cells.new w1 [x0, x1, x2, x3, x4, x5, x6, x7] 30
    have t1 := t1.alloc t1.size (.cells #[x0, x1, x2, x3, x4, x5, x6, x7] 30)
    clear l1
    have hn2 := hn1.later ((Below.refl w1.heap.size w1).alloc (Nat.le_refl _) (.cells #[x0, x1, x2, x3, x4, x5, x6, x7] 30))
    have oR := o1.rd
    obtain ⟨_, _, _, _, _, _, hl, _, g1, _⟩ := oR
    simp only [List.cons.injEq, and_true] at hl
    obtain ⟨rfl, rfl, -⟩ := hl
    obtain ⟨a1, k1, rfl, _, _⟩ := g1.sl
    clear g1
    have hCX := Lib.hid CX1
    have hO := Lib.hid o1
    have z1 := b1.size
    rw [World.size_alloc, World.size_alloc] at z1
    clear hn0 hn1 t0 o1 CX1 b1
    obtain ⟨wa, hwa⟩ : ∃ wa, wa = w1.alloc (.cells #[.int .i64 (foldD p).atoms, .slice a1 (foldD p).rules.length k1, x2, x3, x4, x5, x6, x7] 30) := ⟨_, rfl⟩
    rw [← hwa] at hn2 t1 hCX hO
    obtain ⟨q, hq⟩ : ∃ q, q = foldD p := ⟨_, rfl⟩
    rw [← hq] at hwa hCX hO hv hr12 hlen st0 st1
    have HQ := Lib.hid hq
    clear hq
    go_wp2
    rw [← HQ.out, ← hwa]
    clear HQ
    have hza : wa.heap.size = w1.heap.size + 1 := by rw [hwa, World.size_alloc]
    have hn3 := hn2.weak (D' := fun f => f = w.heap.size + 1 ∨ wa.heap.size ≤ f) (Nat.le_refl _) fun f hf => .inl hf
    clear hwa st0 st1 st2 st3 st4 st5 st6 st7 hn2 hok hF
    go_loopw [5, 8] (fun v i wr => ∃ k : Nat, k ≤ q.rules.length ∧ i = .int .i64 k ∧ OwnD w.heap.size (fun f => f = w.heap.size + 1 ∨ wa.heap.size ≤ f) 3 wr v (brkTo q.rules xs k) ∧ Below w.heap.size w wr ∧ Hid (∀ g, g < wa.heap.size → g ≠ w.heap.size + 1 → wr.heap[g]? = wa.heap[g]?) ∧ wa.heap.size ≤ wr.heap.size) (fun _ i _ => q.rules.length - (intOf i).toNat)
    case atStart => exact ⟨0, Nat.zero_le _, rfl, hn3, t1, fun _ _ _ => rfl, Nat.le_refl _⟩
    case round =>
      obtain ⟨k, hk, rfl, ho, hb, HK, hsa⟩ := hrel
      clear hn3
      have hX := Cells.kept hCX.out (HK.out w1.heap.size (by omega) (by omega))
      have hQ : Hid (∃ fp, Ow.O wr [.int .i64 q.atoms, .slice a1 q.rules.length k1, x2, x3, x4, x5, x6, x7] q fp) := by
        obtain ⟨fp, hq, hl⟩ := hO.out
        rw [World.size_alloc, World.size_alloc] at hl
        exact ⟨fp, Ow.kept hq fun g hg => HK.out g (Ow.lt hq g hg) (by have := hl g hg; omega)⟩
      have hQ : Rd.R wr [.int .i64 q.atoms, .slice a1 q.rules.length k1, x2, x3, x4, x5, x6, x7] q := by obtain ⟨fp, hq⟩ := hQ.out; exact Ow.rd hq
      obtain ⟨_, _, _, _, _, _, hl, _, g1, _⟩ := hQ
      simp only [List.cons.injEq, and_true] at hl
      obtain ⟨-, rfl, -⟩ := hl
      have h1 := (show Row wr a1 q.rules by
        obtain ⟨a9, k9, he, _, _, h9⟩ := g1
        simp at he
        obtain ⟨rfl, -⟩ := he
        exact h9)
      have hm1 := h1.1
      clear g1
      obtain ⟨y0, y1, y2, y3, y4, y5, y6, y7⟩ := cells8 hX
      have hszw : w.heap.size ≤ wr.heap.size := hb.size
      have hbl := brkTo_len q.rules xs k
      have hOB := Lib.hid ho.at
      obtain ⟨av, kv, rfl⟩ := ho.form
      by_cases hlt : k < q.rules.length
      · obtain ⟨b, off, rfl, hc⟩ := h1.base (by omega)
        obtain ⟨ecs, hC, hR⟩ := hc k hlt
        have hok12 := hr12.out _ (nth_mem hlt)
        have hR0 := hR
        obtain ⟨d1, d4, rfl, hf', r1, r4⟩ := hR0
        obtain ⟨ah, kh, rfl, hkh, hh⟩ := r1.sl
        obtain ⟨ab, kb, rfl, _, _⟩ := r4.sl
        have u0 := hC.c0
        have u1 := hC.c1
        have u2 := hC.c2
        have u3 := hC.c3
        have u4 := hC.c4
        rw [show Rd.k RuleD = 5 from rfl] at u0 u1 u2 u3 u4
        have bA := (Below.refl wr.heap.size wr).alloc (Nat.le_refl _) (.cells #[.bool (nth q.rules k).choice, .slice ah (nth q.rules k).heads.length kh, .bool (nth q.rules k).weight, .int .i64 (nth q.rules k).bound, .slice ab (nth q.rules k).body.length kb] 52)
        have hCL := Lib.hid (Cells.new wr [.bool (nth q.rules k).choice, .slice ah (nth q.rules k).heads.length kh, .bool (nth q.rules k).weight, .int .i64 (nth q.rules k).bound, .slice ab (nth q.rules k).body.length kb] 52)
        have hR := Rd.mono bA hR
        have hh := hh.later bA
        have hxA := (hx.later hb).later bA
        have gxA := Rd.mono (α := List Int) bA (Rd.mono (α := List Int) hb gx)
        clear hC hc r1 r4
        cases hcc : (nth q.rules k).choice
        · rw [hcc] at u0 hR bA hCL hh hxA gxA
          cases hB : bodyHoldsB (nth q.rules k) xs
          · have hS := Lib.hid (brkTo_ok (ruleHolds_B hB))
            go_wp2_with fail
            refine (specBodyHolds_calls hR gxA).mono ?_
            rintro e w2 ⟨he, b2⟩
            rw [hB] at he
            subst he
            have b2A := bA.step b2
            obtain ⟨z0, z1, z2, z3, z4⟩ := cells5 (hCL.out.later b2)
            clear hB hcc
            have hb4 := hb.step b2A
            have HK4 : Hid (∀ g, g < wa.heap.size → g ≠ w.heap.size + 1 → _ = wa.heap[g]?) := fun g h1 h2 => ((b2A).block g (by omega)).trans (HK.out g h1 h2)
            have hs4 := (b2A).size
            have ho4 := ho.later b2A
            go_wp2
            go_roundw
            case rel => exact ⟨k + 1, by omega, by go_num, by rw [hS.out]; exact ho4, hb4, HK4, by omega⟩
            case measure => simp [intOf]; omega
          · cases hM : (((meetB (nth q.rules k) xs).length : Int) == 0)
            · have hS := Lib.hid (brkTo_ok (ruleHolds_C hM))
              unfold meetB at hM
              go_wp2_with fail
              refine (specBodyHolds_calls hR gxA).mono ?_
              rintro e w2 ⟨he, b2⟩
              rw [hB] at he
              subst he
              have b2A := bA.step b2
              obtain ⟨z0, z1, z2, z3, z4⟩ := cells5 (hCL.out.later b2)
              clear hB hcc
              go_wp2_with fail
              refine (specSetMeet_calls _ _ _ _ _ _ _ (hh.later b2).ints (hxA.later b2).ints).mono ?_
              rintro e w3 ⟨v3, rfl, ho3, b3⟩
              obtain ⟨p3, q3, hv3, _, _⟩ := ho3.open
              subst hv3
              have b3A := b2A.step b3
              have hb4 := hb.step b3A
              have HK4 : Hid (∀ g, g < wa.heap.size → g ≠ w.heap.size + 1 → _ = wa.heap[g]?) := fun g h1 h2 => ((b3A).block g (by omega)).trans (HK.out g h1 h2)
              have hs4 := (b3A).size
              have ho4 := ho.later b3A
              go_wp2
              go_roundw
              case rel => exact ⟨k + 1, by omega, by go_num, by rw [hS.out]; exact ho4, hb4, HK4, by omega⟩
              case measure => simp [intOf]; omega
            · have hS := Lib.hid (brkTo_no (ruleHolds_D hcc hB hM))
              unfold meetB at hM
              go_wp2_with fail
              refine (specBodyHolds_calls hR gxA).mono ?_
              rintro e w2 ⟨he, b2⟩
              rw [hB] at he
              subst he
              have b2A := bA.step b2
              obtain ⟨z0, z1, z2, z3, z4⟩ := cells5 (hCL.out.later b2)
              clear hB hcc
              go_wp2_with fail
              refine (specSetMeet_calls _ _ _ _ _ _ _ (hh.later b2).ints (hxA.later b2).ints).mono ?_
              rintro e w3 ⟨v3, rfl, ho3, b3⟩
              obtain ⟨p3, q3, hv3, _, _⟩ := ho3.open
              subst hv3
              have b3A := b2A.step b3
              have hoN := own_int (lo := wr.heap.size) (w := w3.alloc (.cells #[.int .i64 (k : Int)] 3)) (n := (k : Int)) (fits_small' (by omega) (by omega))
              have hcN := Cells.new w3 [.int .i64 (k : Int)] 3
              have hbN : Below wr.heap.size wr (w3.alloc (.cells #[.int .i64 (k : Int)] 3)) := b3A.alloc b3A.size _
              have hle2 : ((brkTo q.rules xs k).length + 1) * 8 ≤ 140737488355328 := by omega
              have hle3 : (brkTo q.rules xs k).length + 1 ≤ 140737488355328 := by omega
              obtain ⟨v5, w5, r5, ho5, hb5, hg5⟩ := run_append_oneD (α := Int) (P := Tryz.prog) (t := 26) (ty := 26) (c := 1) i0 _ 8 Tryz.underlying26 hi hz0 hz1 hz2 rfl (by decide) ho hbN hcN hoN (fun f hf => .inr (Nat.le_trans hsa hf)) hle2 hle3 hszw
              have hb6 := (hb.step hbN).trans hb5
              have HK6 : Hid (∀ g, g < wa.heap.size → g ≠ w.heap.size + 1 → w5.heap[g]? = wa.heap[g]?) := fun g h1 h2 => (hg5.block g (by have := hbN.size; omega) (fun e => by have := hOB.out g e.symm; omega)).trans ((hbN.block g (by omega)).trans (HK.out g h1 h2))
              have hs6 : wa.heap.size ≤ w5.heap.size := Nat.le_trans hsa (Nat.le_trans hbN.size hg5.size)
              obtain ⟨a5, k5, rfl⟩ := ho5.form
              go_wp2_with (at_builtin; refine wpList_append_of rfl _ _ rfl rfl rfl r5 ?_)
              go_roundw
              case rel => exact ⟨k + 1, by omega, by go_num, by rw [hS.out]; have h9 := ho5; rw [List.length_append] at h9; exact h9, hb6, HK6, hs6⟩
              case measure => simp [intOf]; omega
        · have hS := Lib.hid (brkTo_ok (ruleHolds_A (xs := xs) hcc))
          rw [hcc] at u0 bA hCL
          clear hR hh hxA gxA
          have hb4 := hb.step bA
          have HK4 : Hid (∀ g, g < wa.heap.size → g ≠ w.heap.size + 1 → _ = wa.heap[g]?) := fun g h1 h2 => ((bA).block g (by omega)).trans (HK.out g h1 h2)
          have hs4 := (bA).size
          have ho4 := ho.later bA
          go_wp2
          go_roundw
          case rel => exact ⟨k + 1, by omega, by go_num, by rw [hS.out]; exact ho4, hb4, HK4, by omega⟩
          case measure => simp [intOf]; omega
      · obtain rfl : k = q.rules.length := by omega
        go_wp2
        go_ret
        exact ⟨_, rfl, by rw [hv.out]; exact ownD_own ho (fun f h => by have := t1.size; omega), hb⟩

/-! ### WhyT -/
/-! ### WhyS -/

theorem own_take1 {B : Nat} {w : World} {a : Option Addr} {c : Nat} {xs : List Int} (h : Own B w [.slice a xs.length c] xs) (hl : 0 < xs.length) : Own B w [.slice a 1 c] [el xs 0] := by
  obtain ⟨fp, ⟨a', cap, he, h1, h2, h3⟩, hfp⟩ := h
  simp only [List.cons.injEq, Value.slice.injEq, and_true, true_and] at he
  obtain ⟨rfl, rfl⟩ := he
  rcases h3 with ⟨hn, _⟩ | ⟨g, e, cur, fps, rfl, hh, hs, hf, rfl, hnd, hc⟩
  · rw [hn] at hl; simp at hl
  · obtain ⟨ecs, hC, hO⟩ := hc 0 hl
    have hO' : Ow.O w ecs (el xs 0) [] := by
      have := Fl.ospec.1 hO
      exact Fl.ospec.2 ⟨this.1, rfl⟩
    refine ⟨[g], ⟨some ⟨g, 0, none⟩, c, rfl, by simp; omega, h2, .inr ⟨g, e, cur, [[]], rfl, hh, hs, rfl, by simp, by simp, fun i hi => ?_⟩⟩, fun b hb => hfp b (by simp at hb; subst hb; simp)⟩
    have : i = 0 := by simp at hi; omega
    subst this
    exact ⟨ecs, hC, hO'⟩
set_option maxHeartbeats 4000000 in
theorem specAgainst_calls {cs : List Value} {p : ProgD} {w : World} {v : Value} {xs : List Int} (h : Rd.R w cs p) (gx : RdL w [v] xs) :
    Calls Tryz.prog 31 #[.agg cs.toArray, v] w fun e w' => ∃ u, e = .returned (.tuple #[.int .i64 (agaN p xs), u]) ∧ Own w.heap.size w' [u] (agaL p xs) ∧ Below w.heap.size w w' := by
  obtain ⟨p0, p1, p2, p3, p4, p5, p6, p7, rfl⟩ := list8 (Rd.len h)
  obtain ⟨ax, cx, rfl, _, hx⟩ := gx.sl
  have t0 : Below w.heap.size w (w.alloc (.cells #[p0, p1, p2, p3, p4, p5, p6, p7] 30)) := (Below.refl _ _).alloc (by simp) _
  have hxm := hx.1
  have CP := Cells.new w [p0, p1, p2, p3, p4, p5, p6, p7] 30
  cases hF : foldB p
  · obtain ⟨h1, h2⟩ := aga_A (xs := xs) (whyB_A hF)
    have H1 := Lib.hid h1
    have H2 := Lib.hid h2
    clear h1 h2
    go_enter Tryz.func31, Tryz.ntmps31
    go_wp2_with fail
    refine (specFold_calls (Rd.mono t0 h)).mono ?_
    rintro e w1 ⟨cs1, he, o1, b1⟩
    rw [hF] at he
    subst he
    have t1 := t0.step b1
    have l1 := Rd.one o1.rd
    obtain ⟨x0, x1, x2, x3, x4, x5, x6, x7, rfl⟩ := list8 (Rd.len o1.rd)
    have st0 := sto Tryz.prog (l1 x0 (by simp))
    have st1 := sto Tryz.prog (l1 x1 (by simp))
    have st2 := sto Tryz.prog (l1 x2 (by simp))
    have st3 := sto Tryz.prog (l1 x3 (by simp))
    have st4 := sto Tryz.prog (l1 x4 (by simp))
    have st5 := sto Tryz.prog (l1 x5 (by simp))
    have st6 := sto Tryz.prog (l1 x6 (by simp))
    have st7 := sto Tryz.prog (l1 x7 (by simp))
    have o1 := o1.alloc (.cells #[x0, x1, x2, x3, x4, x5, x6, x7] 30)
    have CX1 := Cells.new w1 [x0, x1, x2, x3, x4, x5, x6, x7] 30
    have t1 := t1.alloc t1.size (.cells #[x0, x1, x2, x3, x4, x5, x6, x7] 30)
    clear l1
    go_wp2
    go_ret2
    refine ⟨_, by rw [H1.out]; rfl, ?_, t1.alloc t1.size _⟩
    rw [H2.out]
    have hn := OwnI.new _ w.heap.size t1.size
    rw [World.size_alloc] at hn
    exact hn.own
  · cases hS : setOkB xs (foldD p).atoms
    · obtain ⟨h1, h2⟩ := aga_A (xs := xs) ((whyB_B hF).trans hS)
      have H1 := Lib.hid h1
      have H2 := Lib.hid h2
      clear h1 h2
      go_enter Tryz.func31, Tryz.ntmps31
      go_wp2_with fail
      refine (specFold_calls (Rd.mono t0 h)).mono ?_
      rintro e w1 ⟨cs1, he, o1, b1⟩
      rw [hF] at he
      rw [foldR_yes hF] at o1
      subst he
      have t1 := t0.step b1
      have l1 := Rd.one o1.rd
      obtain ⟨x0, x1, x2, x3, x4, x5, x6, x7, rfl⟩ := list8 (Rd.len o1.rd)
      have st0 := sto Tryz.prog (l1 x0 (by simp))
      have st1 := sto Tryz.prog (l1 x1 (by simp))
      have st2 := sto Tryz.prog (l1 x2 (by simp))
      have st3 := sto Tryz.prog (l1 x3 (by simp))
      have st4 := sto Tryz.prog (l1 x4 (by simp))
      have st5 := sto Tryz.prog (l1 x5 (by simp))
      have st6 := sto Tryz.prog (l1 x6 (by simp))
      have st7 := sto Tryz.prog (l1 x7 (by simp))
      have o1 := o1.alloc (.cells #[x0, x1, x2, x3, x4, x5, x6, x7] 30)
      have CX1 := Cells.new w1 [x0, x1, x2, x3, x4, x5, x6, x7] 30
      have t1 := t1.alloc t1.size (.cells #[x0, x1, x2, x3, x4, x5, x6, x7] 30)
      clear l1
      obtain ⟨y0, y1, y2, y3, y4, y5, y6, y7⟩ := cells8 CX1
      have oR := o1.rd
      obtain ⟨_, _, _, _, _, _, hl, _⟩ := oR
      simp only [List.cons.injEq, and_true] at hl
      obtain ⟨rfl, -⟩ := hl
      have hx1 := (hx.later t1).ints
      go_wp2_with (go_at_call 16; refine (specSetOk_calls _ _ _ _ _ hx1).mono ?_; rintro e w' ⟨he, b2⟩; rw [hS] at he; subst he)
      go_ret2
      have t2 := t1.step b2
      refine ⟨_, by rw [H1.out]; rfl, ?_, t2.alloc t2.size _⟩
      rw [H2.out]
      exact (OwnI.new _ w.heap.size t2.size).own
    · have hW : whyB p xs = true := (whyB_B hF).trans hS
      go_enter Tryz.func31, Tryz.ntmps31
      go_wp2_with fail
      refine (specFold_calls (Rd.mono t0 h)).mono ?_
      rintro e w1 ⟨cs1, he, o1, b1⟩
      rw [hF] at he
      rw [foldR_yes hF] at o1
      subst he
      have t1 := t0.step b1
      have l1 := Rd.one o1.rd
      obtain ⟨x0, x1, x2, x3, x4, x5, x6, x7, rfl⟩ := list8 (Rd.len o1.rd)
      have st0 := sto Tryz.prog (l1 x0 (by simp))
      have st1 := sto Tryz.prog (l1 x1 (by simp))
      have st2 := sto Tryz.prog (l1 x2 (by simp))
      have st3 := sto Tryz.prog (l1 x3 (by simp))
      have st4 := sto Tryz.prog (l1 x4 (by simp))
      have st5 := sto Tryz.prog (l1 x5 (by simp))
      have st6 := sto Tryz.prog (l1 x6 (by simp))
      have st7 := sto Tryz.prog (l1 x7 (by simp))
      have o1 := o1.alloc (.cells #[x0, x1, x2, x3, x4, x5, x6, x7] 30)
      have CX1 := Cells.new w1 [x0, x1, x2, x3, x4, x5, x6, x7] 30
      have t1 := t1.alloc t1.size (.cells #[x0, x1, x2, x3, x4, x5, x6, x7] 30)
      clear l1
      obtain ⟨y0, y1, y2, y3, y4, y5, y6, y7⟩ := cells8 CX1
      have oR := o1.rd
      obtain ⟨_, _, _, _, _, _, hl, _⟩ := oR
      simp only [List.cons.injEq, and_true] at hl
      obtain ⟨rfl, -⟩ := hl
      have hx1 := (hx.later t1).ints
      have CP1 := (CP.later b1).alloc (.cells #[.int .i64 (foldD p).atoms, x1, x2, x3, x4, x5, x6, x7] 30)
      go_wp2_with (go_at_call 16; refine (specSetOk_calls _ _ _ _ _ hx1).mono ?_; rintro e w2 ⟨he, b2⟩; rw [hS] at he; subst he; have CP2 := CP1.later b2; obtain ⟨z0, z1, z2, z3, z4, z5, z6, z7⟩ := cells8 CP2)
      have t2 := t1.step b2
      refine (specBroken_calls (Rd.mono t2 h) (Rd.mono (α := List Int) t2 gx)).mono ?_
      rintro e w3 ⟨u3, rfl, ho3, b3⟩
      clear y0 y1 y2 y3 y4 y5 y6 y7 z0 z1 z2 z3 z4 z5 z6 z7
      have t3 := t2.step b3
      obtain ⟨z0, z1, z2, z3, z4, z5, z6, z7⟩ := cells8 (CP2.later b3)
      obtain ⟨a3, c3, rfl, hc3, hr3⟩ := (show RdL w3 [u3] (brkR p xs) from ho3.rd).sl
      have hbl := brkR_len p xs
      by_cases hz : (brkR p xs).length = 0
      · have hzi : ¬ (0 : Int) < ((brkR p xs).length : Int) := by omega
        have HZ := Lib.hid hz
        clear hz
        go_wp2_with fail
        refine (specUnfounded_calls (Rd.mono t3 h) (Rd.mono (α := List Int) t3 gx)).mono ?_
        rintro e w4 ⟨u4, rfl, ho4, b4⟩
        have t4 := t3.step b4
        obtain ⟨a4, c4, rfl, _, _⟩ := ho4.open
        clear z0 z1 z2 z3 z4 z5 z6 z7
        by_cases hu : (unfR p xs).length = 0
        · obtain ⟨h1, h2⟩ := aga_D hW HZ.out hu
          have H1 := Lib.hid h1
          have H2 := Lib.hid h2
          have hui : ¬ (0 : Int) < ((unfR p xs).length : Int) := by omega
          clear h1 h2 hu
          go_wp2
          go_ret2
          refine ⟨_, by rw [H1.out]; rfl, ?_, t4.alloc t4.size _⟩
          rw [H2.out]
          exact (OwnI.new _ w.heap.size t4.size).own
        · obtain ⟨h1, h2⟩ := aga_C hW HZ.out hu
          have H1 := Lib.hid h1
          have H2 := Lib.hid h2
          have hui : (0 : Int) < ((unfR p xs).length : Int) := by omega
          clear h1 h2 hu
          go_wp2
          go_ret2
          refine ⟨.slice a4 (unfR p xs).length c4, by rw [H1.out]; rfl, ?_, t4⟩
          rw [H2.out]
          exact (ho4.mono t3.size).own
      · obtain ⟨h1, h2⟩ := aga_B hW hz
        have H1 := Lib.hid h1
        have H2 := Lib.hid h2
        have hzi : (0 : Int) < ((brkR p xs).length : Int) := by omega
        have hz0 : 0 < (brkR p xs).length := by omega
        have hoT := own_take1 ho3 hz0
        have hc1 : (1 : Int) ≤ (c3 : Int) := by omega
        have hc1' : 1 ≤ c3 := by omega
        clear h1 h2 hz z0 z1 z2 z3 z4 z5 z6 z7
        go_wp2
        go_quiet (fail)
        go_wp2
        go_ret2
        refine ⟨.slice a3 1 c3, by rw [H1.out]; rfl, ?_, by first | exact t3.drew | exact below_drewN t3 _⟩
        rw [H2.out]
        have ho9 := hoT.mono t2.size
        first | exact ho9.drew | exact ho9

/-! ### WhyR -/





end Go.Proofs.YthfbnalgnnjbbaaGreat
