/-
  Reasons: what both sides answer. No condition of its own.
-/
import Derived.Test.YtleimijgpmoifaaGreatWhyT
import Derived.StillTailTactics
namespace Go.Proofs.YtleimijgpmoifaaGreat
set_option linter.unusedVariables false
set_option linter.unusedSimpArgs false
open Go.RowKit Go.Shelf
set_option maxRecDepth 100000


theorem alw_1 {rs : List RuleD} {ts xs : List Int} {A I : Int} (h : hasB ts A = true) : alwB rs ts xs (A, I) = false := alwB_A (by simp [h])
theorem alw_2 {rs : List RuleD} {ts xs : List Int} {A I : Int} (h : hasB xs A = false) : alwB rs ts xs (A, I) = false := alwB_A (by simp [h])
theorem alw_4 {rs : List RuleD} {ts xs : List Int} {A : Int} {n : Nat} (h1 : hasB ts A = false) (h2 : hasB xs A = true) (h3 : btwB (n : Int) 0 ((rs.length : Int) - 1) = true) : alwB rs ts xs (A, (n : Int)) = (hasB (nth rs n).heads A && reachB (nth rs n) (h2B ts xs)) := by
  rw [alwB_C (by simp [h1, h2]) h3, Int.toNat_natCast]; rfl


set_option maxHeartbeats 8000000 in
theorem specReasons_calls {cs : List Value} {p : ProgD} {w : World} {v v2 : Value} {xs : List Int} {l : List (Int × Int)} (h : Rd.R w cs p) (gx : RdL w [v] xs) (gl : RdL w [v2] l) :
    Calls Tryz.prog 33 #[.agg cs.toArray, v, v2] w fun e w' => e = .returned (.bool (reaB p xs l)) ∧ Below w.heap.size w w' := by
  obtain ⟨p0, p1, p2, p3, p4, p5, p6, p7, rfl⟩ := list8 (Rd.len h)
  obtain ⟨ax, cx, rfl, _, hx⟩ := gx.sl
  have t0 : Below w.heap.size w (w.alloc (.cells #[p0, p1, p2, p3, p4, p5, p6, p7] 36)) := (Below.refl _ _).alloc (by simp) _
  have hxm := hx.1
  obtain ⟨al, cl, rfl, _, hll⟩ := gl.sl
  have hlm := hll.1
  cases hF : foldB p
  · have hv := Lib.hid (reaB_A (l := l) (whyB_A (xs := xs) hF))
    go_enter Tryz.func33, Tryz.ntmps33
    go_wp2_with fail
    refine (specFold_calls (Rd.mono t0 h)).mono ?_
    rintro e w1 ⟨cs1, he, o1, b1⟩
    rw [hF] at he
    subst he
    have t1 := t0.step b1
    have l1 := Rd.one o1.rd
    obtain ⟨x0, x1, x2, x3, x4, x5, x6, x7, rfl⟩ := list8 (Rd.len o1.rd)
    have st0 := sto Tryz.prog (l1 x0 (by simp))
    have st1 := sto Tryz.prog (l1 x1 (by simp))
    have st2 := sto Tryz.prog (l1 x2 (by simp))
    have st3 := sto Tryz.prog (l1 x3 (by simp))
    have st4 := sto Tryz.prog (l1 x4 (by simp))
    have st5 := sto Tryz.prog (l1 x5 (by simp))
    have st6 := sto Tryz.prog (l1 x6 (by simp))
    have st7 := sto Tryz.prog (l1 x7 (by simp))
    have o1 := o1.alloc (.cells #[x0, x1, x2, x3, x4, x5, x6, x7] 36)
    have CX1 := Cells.new w1 [x0, x1, x2, x3, x4, x5, x6, x7] 36
    have t1 := t1.alloc t1.size (.cells #[x0, x1, x2, x3, x4, x5, x6, x7] 36)
    clear l1
    go_wp2
    go_ret
    exact ⟨ret_bool hv.out.symm, t1⟩
  · cases hS : setOkB xs (foldD p).atoms
    · have hv := Lib.hid (reaB_A (l := l) ((whyB_B hF).trans hS))
      go_enter Tryz.func33, Tryz.ntmps33
      go_wp2_with fail
      refine (specFold_calls (Rd.mono t0 h)).mono ?_
      rintro e w1 ⟨cs1, he, o1, b1⟩
      rw [hF] at he
      rw [foldR_yes hF] at o1
      subst he
      have t1 := t0.step b1
      have l1 := Rd.one o1.rd
      obtain ⟨x0, x1, x2, x3, x4, x5, x6, x7, rfl⟩ := list8 (Rd.len o1.rd)
      have st0 := sto Tryz.prog (l1 x0 (by simp))
      have st1 := sto Tryz.prog (l1 x1 (by simp))
      have st2 := sto Tryz.prog (l1 x2 (by simp))
      have st3 := sto Tryz.prog (l1 x3 (by simp))
      have st4 := sto Tryz.prog (l1 x4 (by simp))
      have st5 := sto Tryz.prog (l1 x5 (by simp))
      have st6 := sto Tryz.prog (l1 x6 (by simp))
      have st7 := sto Tryz.prog (l1 x7 (by simp))
      have o1 := o1.alloc (.cells #[x0, x1, x2, x3, x4, x5, x6, x7] 36)
      have CX1 := Cells.new w1 [x0, x1, x2, x3, x4, x5, x6, x7] 36
      have t1 := t1.alloc t1.size (.cells #[x0, x1, x2, x3, x4, x5, x6, x7] 36)
      clear l1
      have oR := o1.rd
      obtain ⟨_, _, _, _, _, _, hl, _, g1, _⟩ := oR
      simp only [List.cons.injEq, and_true] at hl
      obtain ⟨rfl, rfl, -⟩ := hl
      obtain ⟨a1, k1, rfl, _, h1⟩ := g1.sl
      obtain ⟨y0, y1, y2, y3, y4, y5, y6, y7⟩ := cells8 CX1
      have hx1 := (hx.later t1).ints
      go_wp2_with fail
      refine (specSetOk_calls _ _ _ _ _ hx1).mono ?_
      rintro e w2 ⟨he, b2⟩
      rw [hS] at he
      subst he
      have t2 := t1.step b2
      go_wp2
      go_ret
      exact ⟨ret_bool hv.out.symm, t2⟩
    · have hW : whyB p xs = true := (whyB_B hF).trans hS
      by_cases hle : l.length = xs.length
      · have hv : Hid (reaB p xs l = alwTo (foldD p).rules xs l l.length) := by
          show _ = _
          rw [reaB_B hW]; unfold reaQ; rw [decide_eq_true hle, Bool.true_and]
        have hbn : ((l.length : Int) != (xs.length : Int)) = false := by simp [hle]
        have hok : progOkB (foldD p) = true := foldR_ok hF
        have hr12 := Lib.hid (rules12 hok)
        have hlen := (progOk_rules hok).1
        have hxl := (whyB_isP hW).le
        have hlr : l.length ≤ 12 := by omega
        have hWW := Lib.hid hW
        have HLE := Lib.hid hle
        clear hle
        go_enter Tryz.func33, Tryz.ntmps33
        go_wp2_with fail
        refine (specFold_calls (Rd.mono t0 h)).mono ?_
        rintro e w1 ⟨cs1, he, o1, b1⟩
        rw [hF] at he
        rw [foldR_yes hF] at o1
        subst he
        have t1 := t0.step b1
        have l1 := Rd.one o1.rd
        obtain ⟨x0, x1, x2, x3, x4, x5, x6, x7, rfl⟩ := list8 (Rd.len o1.rd)
        have st0 := sto Tryz.prog (l1 x0 (by simp))
        have st1 := sto Tryz.prog (l1 x1 (by simp))
        have st2 := sto Tryz.prog (l1 x2 (by simp))
        have st3 := sto Tryz.prog (l1 x3 (by simp))
        have st4 := sto Tryz.prog (l1 x4 (by simp))
        have st5 := sto Tryz.prog (l1 x5 (by simp))
        have st6 := sto Tryz.prog (l1 x6 (by simp))
        have st7 := sto Tryz.prog (l1 x7 (by simp))
        have o1 := o1.alloc (.cells #[x0, x1, x2, x3, x4, x5, x6, x7] 36)
        have CX1 := Cells.new w1 [x0, x1, x2, x3, x4, x5, x6, x7] 36
        have t1 := t1.alloc t1.size (.cells #[x0, x1, x2, x3, x4, x5, x6, x7] 36)
        clear l1
        have oR := o1.rd
        obtain ⟨_, _, _, _, _, _, hl, _, g1, _⟩ := oR
        simp only [List.cons.injEq, and_true] at hl
        obtain ⟨rfl, rfl, -⟩ := hl
        obtain ⟨a1, k1, rfl, _, h1⟩ := g1.sl
        obtain ⟨y0, y1, y2, y3, y4, y5, y6, y7⟩ := cells8 CX1
        have hx1 := (hx.later t1).ints
        go_wp2_with fail
        refine (specSetOk_calls _ _ _ _ _ hx1).mono ?_
        rintro e w2 ⟨he, b2⟩
        rw [hS] at he
        subst he
        have t2 := t1.step b2
        have CX2 := (CX1.later b2).alloc (.cells #[] 3)
        have hT := OwnI.new w2 w2.heap.size (Nat.le_refl _)
        have tz := t2.alloc t2.size (.cells #[] 3)
        have bz := (Below.refl w2.heap.size w2).alloc (Nat.le_refl _) (.cells #[] 3)
        have h1 := h1.later b2
        have hm1 := h1.1
        have hz2' := b2.size
        have hz0' := t2.size
        rw [World.size_alloc] at hz2'
        obtain ⟨wz, hwz⟩ : ∃ wz, wz = w2.alloc (.cells #[] 3) := ⟨_, rfl⟩
        have hzz : wz.heap.size = w2.heap.size + 1 := by rw [hwz, World.size_alloc]
        rw [← hwz] at CX2 hT tz bz
        have HBZ := Lib.hid bz
        have CXH := Lib.hid CX2
        clear y0 y1 y2 y3 y4 y5 y6 y7 CX1 CX2 o1 hS hW bz g1
        go_wp2
        rw [← hwz]
        clear hwz st0 st1 st2 st3 st4 st5 st6 st7 hbn
        go_loopw [9, 10] (fun tv iv wr => ∃ k : Nat, k ≤ l.length ∧ iv = .int .i64 k ∧ OwnI w2.heap.size wr tv (fsts (l.take k)) ∧ Hid (alwTo (foldD p).rules xs l k = true) ∧ Below w2.heap.size wz wr) (fun _ iv _ => l.length - (intOf iv).toNat)
        case atStart => exact ⟨0, Nat.zero_le _, rfl, hT, (rfl : alwTo (foldD p).rules xs l 0 = true), Below.refl _ _⟩
        case round =>
          obtain ⟨k, hk, rfl, ht, hA, hb⟩ := hrel
          have hsz := hb.size
          have tw : Below w.heap.size w wr := tz.trans (hb.mono (by omega))
          obtain ⟨ts, hts⟩ : ∃ ts, ts = fsts (l.take k) := ⟨_, rfl⟩
          rw [← hts] at ht
          have htl : ts.length ≤ 12 := by rw [hts, fsts_len, List.length_take]; omega
          have HT := Lib.hid hts
          clear hts hT
          obtain ⟨at1, kt1, rfl, hIt, _⟩ := ht.open
          have hgt : RdL wr [.slice at1 ts.length kt1] ts := ht.own.rd
          by_cases hlt : k < l.length
          · have hgl := hll.later tw
            obtain ⟨bl, ol, rfl, hcl⟩ := hgl.base (by omega)
            obtain ⟨els, hCl, hRl⟩ := hcl k hlt
            obtain ⟨A, I, hAI⟩ : ∃ A I, nth l k = (A, I) := ⟨_, _, rfl⟩
            rw [hAI] at hRl
            obtain ⟨rfl, fA, fI⟩ := hRl
            have l0 := hCl.c0
            have l1 := hCl.c1
            rw [show Rd.k (Int × Int) = 2 from rfl] at l0 l1
            clear hCl hcl
            have bA := (Below.refl wr.heap.size wr).alloc (Nat.le_refl _) (.cells #[.int .i64 A, .int .i64 I] 103)
            have CR := Cells.new wr [.int .i64 A, .int .i64 I] 103
            have htA := ht.kept bA
            have hIA := hIt.later bA
            have hxA := ((hx.later tw).later bA).ints
            have CPk : Cells wr w1.heap.size 0 [.int .i64 (foldD p).atoms, .slice a1 (foldD p).rules.length k1, x2, x3, x4, x5, x6, x7] := Cells.kept CXH.out (hb.block w1.heap.size (by omega))
            have CPA := CPk.later bA
            obtain ⟨y0, y1, y2, y3, y4, y5, y6, y7⟩ := cells8 CPA
            obtain ⟨z0, z1⟩ := cells2 CR
            have H1 := fun (W : World) (hw : Ints W at1 ts) => Lib.hid (SetHas_calls at1 ts kt1 A W hw)
            have H2 := fun (W : World) (hw : Ints W ax xs) => Lib.hid (SetHas_calls ax xs cx A W hw)
            have H3 := fun (W : World) => Lib.hid (between_calls I 0 (((foldD p).rules.length : Int) - 1) W)
            have hsub : IntKind.i64.wrap (((foldD p).rules.length : Int) - 1) = ((foldD p).rules.length : Int) - 1 := IntWalk.i64_in _ (by omega)
            have hI0 := hIt.later bA
            have hlA : wr.heap.size < (wr.alloc (.cells #[.int .i64 A, .int .i64 I] 103)).heap.size := by simp
            clear y0 y2 y3 y4 y5 y6 y7 CPk hgt hll hgl htA hIA
            cases hh1 : hasB ts A
            · cases hh2 : hasB xs A
              · have hv2 : Hid (reaB p xs l = false) := by show _ = _; rw [reaB_B hWW.out]; exact reaQ_no hlt (by rw [hAI, ← HT.out]; exact alw_2 hh2)
                rw [hh1] at H1
                rw [hh2] at H2
                go_wp2
                generalize wr.alloc (.cells #[.int .i64 A, _] 103) = wA at *
                refine wp_region_held_drew (S := (fun w' => w'.cell? ⟨wr.heap.size, 0, none⟩ = some (.int .i64 A) ∧ w'.cell? ⟨wr.heap.size, 1, none⟩ = some (.int .i64 I) ∧ w'.cell? ⟨w1.heap.size, 1, none⟩ = some (.slice a1 (foldD p).rules.length k1))) (by kernel_rfl) ⟨z0, z1, y1⟩ (fun hHeld => ?_)
                refine takeD (i := 0) (v := .slice at1 ts.length kt1) (some 44) rfl rfl (by kernel_rfl) (by kernel_rfl) (by kernel_rfl) (fun _ _ _ h => h) (Or.inl ⟨by rfl, fun w' hw' => ?_⟩) hHeld ?_
                · first | (go_simp; done) | (obtain ⟨s0, s1, s2⟩ := hw'; go_simp; done)
                try simp only [Act.put, List.setIfInBounds_toArray, List.set_cons_zero, List.set_cons_succ]
                refine takeD (i := 1) (v := .pointer (some ⟨wr.heap.size, 0, none⟩)) (some 45) rfl rfl (by kernel_rfl) (by kernel_rfl) (by kernel_rfl) (fun _ _ _ h => h) (Or.inl ⟨by rfl, fun w' hw' => ?_⟩) hHeld ?_
                · first | (go_simp; done) | (obtain ⟨s0, s1, s2⟩ := hw'; go_simp; done)
                try simp only [Act.put, List.setIfInBounds_toArray, List.set_cons_zero, List.set_cons_succ]
                refine takeD (i := 2) (v := .int .i64 A) (some 46) rfl rfl (by kernel_rfl) (by kernel_rfl) (by kernel_rfl) (fun _ _ _ h => h) (Or.inl ⟨by rfl, fun w' hw' => ?_⟩) hHeld ?_
                · first | (go_simp; done) | (obtain ⟨s0, s1, s2⟩ := hw'; go_simp; done)
                try simp only [Act.put, List.setIfInBounds_toArray, List.set_cons_zero, List.set_cons_succ]
                refine wpAnyH_ready (rs := [3]) (by kernel_rfl) (by simp) ?_
                refine AllReadyH.cons rfl (fun K hK => ?_) AllReadyH.nil
                go_simp
                refine ((H1 _ (hIt.later bA.drew)).out).mono ?_
                rintro e w' ⟨rfl, rfl⟩
                refine hK.out _ _ ⟨z0, z1, y1⟩ (fun hHeld => ?_)
                clear hK K
                try simp only [Act.put, List.setIfInBounds_toArray, List.set_cons_zero, List.set_cons_succ]
                refine takeD (i := 4) (v := .bool false) (some 48) rfl rfl (by kernel_rfl) (by kernel_rfl) (by kernel_rfl) (fun _ _ _ h => h) (Or.inl ⟨by rfl, fun w' hw' => ?_⟩) hHeld ?_
                · first | (go_simp; done) | (obtain ⟨s0, s1, s2⟩ := hw'; go_simp; done)
                try simp only [Act.put, List.setIfInBounds_toArray, List.set_cons_zero, List.set_cons_succ]
                refine takeD (i := 5) (v := .slice ax xs.length cx) (some 49) rfl rfl (by kernel_rfl) (by kernel_rfl) (by kernel_rfl) (fun _ _ _ h => h) (Or.inl ⟨by rfl, fun w' hw' => ?_⟩) hHeld ?_
                · first | (go_simp; done) | (obtain ⟨s0, s1, s2⟩ := hw'; go_simp; done)
                try simp only [Act.put, List.setIfInBounds_toArray, List.set_cons_zero, List.set_cons_succ]
                refine takeD (i := 6) (v := .pointer (some ⟨wr.heap.size, 0, none⟩)) (some 50) rfl rfl (by kernel_rfl) (by kernel_rfl) (by kernel_rfl) (fun _ _ _ h => h) (Or.inl ⟨by rfl, fun w' hw' => ?_⟩) hHeld ?_
                · first | (go_simp; done) | (obtain ⟨s0, s1, s2⟩ := hw'; go_simp; done)
                try simp only [Act.put, List.setIfInBounds_toArray, List.set_cons_zero, List.set_cons_succ]
                refine takeD (i := 7) (v := .int .i64 A) (some 51) rfl rfl (by kernel_rfl) (by kernel_rfl) (by kernel_rfl) (fun _ _ _ h => h) (Or.inl ⟨by rfl, fun w' hw' => ?_⟩) hHeld ?_
                · first | (go_simp; done) | (obtain ⟨s0, s1, s2⟩ := hw'; go_simp; done)
                try simp only [Act.put, List.setIfInBounds_toArray, List.set_cons_zero, List.set_cons_succ]
                refine wpAnyH_ready (rs := [8]) (by kernel_rfl) (by simp) ?_
                refine AllReadyH.cons rfl (fun K hK => ?_) AllReadyH.nil
                go_simp
                refine ((H2 _ ((hx.later tw).later bA.drew).ints).out).mono ?_
                rintro e w' ⟨rfl, rfl⟩
                refine hK.out _ _ ⟨z0, z1, y1⟩ (fun hHeld => ?_)
                clear hK K
                try simp only [Act.put, List.setIfInBounds_toArray, List.set_cons_zero, List.set_cons_succ]
                refine takeD (i := 9) (v := .bool true) (some 53) rfl rfl (by kernel_rfl) (by kernel_rfl) (by kernel_rfl) (fun _ _ _ h => h) (Or.inl ⟨by rfl, fun w' hw' => ?_⟩) hHeld ?_
                · first | (go_simp; done) | (obtain ⟨s0, s1, s2⟩ := hw'; go_simp; done)
                try simp only [Act.put, List.setIfInBounds_toArray, List.set_cons_zero, List.set_cons_succ]
                refine takeD (i := 10) (v := .bool true) (some 54) rfl rfl (by kernel_rfl) (by kernel_rfl) (by kernel_rfl) (fun _ _ _ h => h) (Or.inl ⟨by rfl, fun w' hw' => ?_⟩) hHeld ?_
                · first | (go_simp; done) | (obtain ⟨s0, s1, s2⟩ := hw'; go_simp; done)
                try simp only [Act.put, List.setIfInBounds_toArray, List.set_cons_zero, List.set_cons_succ]
                refine takeD (i := 11) (v := .bool true) (some 55) rfl rfl (by kernel_rfl) (by kernel_rfl) (by kernel_rfl) (fun _ _ _ h => h) (Or.inl ⟨by rfl, fun w' hw' => ?_⟩) hHeld ?_
                · first | (go_simp; done) | (obtain ⟨s0, s1, s2⟩ := hw'; go_simp; done)
                try simp only [Act.put, List.setIfInBounds_toArray, List.set_cons_zero, List.set_cons_succ]
                refine takeD (i := 12) (v := undef) (some 56) rfl rfl (by kernel_rfl) (by kernel_rfl) (by kernel_rfl) (fun _ _ _ h => h) (Or.inr ⟨by rfl, rfl⟩) hHeld ?_
                try simp only [Act.put, List.setIfInBounds_toArray, List.set_cons_zero, List.set_cons_succ]
                refine takeD (i := 13) (v := undef) (some 57) rfl rfl (by kernel_rfl) (by kernel_rfl) (by kernel_rfl) (fun _ _ _ h => h) (Or.inr ⟨by rfl, rfl⟩) hHeld ?_
                try simp only [Act.put, List.setIfInBounds_toArray, List.set_cons_zero, List.set_cons_succ]
                refine takeD (i := 14) (v := undef) (some 58) rfl rfl (by kernel_rfl) (by kernel_rfl) (by kernel_rfl) (fun _ _ _ h => h) (Or.inr ⟨by rfl, rfl⟩) hHeld ?_
                try simp only [Act.put, List.setIfInBounds_toArray, List.set_cons_zero, List.set_cons_succ]
                refine takeD (i := 15) (v := undef) (some 59) rfl rfl (by kernel_rfl) (by kernel_rfl) (by kernel_rfl) (fun _ _ _ h => h) (Or.inr ⟨by rfl, rfl⟩) hHeld ?_
                try simp only [Act.put, List.setIfInBounds_toArray, List.set_cons_zero, List.set_cons_succ]
                refine takeD (i := 16) (v := undef) (some 60) rfl rfl (by kernel_rfl) (by kernel_rfl) (by kernel_rfl) (fun _ _ _ h => h) (Or.inr ⟨by rfl, rfl⟩) hHeld ?_
                try simp only [Act.put, List.setIfInBounds_toArray, List.set_cons_zero, List.set_cons_succ]
                refine takeD (i := 17) (v := undef) (some 61) rfl rfl (by kernel_rfl) (by kernel_rfl) (by kernel_rfl) (fun _ _ _ h => h) (Or.inr ⟨by rfl, rfl⟩) hHeld ?_
                try simp only [Act.put, List.setIfInBounds_toArray, List.set_cons_zero, List.set_cons_succ]
                refine takeD (i := 18) (v := undef) (some 62) rfl rfl (by kernel_rfl) (by kernel_rfl) (by kernel_rfl) (fun _ _ _ h => h) (Or.inr ⟨by rfl, rfl⟩) hHeld ?_
                try simp only [Act.put, List.setIfInBounds_toArray, List.set_cons_zero, List.set_cons_succ]
                refine takeD (i := 19) (v := undef) (some 63) rfl rfl (by kernel_rfl) (by kernel_rfl) (by kernel_rfl) (fun _ _ _ h => h) (Or.inr ⟨by rfl, rfl⟩) hHeld ?_
                try simp only [Act.put, List.setIfInBounds_toArray, List.set_cons_zero, List.set_cons_succ]
                refine takeD (i := 20) (v := .bool true) (some 64) rfl rfl (by kernel_rfl) (by kernel_rfl) (by kernel_rfl) (fun _ _ _ h => h) (Or.inl ⟨by rfl, fun w' hw' => ?_⟩) hHeld ?_
                · first | (go_simp; done) | (obtain ⟨s0, s1, s2⟩ := hw'; go_simp; done)
                try simp only [Act.put, List.setIfInBounds_toArray, List.set_cons_zero, List.set_cons_succ]
                refine takeD (i := 21) (v := .bool true) (some 65) rfl rfl (by kernel_rfl) (by kernel_rfl) (by kernel_rfl) (fun _ _ _ h => h) (Or.inl ⟨by rfl, fun w' hw' => ?_⟩) hHeld ?_
                · first | (go_simp; done) | (obtain ⟨s0, s1, s2⟩ := hw'; go_simp; done)
                try simp only [Act.put, List.setIfInBounds_toArray, List.set_cons_zero, List.set_cons_succ]
                refine takeD (i := 22) (v := undef) (some 66) rfl rfl (by kernel_rfl) (by kernel_rfl) (by kernel_rfl) (fun _ _ _ h => h) (Or.inr ⟨by rfl, rfl⟩) hHeld ?_
                try simp only [Act.put, List.setIfInBounds_toArray, List.set_cons_zero, List.set_cons_succ]
                refine takeD (i := 23) (v := undef) (some 67) rfl rfl (by kernel_rfl) (by kernel_rfl) (by kernel_rfl) (fun _ _ _ h => h) (Or.inr ⟨by rfl, rfl⟩) hHeld ?_
                try simp only [Act.put, List.setIfInBounds_toArray, List.set_cons_zero, List.set_cons_succ]
                refine takeD (i := 24) (v := undef) (some 68) rfl rfl (by kernel_rfl) (by kernel_rfl) (by kernel_rfl) (fun _ _ _ h => h) (Or.inr ⟨by rfl, rfl⟩) hHeld ?_
                try simp only [Act.put, List.setIfInBounds_toArray, List.set_cons_zero, List.set_cons_succ]
                refine takeD (i := 25) (v := undef) (some 69) rfl rfl (by kernel_rfl) (by kernel_rfl) (by kernel_rfl) (fun _ _ _ h => h) (Or.inr ⟨by rfl, rfl⟩) hHeld ?_
                try simp only [Act.put, List.setIfInBounds_toArray, List.set_cons_zero, List.set_cons_succ]
                refine takeD (i := 26) (v := undef) (some 70) rfl rfl (by kernel_rfl) (by kernel_rfl) (by kernel_rfl) (fun _ _ _ h => h) (Or.inr ⟨by rfl, rfl⟩) hHeld ?_
                try simp only [Act.put, List.setIfInBounds_toArray, List.set_cons_zero, List.set_cons_succ]
                refine takeD (i := 27) (v := undef) (some 71) rfl rfl (by kernel_rfl) (by kernel_rfl) (by kernel_rfl) (fun _ _ _ h => h) (Or.inr ⟨by rfl, rfl⟩) hHeld ?_
                try simp only [Act.put, List.setIfInBounds_toArray, List.set_cons_zero, List.set_cons_succ]
                refine takeD (i := 28) (v := undef) (some 72) rfl rfl (by kernel_rfl) (by kernel_rfl) (by kernel_rfl) (fun _ _ _ h => h) (Or.inr ⟨by rfl, rfl⟩) hHeld ?_
                try simp only [Act.put, List.setIfInBounds_toArray, List.set_cons_zero, List.set_cons_succ]
                refine takeD (i := 29) (v := undef) (some 73) rfl rfl (by kernel_rfl) (by kernel_rfl) (by kernel_rfl) (fun _ _ _ h => h) (Or.inr ⟨by rfl, rfl⟩) hHeld ?_
                try simp only [Act.put, List.setIfInBounds_toArray, List.set_cons_zero, List.set_cons_succ]
                refine takeD (i := 30) (v := undef) (some 74) rfl rfl (by kernel_rfl) (by kernel_rfl) (by kernel_rfl) (fun _ _ _ h => h) (Or.inr ⟨by rfl, rfl⟩) hHeld ?_
                try simp only [Act.put, List.setIfInBounds_toArray, List.set_cons_zero, List.set_cons_succ]
                refine takeD (i := 31) (v := undef) (some 75) rfl rfl (by kernel_rfl) (by kernel_rfl) (by kernel_rfl) (fun _ _ _ h => h) (Or.inr ⟨by rfl, rfl⟩) hHeld ?_
                try simp only [Act.put, List.setIfInBounds_toArray, List.set_cons_zero, List.set_cons_succ]
                refine takeD (i := 32) (v := undef) (some 76) rfl rfl (by kernel_rfl) (by kernel_rfl) (by kernel_rfl) (fun _ _ _ h => h) (Or.inr ⟨by rfl, rfl⟩) hHeld ?_
                try simp only [Act.put, List.setIfInBounds_toArray, List.set_cons_zero, List.set_cons_succ]
                refine takeD (i := 33) (v := .bool true) (some 77) rfl rfl (by kernel_rfl) (by kernel_rfl) (by kernel_rfl) (fun _ _ _ h => h) (Or.inl ⟨by rfl, fun w' hw' => ?_⟩) hHeld ?_
                · first | (go_simp; done) | (obtain ⟨s0, s1, s2⟩ := hw'; go_simp; done)
                try simp only [Act.put, List.setIfInBounds_toArray, List.set_cons_zero, List.set_cons_succ]
                refine takeD (i := 34) (v := .bool true) (some 78) rfl rfl (by kernel_rfl) (by kernel_rfl) (by kernel_rfl) (fun _ _ _ h => h) (Or.inl ⟨by rfl, fun w' hw' => ?_⟩) hHeld ?_
                · first | (go_simp; done) | (obtain ⟨s0, s1, s2⟩ := hw'; go_simp; done)
                try simp only [Act.put, List.setIfInBounds_toArray, List.set_cons_zero, List.set_cons_succ]
                refine takeD (i := 35) (v := undef) (some 79) rfl rfl (by kernel_rfl) (by kernel_rfl) (by kernel_rfl) (fun _ _ _ h => h) (Or.inr ⟨by rfl, rfl⟩) hHeld ?_
                try simp only [Act.put, List.setIfInBounds_toArray, List.set_cons_zero, List.set_cons_succ]
                refine takeD (i := 36) (v := undef) (some 80) rfl rfl (by kernel_rfl) (by kernel_rfl) (by kernel_rfl) (fun _ _ _ h => h) (Or.inr ⟨by rfl, rfl⟩) hHeld ?_
                try simp only [Act.put, List.setIfInBounds_toArray, List.set_cons_zero, List.set_cons_succ]
                refine takeD (i := 37) (v := undef) (some 81) rfl rfl (by kernel_rfl) (by kernel_rfl) (by kernel_rfl) (fun _ _ _ h => h) (Or.inr ⟨by rfl, rfl⟩) hHeld ?_
                try simp only [Act.put, List.setIfInBounds_toArray, List.set_cons_zero, List.set_cons_succ]
                refine takeD (i := 38) (v := undef) (some 82) rfl rfl (by kernel_rfl) (by kernel_rfl) (by kernel_rfl) (fun _ _ _ h => h) (Or.inr ⟨by rfl, rfl⟩) hHeld ?_
                try simp only [Act.put, List.setIfInBounds_toArray, List.set_cons_zero, List.set_cons_succ]
                refine takeD (i := 39) (v := undef) (some 83) rfl rfl (by kernel_rfl) (by kernel_rfl) (by kernel_rfl) (fun _ _ _ h => h) (Or.inr ⟨by rfl, rfl⟩) hHeld ?_
                try simp only [Act.put, List.setIfInBounds_toArray, List.set_cons_zero, List.set_cons_succ]
                refine takeD (i := 40) (v := undef) (some 84) rfl rfl (by kernel_rfl) (by kernel_rfl) (by kernel_rfl) (fun _ _ _ h => h) (Or.inr ⟨by rfl, rfl⟩) hHeld ?_
                try simp only [Act.put, List.setIfInBounds_toArray, List.set_cons_zero, List.set_cons_succ]
                refine takeD (i := 41) (v := undef) (some 85) rfl rfl (by kernel_rfl) (by kernel_rfl) (by kernel_rfl) (fun _ _ _ h => h) (Or.inr ⟨by rfl, rfl⟩) hHeld ?_
                try simp only [Act.put, List.setIfInBounds_toArray, List.set_cons_zero, List.set_cons_succ]
                refine takeD (i := 42) (v := undef) (some 86) rfl rfl (by kernel_rfl) (by kernel_rfl) (by kernel_rfl) (fun _ _ _ h => h) (Or.inr ⟨by rfl, rfl⟩) hHeld ?_
                try simp only [Act.put, List.setIfInBounds_toArray, List.set_cons_zero, List.set_cons_succ]
                refine takeD (i := 43) (v := undef) (some 87) rfl rfl (by kernel_rfl) (by kernel_rfl) (by kernel_rfl) (fun _ _ _ h => h) (Or.inr ⟨by rfl, rfl⟩) hHeld ?_
                try simp only [Act.put, List.setIfInBounds_toArray, List.set_cons_zero, List.set_cons_succ]
                refine takeD (i := 44) (v := undef) (some 88) rfl rfl (by kernel_rfl) (by kernel_rfl) (by kernel_rfl) (fun _ _ _ h => h) (Or.inr ⟨by rfl, rfl⟩) hHeld ?_
                try simp only [Act.put, List.setIfInBounds_toArray, List.set_cons_zero, List.set_cons_succ]
                refine takeD (i := 45) (v := .bool true) (some 89) rfl rfl (by kernel_rfl) (by kernel_rfl) (by kernel_rfl) (fun _ _ _ h => h) (Or.inl ⟨by rfl, fun w' hw' => ?_⟩) hHeld ?_
                · first | (go_simp; done) | (obtain ⟨s0, s1, s2⟩ := hw'; go_simp; done)
                try simp only [Act.put, List.setIfInBounds_toArray, List.set_cons_zero, List.set_cons_succ]
                refine wpAnyH_done (by kernel_rfl) ?_ _
                go_wp2
                go_ret
                exact ⟨ret_bool hv2.out.symm, (tw.step bA).drew⟩
              · cases hh3 : btwB I 0 (((foldD p).rules.length : Int) - 1)
                · have hv2 : Hid (reaB p xs l = false) := by show _ = _; rw [reaB_B hWW.out]; exact reaQ_no hlt (by rw [hAI, ← HT.out]; exact alwB_B hh3)
                  rw [hh1] at H1
                  rw [hh2] at H2
                  rw [hh3] at H3
                  go_wp2
                  generalize wr.alloc (.cells #[.int .i64 A, _] 103) = wA at *
                  refine wp_region_held_drew (S := (fun w' => w'.cell? ⟨wr.heap.size, 0, none⟩ = some (.int .i64 A) ∧ w'.cell? ⟨wr.heap.size, 1, none⟩ = some (.int .i64 I) ∧ w'.cell? ⟨w1.heap.size, 1, none⟩ = some (.slice a1 (foldD p).rules.length k1))) (by kernel_rfl) ⟨z0, z1, y1⟩ (fun hHeld => ?_)
                  refine takeD (i := 0) (v := .slice at1 ts.length kt1) (some 44) rfl rfl (by kernel_rfl) (by kernel_rfl) (by kernel_rfl) (fun _ _ _ h => h) (Or.inl ⟨by rfl, fun w' hw' => ?_⟩) hHeld ?_
                  · first | (go_simp; done) | (obtain ⟨s0, s1, s2⟩ := hw'; go_simp; done)
                  try simp only [Act.put, List.setIfInBounds_toArray, List.set_cons_zero, List.set_cons_succ]
                  refine takeD (i := 1) (v := .pointer (some ⟨wr.heap.size, 0, none⟩)) (some 45) rfl rfl (by kernel_rfl) (by kernel_rfl) (by kernel_rfl) (fun _ _ _ h => h) (Or.inl ⟨by rfl, fun w' hw' => ?_⟩) hHeld ?_
                  · first | (go_simp; done) | (obtain ⟨s0, s1, s2⟩ := hw'; go_simp; done)
                  try simp only [Act.put, List.setIfInBounds_toArray, List.set_cons_zero, List.set_cons_succ]
                  refine takeD (i := 2) (v := .int .i64 A) (some 46) rfl rfl (by kernel_rfl) (by kernel_rfl) (by kernel_rfl) (fun _ _ _ h => h) (Or.inl ⟨by rfl, fun w' hw' => ?_⟩) hHeld ?_
                  · first | (go_simp; done) | (obtain ⟨s0, s1, s2⟩ := hw'; go_simp; done)
                  try simp only [Act.put, List.setIfInBounds_toArray, List.set_cons_zero, List.set_cons_succ]
                  refine wpAnyH_ready (rs := [3]) (by kernel_rfl) (by simp) ?_
                  refine AllReadyH.cons rfl (fun K hK => ?_) AllReadyH.nil
                  go_simp
                  refine ((H1 _ (hIt.later bA.drew)).out).mono ?_
                  rintro e w' ⟨rfl, rfl⟩
                  refine hK.out _ _ ⟨z0, z1, y1⟩ (fun hHeld => ?_)
                  clear hK K
                  try simp only [Act.put, List.setIfInBounds_toArray, List.set_cons_zero, List.set_cons_succ]
                  refine takeD (i := 4) (v := .bool false) (some 48) rfl rfl (by kernel_rfl) (by kernel_rfl) (by kernel_rfl) (fun _ _ _ h => h) (Or.inl ⟨by rfl, fun w' hw' => ?_⟩) hHeld ?_
                  · first | (go_simp; done) | (obtain ⟨s0, s1, s2⟩ := hw'; go_simp; done)
                  try simp only [Act.put, List.setIfInBounds_toArray, List.set_cons_zero, List.set_cons_succ]
                  refine takeD (i := 5) (v := .slice ax xs.length cx) (some 49) rfl rfl (by kernel_rfl) (by kernel_rfl) (by kernel_rfl) (fun _ _ _ h => h) (Or.inl ⟨by rfl, fun w' hw' => ?_⟩) hHeld ?_
                  · first | (go_simp; done) | (obtain ⟨s0, s1, s2⟩ := hw'; go_simp; done)
                  try simp only [Act.put, List.setIfInBounds_toArray, List.set_cons_zero, List.set_cons_succ]
                  refine takeD (i := 6) (v := .pointer (some ⟨wr.heap.size, 0, none⟩)) (some 50) rfl rfl (by kernel_rfl) (by kernel_rfl) (by kernel_rfl) (fun _ _ _ h => h) (Or.inl ⟨by rfl, fun w' hw' => ?_⟩) hHeld ?_
                  · first | (go_simp; done) | (obtain ⟨s0, s1, s2⟩ := hw'; go_simp; done)
                  try simp only [Act.put, List.setIfInBounds_toArray, List.set_cons_zero, List.set_cons_succ]
                  refine takeD (i := 7) (v := .int .i64 A) (some 51) rfl rfl (by kernel_rfl) (by kernel_rfl) (by kernel_rfl) (fun _ _ _ h => h) (Or.inl ⟨by rfl, fun w' hw' => ?_⟩) hHeld ?_
                  · first | (go_simp; done) | (obtain ⟨s0, s1, s2⟩ := hw'; go_simp; done)
                  try simp only [Act.put, List.setIfInBounds_toArray, List.set_cons_zero, List.set_cons_succ]
                  refine wpAnyH_ready (rs := [8]) (by kernel_rfl) (by simp) ?_
                  refine AllReadyH.cons rfl (fun K hK => ?_) AllReadyH.nil
                  go_simp
                  refine ((H2 _ ((hx.later tw).later bA.drew).ints).out).mono ?_
                  rintro e w' ⟨rfl, rfl⟩
                  refine hK.out _ _ ⟨z0, z1, y1⟩ (fun hHeld => ?_)
                  clear hK K
                  try simp only [Act.put, List.setIfInBounds_toArray, List.set_cons_zero, List.set_cons_succ]
                  refine takeD (i := 9) (v := .bool false) (some 53) rfl rfl (by kernel_rfl) (by kernel_rfl) (by kernel_rfl) (fun _ _ _ h => h) (Or.inl ⟨by rfl, fun w' hw' => ?_⟩) hHeld ?_
                  · first | (go_simp; done) | (obtain ⟨s0, s1, s2⟩ := hw'; go_simp; done)
                  try simp only [Act.put, List.setIfInBounds_toArray, List.set_cons_zero, List.set_cons_succ]
                  refine takeD (i := 10) (v := .bool false) (some 54) rfl rfl (by kernel_rfl) (by kernel_rfl) (by kernel_rfl) (fun _ _ _ h => h) (Or.inl ⟨by rfl, fun w' hw' => ?_⟩) hHeld ?_
                  · first | (go_simp; done) | (obtain ⟨s0, s1, s2⟩ := hw'; go_simp; done)
                  try simp only [Act.put, List.setIfInBounds_toArray, List.set_cons_zero, List.set_cons_succ]
                  refine takeD (i := 11) (v := .bool false) (some 55) rfl rfl (by kernel_rfl) (by kernel_rfl) (by kernel_rfl) (fun _ _ _ h => h) (Or.inl ⟨by rfl, fun w' hw' => ?_⟩) hHeld ?_
                  · first | (go_simp; done) | (obtain ⟨s0, s1, s2⟩ := hw'; go_simp; done)
                  try simp only [Act.put, List.setIfInBounds_toArray, List.set_cons_zero, List.set_cons_succ]
                  refine takeD (i := 12) (v := .pointer (some ⟨wr.heap.size, 1, none⟩)) (some 56) rfl rfl (by kernel_rfl) (by kernel_rfl) (by kernel_rfl) (fun _ _ _ h => h) (Or.inl ⟨by rfl, fun w' hw' => ?_⟩) hHeld ?_
                  · first | (go_simp; done) | (obtain ⟨s0, s1, s2⟩ := hw'; go_simp; done)
                  try simp only [Act.put, List.setIfInBounds_toArray, List.set_cons_zero, List.set_cons_succ]
                  refine takeD (i := 13) (v := .int .i64 I) (some 57) rfl rfl (by kernel_rfl) (by kernel_rfl) (by kernel_rfl) (fun _ _ _ h => h) (Or.inl ⟨by rfl, fun w' hw' => ?_⟩) hHeld ?_
                  · first | (go_simp; done) | (obtain ⟨s0, s1, s2⟩ := hw'; go_simp; done)
                  try simp only [Act.put, List.setIfInBounds_toArray, List.set_cons_zero, List.set_cons_succ]
                  refine takeD (i := 14) (v := .pointer (some ⟨w1.heap.size, 1, none⟩)) (some 58) rfl rfl (by kernel_rfl) (by kernel_rfl) (by kernel_rfl) (fun _ _ _ h => h) (Or.inl ⟨by rfl, fun w' hw' => ?_⟩) hHeld ?_
                  · first | (go_simp; done) | (obtain ⟨s0, s1, s2⟩ := hw'; go_simp; done)
                  try simp only [Act.put, List.setIfInBounds_toArray, List.set_cons_zero, List.set_cons_succ]
                  refine takeD (i := 15) (v := .slice a1 (foldD p).rules.length k1) (some 59) rfl rfl (by kernel_rfl) (by kernel_rfl) (by kernel_rfl) (fun _ _ _ h => h) (Or.inl ⟨by rfl, fun w' hw' => ?_⟩) hHeld ?_
                  · first | (go_simp; done) | (obtain ⟨s0, s1, s2⟩ := hw'; go_simp; done)
                  try simp only [Act.put, List.setIfInBounds_toArray, List.set_cons_zero, List.set_cons_succ]
                  refine takeD (i := 16) (v := .int .i64 ((foldD p).rules.length : Int)) (some 60) rfl rfl (by kernel_rfl) (by kernel_rfl) (by kernel_rfl) (fun _ _ _ h => h) (Or.inl ⟨by rfl, fun w' hw' => ?_⟩) hHeld ?_
                  · first | (go_simp; done) | (obtain ⟨s0, s1, s2⟩ := hw'; go_simp; done)
                  try simp only [Act.put, List.setIfInBounds_toArray, List.set_cons_zero, List.set_cons_succ]
                  refine takeD (i := 17) (v := .int .i64 (((foldD p).rules.length : Int) - 1)) (some 61) rfl rfl (by kernel_rfl) (by kernel_rfl) (by kernel_rfl) (fun _ _ _ h => h) (Or.inl ⟨by rfl, fun w' hw' => ?_⟩) hHeld ?_
                  · first | (go_simp; done) | (obtain ⟨s0, s1, s2⟩ := hw'; go_simp; done)
                  try simp only [Act.put, List.setIfInBounds_toArray, List.set_cons_zero, List.set_cons_succ]
                  refine wpAnyH_ready (rs := [18]) (by kernel_rfl) (by simp) ?_
                  refine AllReadyH.cons rfl (fun K hK => ?_) AllReadyH.nil
                  go_simp
                  refine ((H3 _).out).mono ?_
                  rintro e w' ⟨rfl, rfl⟩
                  refine hK.out _ _ ⟨z0, z1, y1⟩ (fun hHeld => ?_)
                  clear hK K
                  try simp only [Act.put, List.setIfInBounds_toArray, List.set_cons_zero, List.set_cons_succ]
                  refine takeD (i := 19) (v := .bool true) (some 63) rfl rfl (by kernel_rfl) (by kernel_rfl) (by kernel_rfl) (fun _ _ _ h => h) (Or.inl ⟨by rfl, fun w' hw' => ?_⟩) hHeld ?_
                  · first | (go_simp; done) | (obtain ⟨s0, s1, s2⟩ := hw'; go_simp; done)
                  try simp only [Act.put, List.setIfInBounds_toArray, List.set_cons_zero, List.set_cons_succ]
                  refine takeD (i := 20) (v := .bool true) (some 64) rfl rfl (by kernel_rfl) (by kernel_rfl) (by kernel_rfl) (fun _ _ _ h => h) (Or.inl ⟨by rfl, fun w' hw' => ?_⟩) hHeld ?_
                  · first | (go_simp; done) | (obtain ⟨s0, s1, s2⟩ := hw'; go_simp; done)
                  try simp only [Act.put, List.setIfInBounds_toArray, List.set_cons_zero, List.set_cons_succ]
                  refine takeD (i := 21) (v := .bool true) (some 65) rfl rfl (by kernel_rfl) (by kernel_rfl) (by kernel_rfl) (fun _ _ _ h => h) (Or.inl ⟨by rfl, fun w' hw' => ?_⟩) hHeld ?_
                  · first | (go_simp; done) | (obtain ⟨s0, s1, s2⟩ := hw'; go_simp; done)
                  try simp only [Act.put, List.setIfInBounds_toArray, List.set_cons_zero, List.set_cons_succ]
                  refine takeD (i := 22) (v := undef) (some 66) rfl rfl (by kernel_rfl) (by kernel_rfl) (by kernel_rfl) (fun _ _ _ h => h) (Or.inr ⟨by rfl, rfl⟩) hHeld ?_
                  try simp only [Act.put, List.setIfInBounds_toArray, List.set_cons_zero, List.set_cons_succ]
                  refine takeD (i := 23) (v := undef) (some 67) rfl rfl (by kernel_rfl) (by kernel_rfl) (by kernel_rfl) (fun _ _ _ h => h) (Or.inr ⟨by rfl, rfl⟩) hHeld ?_
                  try simp only [Act.put, List.setIfInBounds_toArray, List.set_cons_zero, List.set_cons_succ]
                  refine takeD (i := 24) (v := undef) (some 68) rfl rfl (by kernel_rfl) (by kernel_rfl) (by kernel_rfl) (fun _ _ _ h => h) (Or.inr ⟨by rfl, rfl⟩) hHeld ?_
                  try simp only [Act.put, List.setIfInBounds_toArray, List.set_cons_zero, List.set_cons_succ]
                  refine takeD (i := 25) (v := undef) (some 69) rfl rfl (by kernel_rfl) (by kernel_rfl) (by kernel_rfl) (fun _ _ _ h => h) (Or.inr ⟨by rfl, rfl⟩) hHeld ?_
                  try simp only [Act.put, List.setIfInBounds_toArray, List.set_cons_zero, List.set_cons_succ]
                  refine takeD (i := 26) (v := undef) (some 70) rfl rfl (by kernel_rfl) (by kernel_rfl) (by kernel_rfl) (fun _ _ _ h => h) (Or.inr ⟨by rfl, rfl⟩) hHeld ?_
                  try simp only [Act.put, List.setIfInBounds_toArray, List.set_cons_zero, List.set_cons_succ]
                  refine takeD (i := 27) (v := undef) (some 71) rfl rfl (by kernel_rfl) (by kernel_rfl) (by kernel_rfl) (fun _ _ _ h => h) (Or.inr ⟨by rfl, rfl⟩) hHeld ?_
                  try simp only [Act.put, List.setIfInBounds_toArray, List.set_cons_zero, List.set_cons_succ]
                  refine takeD (i := 28) (v := undef) (some 72) rfl rfl (by kernel_rfl) (by kernel_rfl) (by kernel_rfl) (fun _ _ _ h => h) (Or.inr ⟨by rfl, rfl⟩) hHeld ?_
                  try simp only [Act.put, List.setIfInBounds_toArray, List.set_cons_zero, List.set_cons_succ]
                  refine takeD (i := 29) (v := undef) (some 73) rfl rfl (by kernel_rfl) (by kernel_rfl) (by kernel_rfl) (fun _ _ _ h => h) (Or.inr ⟨by rfl, rfl⟩) hHeld ?_
                  try simp only [Act.put, List.setIfInBounds_toArray, List.set_cons_zero, List.set_cons_succ]
                  refine takeD (i := 30) (v := undef) (some 74) rfl rfl (by kernel_rfl) (by kernel_rfl) (by kernel_rfl) (fun _ _ _ h => h) (Or.inr ⟨by rfl, rfl⟩) hHeld ?_
                  try simp only [Act.put, List.setIfInBounds_toArray, List.set_cons_zero, List.set_cons_succ]
                  refine takeD (i := 31) (v := undef) (some 75) rfl rfl (by kernel_rfl) (by kernel_rfl) (by kernel_rfl) (fun _ _ _ h => h) (Or.inr ⟨by rfl, rfl⟩) hHeld ?_
                  try simp only [Act.put, List.setIfInBounds_toArray, List.set_cons_zero, List.set_cons_succ]
                  refine takeD (i := 32) (v := undef) (some 76) rfl rfl (by kernel_rfl) (by kernel_rfl) (by kernel_rfl) (fun _ _ _ h => h) (Or.inr ⟨by rfl, rfl⟩) hHeld ?_
                  try simp only [Act.put, List.setIfInBounds_toArray, List.set_cons_zero, List.set_cons_succ]
                  refine takeD (i := 33) (v := .bool true) (some 77) rfl rfl (by kernel_rfl) (by kernel_rfl) (by kernel_rfl) (fun _ _ _ h => h) (Or.inl ⟨by rfl, fun w' hw' => ?_⟩) hHeld ?_
                  · first | (go_simp; done) | (obtain ⟨s0, s1, s2⟩ := hw'; go_simp; done)
                  try simp only [Act.put, List.setIfInBounds_toArray, List.set_cons_zero, List.set_cons_succ]
                  refine takeD (i := 34) (v := .bool true) (some 78) rfl rfl (by kernel_rfl) (by kernel_rfl) (by kernel_rfl) (fun _ _ _ h => h) (Or.inl ⟨by rfl, fun w' hw' => ?_⟩) hHeld ?_
                  · first | (go_simp; done) | (obtain ⟨s0, s1, s2⟩ := hw'; go_simp; done)
                  try simp only [Act.put, List.setIfInBounds_toArray, List.set_cons_zero, List.set_cons_succ]
                  refine takeD (i := 35) (v := undef) (some 79) rfl rfl (by kernel_rfl) (by kernel_rfl) (by kernel_rfl) (fun _ _ _ h => h) (Or.inr ⟨by rfl, rfl⟩) hHeld ?_
                  try simp only [Act.put, List.setIfInBounds_toArray, List.set_cons_zero, List.set_cons_succ]
                  refine takeD (i := 36) (v := undef) (some 80) rfl rfl (by kernel_rfl) (by kernel_rfl) (by kernel_rfl) (fun _ _ _ h => h) (Or.inr ⟨by rfl, rfl⟩) hHeld ?_
                  try simp only [Act.put, List.setIfInBounds_toArray, List.set_cons_zero, List.set_cons_succ]
                  refine takeD (i := 37) (v := undef) (some 81) rfl rfl (by kernel_rfl) (by kernel_rfl) (by kernel_rfl) (fun _ _ _ h => h) (Or.inr ⟨by rfl, rfl⟩) hHeld ?_
                  try simp only [Act.put, List.setIfInBounds_toArray, List.set_cons_zero, List.set_cons_succ]
                  refine takeD (i := 38) (v := undef) (some 82) rfl rfl (by kernel_rfl) (by kernel_rfl) (by kernel_rfl) (fun _ _ _ h => h) (Or.inr ⟨by rfl, rfl⟩) hHeld ?_
                  try simp only [Act.put, List.setIfInBounds_toArray, List.set_cons_zero, List.set_cons_succ]
                  refine takeD (i := 39) (v := undef) (some 83) rfl rfl (by kernel_rfl) (by kernel_rfl) (by kernel_rfl) (fun _ _ _ h => h) (Or.inr ⟨by rfl, rfl⟩) hHeld ?_
                  try simp only [Act.put, List.setIfInBounds_toArray, List.set_cons_zero, List.set_cons_succ]
                  refine takeD (i := 40) (v := undef) (some 84) rfl rfl (by kernel_rfl) (by kernel_rfl) (by kernel_rfl) (fun _ _ _ h => h) (Or.inr ⟨by rfl, rfl⟩) hHeld ?_
                  try simp only [Act.put, List.setIfInBounds_toArray, List.set_cons_zero, List.set_cons_succ]
                  refine takeD (i := 41) (v := undef) (some 85) rfl rfl (by kernel_rfl) (by kernel_rfl) (by kernel_rfl) (fun _ _ _ h => h) (Or.inr ⟨by rfl, rfl⟩) hHeld ?_
                  try simp only [Act.put, List.setIfInBounds_toArray, List.set_cons_zero, List.set_cons_succ]
                  refine takeD (i := 42) (v := undef) (some 86) rfl rfl (by kernel_rfl) (by kernel_rfl) (by kernel_rfl) (fun _ _ _ h => h) (Or.inr ⟨by rfl, rfl⟩) hHeld ?_
                  try simp only [Act.put, List.setIfInBounds_toArray, List.set_cons_zero, List.set_cons_succ]
                  refine takeD (i := 43) (v := undef) (some 87) rfl rfl (by kernel_rfl) (by kernel_rfl) (by kernel_rfl) (fun _ _ _ h => h) (Or.inr ⟨by rfl, rfl⟩) hHeld ?_
                  try simp only [Act.put, List.setIfInBounds_toArray, List.set_cons_zero, List.set_cons_succ]
                  refine takeD (i := 44) (v := undef) (some 88) rfl rfl (by kernel_rfl) (by kernel_rfl) (by kernel_rfl) (fun _ _ _ h => h) (Or.inr ⟨by rfl, rfl⟩) hHeld ?_
                  try simp only [Act.put, List.setIfInBounds_toArray, List.set_cons_zero, List.set_cons_succ]
                  refine takeD (i := 45) (v := .bool true) (some 89) rfl rfl (by kernel_rfl) (by kernel_rfl) (by kernel_rfl) (fun _ _ _ h => h) (Or.inl ⟨by rfl, fun w' hw' => ?_⟩) hHeld ?_
                  · first | (go_simp; done) | (obtain ⟨s0, s1, s2⟩ := hw'; go_simp; done)
                  try simp only [Act.put, List.setIfInBounds_toArray, List.set_cons_zero, List.set_cons_succ]
                  refine wpAnyH_done (by kernel_rfl) ?_ _
                  go_wp2
                  go_ret
                  exact ⟨ret_bool hv2.out.symm, (tw.step bA).drew⟩
                · have hI2 : 0 ≤ I ∧ I ≤ ((foldD p).rules.length : Int) - 1 := of_decide_eq_true hh3
                  obtain ⟨n, rfl⟩ : ∃ n : Nat, I = n := ⟨I.toNat, by omega⟩
                  have hn : n < (foldD p).rules.length := by omega
                  have HW4 := Lib.hid (alw_4 (ts := ts) (xs := xs) hh1 hh2 hh3)
                  have hok12 := hr12.out _ (nth_mem hn)
                  obtain ⟨br, ofr, rfl, hcr⟩ := (h1.later (HBZ.out.trans hb)).base (by omega)
                  obtain ⟨ecs, hCr, hRr⟩ := hcr n hn
                  have hCr := hCr.later bA
                  have hRr := Rd.mono bA hRr
                  have hRr0 := hRr
                  obtain ⟨d1, d4, rfl, hf', r1, r4⟩ := hRr0
                  obtain ⟨ah, kh, rfl, _, hh⟩ := r1.sl
                  obtain ⟨ab, kb, rfl, _, _⟩ := r4.sl
                  have u0 := hCr.c0
                  have u1 := hCr.c1
                  have u2 := hCr.c2
                  have u3 := hCr.c3
                  have u4 := hCr.c4
                  rw [show Rd.k RuleD = 5 from rfl] at u0 u1 u2 u3 u4
                  clear hCr hcr r1 r4
                  have hnI : (n : Int) < ((foldD p).rules.length : Int) := by omega
                  rw [hh1] at H1
                  rw [hh2] at H2
                  rw [hh3] at H3
                  have H4 := fun (W : World) (hw : Ints W ah (nth (foldD p).rules n).heads) => Lib.hid (SetHas_calls ah (nth (foldD p).rules n).heads kh A W hw)
                  cases hh4 : hasB (nth (foldD p).rules n).heads A
                  · have hv2 : Hid (reaB p xs l = false) := by show _ = _; rw [reaB_B hWW.out]; exact reaQ_no hlt (by rw [hAI, ← HT.out, HW4.out, hh4, Bool.false_and])
                    rw [hh4] at H4
                    go_wp2
                    generalize wr.alloc (.cells #[.int .i64 A, _] 103) = wA at *
                    refine wp_region_held_drew (S := (fun w' => w'.cell? ⟨wr.heap.size, 0, none⟩ = some (.int .i64 A) ∧ w'.cell? ⟨wr.heap.size, 1, none⟩ = some (.int .i64 (n : Int)) ∧ w'.cell? ⟨w1.heap.size, 1, none⟩ = some (.slice (some ⟨br, ofr, none⟩) (foldD p).rules.length k1) ∧ w'.cell? ⟨br, ofr + n * 5, none⟩ = some (.bool (nth (foldD p).rules n).choice) ∧ w'.cell? ⟨br, ofr + n * 5 + 1, none⟩ = some (.slice ah (nth (foldD p).rules n).heads.length kh) ∧ w'.cell? ⟨br, ofr + n * 5 + 2, none⟩ = some (.bool (nth (foldD p).rules n).weight) ∧ w'.cell? ⟨br, ofr + n * 5 + 3, none⟩ = some (.int .i64 (nth (foldD p).rules n).bound) ∧ w'.cell? ⟨br, ofr + n * 5 + 4, none⟩ = some (.slice ab (nth (foldD p).rules n).body.length kb))) (by kernel_rfl) ⟨z0, z1, y1, u0, u1, u2, u3, u4⟩ (fun hHeld => ?_)
                    refine takeD (i := 0) (v := .slice at1 ts.length kt1) (some 44) rfl rfl (by kernel_rfl) (by kernel_rfl) (by kernel_rfl) (fun _ _ _ h => h) (Or.inl ⟨by rfl, fun w' hw' => ?_⟩) hHeld ?_
                    · first | (go_simp; done) | (obtain ⟨s0, s1, s2, s3, s4, s5, s6, s7⟩ := hw'; go_simp; done)
                    try simp only [Act.put, List.setIfInBounds_toArray, List.set_cons_zero, List.set_cons_succ]
                    refine takeD (i := 1) (v := .pointer (some ⟨wr.heap.size, 0, none⟩)) (some 45) rfl rfl (by kernel_rfl) (by kernel_rfl) (by kernel_rfl) (fun _ _ _ h => h) (Or.inl ⟨by rfl, fun w' hw' => ?_⟩) hHeld ?_
                    · first | (go_simp; done) | (obtain ⟨s0, s1, s2, s3, s4, s5, s6, s7⟩ := hw'; go_simp; done)
                    try simp only [Act.put, List.setIfInBounds_toArray, List.set_cons_zero, List.set_cons_succ]
                    refine takeD (i := 2) (v := .int .i64 A) (some 46) rfl rfl (by kernel_rfl) (by kernel_rfl) (by kernel_rfl) (fun _ _ _ h => h) (Or.inl ⟨by rfl, fun w' hw' => ?_⟩) hHeld ?_
                    · first | (go_simp; done) | (obtain ⟨s0, s1, s2, s3, s4, s5, s6, s7⟩ := hw'; go_simp; done)
                    try simp only [Act.put, List.setIfInBounds_toArray, List.set_cons_zero, List.set_cons_succ]
                    refine wpAnyH_ready (rs := [3]) (by kernel_rfl) (by simp) ?_
                    refine AllReadyH.cons rfl (fun K hK => ?_) AllReadyH.nil
                    go_simp
                    refine ((H1 _ (hIt.later bA.drew)).out).mono ?_
                    rintro e w' ⟨rfl, rfl⟩
                    refine hK.out _ _ ⟨z0, z1, y1, u0, u1, u2, u3, u4⟩ (fun hHeld => ?_)
                    clear hK K
                    try simp only [Act.put, List.setIfInBounds_toArray, List.set_cons_zero, List.set_cons_succ]
                    refine takeD (i := 4) (v := .bool false) (some 48) rfl rfl (by kernel_rfl) (by kernel_rfl) (by kernel_rfl) (fun _ _ _ h => h) (Or.inl ⟨by rfl, fun w' hw' => ?_⟩) hHeld ?_
                    · first | (go_simp; done) | (obtain ⟨s0, s1, s2, s3, s4, s5, s6, s7⟩ := hw'; go_simp; done)
                    try simp only [Act.put, List.setIfInBounds_toArray, List.set_cons_zero, List.set_cons_succ]
                    refine takeD (i := 5) (v := .slice ax xs.length cx) (some 49) rfl rfl (by kernel_rfl) (by kernel_rfl) (by kernel_rfl) (fun _ _ _ h => h) (Or.inl ⟨by rfl, fun w' hw' => ?_⟩) hHeld ?_
                    · first | (go_simp; done) | (obtain ⟨s0, s1, s2, s3, s4, s5, s6, s7⟩ := hw'; go_simp; done)
                    try simp only [Act.put, List.setIfInBounds_toArray, List.set_cons_zero, List.set_cons_succ]
                    refine takeD (i := 6) (v := .pointer (some ⟨wr.heap.size, 0, none⟩)) (some 50) rfl rfl (by kernel_rfl) (by kernel_rfl) (by kernel_rfl) (fun _ _ _ h => h) (Or.inl ⟨by rfl, fun w' hw' => ?_⟩) hHeld ?_
                    · first | (go_simp; done) | (obtain ⟨s0, s1, s2, s3, s4, s5, s6, s7⟩ := hw'; go_simp; done)
                    try simp only [Act.put, List.setIfInBounds_toArray, List.set_cons_zero, List.set_cons_succ]
                    refine takeD (i := 7) (v := .int .i64 A) (some 51) rfl rfl (by kernel_rfl) (by kernel_rfl) (by kernel_rfl) (fun _ _ _ h => h) (Or.inl ⟨by rfl, fun w' hw' => ?_⟩) hHeld ?_
                    · first | (go_simp; done) | (obtain ⟨s0, s1, s2, s3, s4, s5, s6, s7⟩ := hw'; go_simp; done)
                    try simp only [Act.put, List.setIfInBounds_toArray, List.set_cons_zero, List.set_cons_succ]
                    refine wpAnyH_ready (rs := [8]) (by kernel_rfl) (by simp) ?_
                    refine AllReadyH.cons rfl (fun K hK => ?_) AllReadyH.nil
                    go_simp
                    refine ((H2 _ ((hx.later tw).later bA.drew).ints).out).mono ?_
                    rintro e w' ⟨rfl, rfl⟩
                    refine hK.out _ _ ⟨z0, z1, y1, u0, u1, u2, u3, u4⟩ (fun hHeld => ?_)
                    clear hK K
                    try simp only [Act.put, List.setIfInBounds_toArray, List.set_cons_zero, List.set_cons_succ]
                    refine takeD (i := 9) (v := .bool false) (some 53) rfl rfl (by kernel_rfl) (by kernel_rfl) (by kernel_rfl) (fun _ _ _ h => h) (Or.inl ⟨by rfl, fun w' hw' => ?_⟩) hHeld ?_
                    · first | (go_simp; done) | (obtain ⟨s0, s1, s2, s3, s4, s5, s6, s7⟩ := hw'; go_simp; done)
                    try simp only [Act.put, List.setIfInBounds_toArray, List.set_cons_zero, List.set_cons_succ]
                    refine takeD (i := 10) (v := .bool false) (some 54) rfl rfl (by kernel_rfl) (by kernel_rfl) (by kernel_rfl) (fun _ _ _ h => h) (Or.inl ⟨by rfl, fun w' hw' => ?_⟩) hHeld ?_
                    · first | (go_simp; done) | (obtain ⟨s0, s1, s2, s3, s4, s5, s6, s7⟩ := hw'; go_simp; done)
                    try simp only [Act.put, List.setIfInBounds_toArray, List.set_cons_zero, List.set_cons_succ]
                    refine takeD (i := 11) (v := .bool false) (some 55) rfl rfl (by kernel_rfl) (by kernel_rfl) (by kernel_rfl) (fun _ _ _ h => h) (Or.inl ⟨by rfl, fun w' hw' => ?_⟩) hHeld ?_
                    · first | (go_simp; done) | (obtain ⟨s0, s1, s2, s3, s4, s5, s6, s7⟩ := hw'; go_simp; done)
                    try simp only [Act.put, List.setIfInBounds_toArray, List.set_cons_zero, List.set_cons_succ]
                    refine takeD (i := 12) (v := .pointer (some ⟨wr.heap.size, 1, none⟩)) (some 56) rfl rfl (by kernel_rfl) (by kernel_rfl) (by kernel_rfl) (fun _ _ _ h => h) (Or.inl ⟨by rfl, fun w' hw' => ?_⟩) hHeld ?_
                    · first | (go_simp; done) | (obtain ⟨s0, s1, s2, s3, s4, s5, s6, s7⟩ := hw'; go_simp; done)
                    try simp only [Act.put, List.setIfInBounds_toArray, List.set_cons_zero, List.set_cons_succ]
                    refine takeD (i := 13) (v := .int .i64 (n : Int)) (some 57) rfl rfl (by kernel_rfl) (by kernel_rfl) (by kernel_rfl) (fun _ _ _ h => h) (Or.inl ⟨by rfl, fun w' hw' => ?_⟩) hHeld ?_
                    · first | (go_simp; done) | (obtain ⟨s0, s1, s2, s3, s4, s5, s6, s7⟩ := hw'; go_simp; done)
                    try simp only [Act.put, List.setIfInBounds_toArray, List.set_cons_zero, List.set_cons_succ]
                    refine takeD (i := 14) (v := .pointer (some ⟨w1.heap.size, 1, none⟩)) (some 58) rfl rfl (by kernel_rfl) (by kernel_rfl) (by kernel_rfl) (fun _ _ _ h => h) (Or.inl ⟨by rfl, fun w' hw' => ?_⟩) hHeld ?_
                    · first | (go_simp; done) | (obtain ⟨s0, s1, s2, s3, s4, s5, s6, s7⟩ := hw'; go_simp; done)
                    try simp only [Act.put, List.setIfInBounds_toArray, List.set_cons_zero, List.set_cons_succ]
                    refine takeD (i := 15) (v := .slice (some ⟨br, ofr, none⟩) (foldD p).rules.length k1) (some 59) rfl rfl (by kernel_rfl) (by kernel_rfl) (by kernel_rfl) (fun _ _ _ h => h) (Or.inl ⟨by rfl, fun w' hw' => ?_⟩) hHeld ?_
                    · first | (go_simp; done) | (obtain ⟨s0, s1, s2, s3, s4, s5, s6, s7⟩ := hw'; go_simp; done)
                    try simp only [Act.put, List.setIfInBounds_toArray, List.set_cons_zero, List.set_cons_succ]
                    refine takeD (i := 16) (v := .int .i64 ((foldD p).rules.length : Int)) (some 60) rfl rfl (by kernel_rfl) (by kernel_rfl) (by kernel_rfl) (fun _ _ _ h => h) (Or.inl ⟨by rfl, fun w' hw' => ?_⟩) hHeld ?_
                    · first | (go_simp; done) | (obtain ⟨s0, s1, s2, s3, s4, s5, s6, s7⟩ := hw'; go_simp; done)
                    try simp only [Act.put, List.setIfInBounds_toArray, List.set_cons_zero, List.set_cons_succ]
                    refine takeD (i := 17) (v := .int .i64 (((foldD p).rules.length : Int) - 1)) (some 61) rfl rfl (by kernel_rfl) (by kernel_rfl) (by kernel_rfl) (fun _ _ _ h => h) (Or.inl ⟨by rfl, fun w' hw' => ?_⟩) hHeld ?_
                    · first | (go_simp; done) | (obtain ⟨s0, s1, s2, s3, s4, s5, s6, s7⟩ := hw'; go_simp; done)
                    try simp only [Act.put, List.setIfInBounds_toArray, List.set_cons_zero, List.set_cons_succ]
                    refine wpAnyH_ready (rs := [18]) (by kernel_rfl) (by simp) ?_
                    refine AllReadyH.cons rfl (fun K hK => ?_) AllReadyH.nil
                    go_simp
                    refine ((H3 _).out).mono ?_
                    rintro e w' ⟨rfl, rfl⟩
                    refine hK.out _ _ ⟨z0, z1, y1, u0, u1, u2, u3, u4⟩ (fun hHeld => ?_)
                    clear hK K
                    try simp only [Act.put, List.setIfInBounds_toArray, List.set_cons_zero, List.set_cons_succ]
                    refine takeD (i := 19) (v := .bool false) (some 63) rfl rfl (by kernel_rfl) (by kernel_rfl) (by kernel_rfl) (fun _ _ _ h => h) (Or.inl ⟨by rfl, fun w' hw' => ?_⟩) hHeld ?_
                    · first | (go_simp; done) | (obtain ⟨s0, s1, s2, s3, s4, s5, s6, s7⟩ := hw'; go_simp; done)
                    try simp only [Act.put, List.setIfInBounds_toArray, List.set_cons_zero, List.set_cons_succ]
                    refine takeD (i := 20) (v := .bool false) (some 64) rfl rfl (by kernel_rfl) (by kernel_rfl) (by kernel_rfl) (fun _ _ _ h => h) (Or.inl ⟨by rfl, fun w' hw' => ?_⟩) hHeld ?_
                    · first | (go_simp; done) | (obtain ⟨s0, s1, s2, s3, s4, s5, s6, s7⟩ := hw'; go_simp; done)
                    try simp only [Act.put, List.setIfInBounds_toArray, List.set_cons_zero, List.set_cons_succ]
                    refine takeD (i := 21) (v := .bool false) (some 65) rfl rfl (by kernel_rfl) (by kernel_rfl) (by kernel_rfl) (fun _ _ _ h => h) (Or.inl ⟨by rfl, fun w' hw' => ?_⟩) hHeld ?_
                    · first | (go_simp; done) | (obtain ⟨s0, s1, s2, s3, s4, s5, s6, s7⟩ := hw'; go_simp; done)
                    try simp only [Act.put, List.setIfInBounds_toArray, List.set_cons_zero, List.set_cons_succ]
                    refine takeD (i := 22) (v := .pointer (some ⟨w1.heap.size, 1, none⟩)) (some 66) rfl rfl (by kernel_rfl) (by kernel_rfl) (by kernel_rfl) (fun _ _ _ h => h) (Or.inl ⟨by rfl, fun w' hw' => ?_⟩) hHeld ?_
                    · first | (go_simp; done) | (obtain ⟨s0, s1, s2, s3, s4, s5, s6, s7⟩ := hw'; go_simp; done)
                    try simp only [Act.put, List.setIfInBounds_toArray, List.set_cons_zero, List.set_cons_succ]
                    refine takeD (i := 23) (v := .slice (some ⟨br, ofr, none⟩) (foldD p).rules.length k1) (some 67) rfl rfl (by kernel_rfl) (by kernel_rfl) (by kernel_rfl) (fun _ _ _ h => h) (Or.inl ⟨by rfl, fun w' hw' => ?_⟩) hHeld ?_
                    · first | (go_simp; done) | (obtain ⟨s0, s1, s2, s3, s4, s5, s6, s7⟩ := hw'; go_simp; done)
                    try simp only [Act.put, List.setIfInBounds_toArray, List.set_cons_zero, List.set_cons_succ]
                    refine takeD (i := 24) (v := .pointer (some ⟨wr.heap.size, 1, none⟩)) (some 68) rfl rfl (by kernel_rfl) (by kernel_rfl) (by kernel_rfl) (fun _ _ _ h => h) (Or.inl ⟨by rfl, fun w' hw' => ?_⟩) hHeld ?_
                    · first | (go_simp; done) | (obtain ⟨s0, s1, s2, s3, s4, s5, s6, s7⟩ := hw'; go_simp; done)
                    try simp only [Act.put, List.setIfInBounds_toArray, List.set_cons_zero, List.set_cons_succ]
                    refine takeD (i := 25) (v := .int .i64 (n : Int)) (some 69) rfl rfl (by kernel_rfl) (by kernel_rfl) (by kernel_rfl) (fun _ _ _ h => h) (Or.inl ⟨by rfl, fun w' hw' => ?_⟩) hHeld ?_
                    · first | (go_simp; done) | (obtain ⟨s0, s1, s2, s3, s4, s5, s6, s7⟩ := hw'; go_simp; done)
                    try simp only [Act.put, List.setIfInBounds_toArray, List.set_cons_zero, List.set_cons_succ]
                    refine takeD (i := 26) (v := .pointer (some ⟨br, ofr + n * 5, none⟩)) (some 70) rfl rfl (by kernel_rfl) (by kernel_rfl) (by kernel_rfl) (fun _ _ _ h => h) (Or.inl ⟨by rfl, fun w' hw' => ?_⟩) hHeld ?_
                    · first | (go_simp; done) | (obtain ⟨s0, s1, s2, s3, s4, s5, s6, s7⟩ := hw'; go_simp; done)
                    try simp only [Act.put, List.setIfInBounds_toArray, List.set_cons_zero, List.set_cons_succ]
                    refine takeD (i := 27) (v := .pointer (some ⟨br, ofr + n * 5 + 1, none⟩)) (some 71) rfl rfl (by kernel_rfl) (by kernel_rfl) (by kernel_rfl) (fun _ _ _ h => h) (Or.inl ⟨by rfl, fun w' hw' => ?_⟩) hHeld ?_
                    · first | (go_simp; done) | (obtain ⟨s0, s1, s2, s3, s4, s5, s6, s7⟩ := hw'; go_simp; done)
                    try simp only [Act.put, List.setIfInBounds_toArray, List.set_cons_zero, List.set_cons_succ]
                    refine takeD (i := 28) (v := .slice ah (nth (foldD p).rules n).heads.length kh) (some 72) rfl rfl (by kernel_rfl) (by kernel_rfl) (by kernel_rfl) (fun _ _ _ h => h) (Or.inl ⟨by rfl, fun w' hw' => ?_⟩) hHeld ?_
                    · first | (go_simp; done) | (obtain ⟨s0, s1, s2, s3, s4, s5, s6, s7⟩ := hw'; go_simp; done)
                    try simp only [Act.put, List.setIfInBounds_toArray, List.set_cons_zero, List.set_cons_succ]
                    refine takeD (i := 29) (v := .pointer (some ⟨wr.heap.size, 0, none⟩)) (some 73) rfl rfl (by kernel_rfl) (by kernel_rfl) (by kernel_rfl) (fun _ _ _ h => h) (Or.inl ⟨by rfl, fun w' hw' => ?_⟩) hHeld ?_
                    · first | (go_simp; done) | (obtain ⟨s0, s1, s2, s3, s4, s5, s6, s7⟩ := hw'; go_simp; done)
                    try simp only [Act.put, List.setIfInBounds_toArray, List.set_cons_zero, List.set_cons_succ]
                    refine takeD (i := 30) (v := .int .i64 A) (some 74) rfl rfl (by kernel_rfl) (by kernel_rfl) (by kernel_rfl) (fun _ _ _ h => h) (Or.inl ⟨by rfl, fun w' hw' => ?_⟩) hHeld ?_
                    · first | (go_simp; done) | (obtain ⟨s0, s1, s2, s3, s4, s5, s6, s7⟩ := hw'; go_simp; done)
                    try simp only [Act.put, List.setIfInBounds_toArray, List.set_cons_zero, List.set_cons_succ]
                    refine wpAnyH_ready (rs := [31]) (by kernel_rfl) (by simp) ?_
                    refine AllReadyH.cons rfl (fun K hK => ?_) AllReadyH.nil
                    go_simp
                    refine ((H4 _ (hh.later (Below.refl _ _).drew).ints).out).mono ?_
                    rintro e w' ⟨rfl, rfl⟩
                    refine hK.out _ _ ⟨z0, z1, y1, u0, u1, u2, u3, u4⟩ (fun hHeld => ?_)
                    clear hK K
                    try simp only [Act.put, List.setIfInBounds_toArray, List.set_cons_zero, List.set_cons_succ]
                    refine takeD (i := 32) (v := .bool true) (some 76) rfl rfl (by kernel_rfl) (by kernel_rfl) (by kernel_rfl) (fun _ _ _ h => h) (Or.inl ⟨by rfl, fun w' hw' => ?_⟩) hHeld ?_
                    · first | (go_simp; done) | (obtain ⟨s0, s1, s2, s3, s4, s5, s6, s7⟩ := hw'; go_simp; done)
                    try simp only [Act.put, List.setIfInBounds_toArray, List.set_cons_zero, List.set_cons_succ]
                    refine takeD (i := 33) (v := .bool true) (some 77) rfl rfl (by kernel_rfl) (by kernel_rfl) (by kernel_rfl) (fun _ _ _ h => h) (Or.inl ⟨by rfl, fun w' hw' => ?_⟩) hHeld ?_
                    · first | (go_simp; done) | (obtain ⟨s0, s1, s2, s3, s4, s5, s6, s7⟩ := hw'; go_simp; done)
                    try simp only [Act.put, List.setIfInBounds_toArray, List.set_cons_zero, List.set_cons_succ]
                    refine takeD (i := 34) (v := .bool true) (some 78) rfl rfl (by kernel_rfl) (by kernel_rfl) (by kernel_rfl) (fun _ _ _ h => h) (Or.inl ⟨by rfl, fun w' hw' => ?_⟩) hHeld ?_
                    · first | (go_simp; done) | (obtain ⟨s0, s1, s2, s3, s4, s5, s6, s7⟩ := hw'; go_simp; done)
                    try simp only [Act.put, List.setIfInBounds_toArray, List.set_cons_zero, List.set_cons_succ]
                    refine takeD (i := 35) (v := undef) (some 79) rfl rfl (by kernel_rfl) (by kernel_rfl) (by kernel_rfl) (fun _ _ _ h => h) (Or.inr ⟨by rfl, rfl⟩) hHeld ?_
                    try simp only [Act.put, List.setIfInBounds_toArray, List.set_cons_zero, List.set_cons_succ]
                    refine takeD (i := 36) (v := undef) (some 80) rfl rfl (by kernel_rfl) (by kernel_rfl) (by kernel_rfl) (fun _ _ _ h => h) (Or.inr ⟨by rfl, rfl⟩) hHeld ?_
                    try simp only [Act.put, List.setIfInBounds_toArray, List.set_cons_zero, List.set_cons_succ]
                    refine takeD (i := 37) (v := undef) (some 81) rfl rfl (by kernel_rfl) (by kernel_rfl) (by kernel_rfl) (fun _ _ _ h => h) (Or.inr ⟨by rfl, rfl⟩) hHeld ?_
                    try simp only [Act.put, List.setIfInBounds_toArray, List.set_cons_zero, List.set_cons_succ]
                    refine takeD (i := 38) (v := undef) (some 82) rfl rfl (by kernel_rfl) (by kernel_rfl) (by kernel_rfl) (fun _ _ _ h => h) (Or.inr ⟨by rfl, rfl⟩) hHeld ?_
                    try simp only [Act.put, List.setIfInBounds_toArray, List.set_cons_zero, List.set_cons_succ]
                    refine takeD (i := 39) (v := undef) (some 83) rfl rfl (by kernel_rfl) (by kernel_rfl) (by kernel_rfl) (fun _ _ _ h => h) (Or.inr ⟨by rfl, rfl⟩) hHeld ?_
                    try simp only [Act.put, List.setIfInBounds_toArray, List.set_cons_zero, List.set_cons_succ]
                    refine takeD (i := 40) (v := undef) (some 84) rfl rfl (by kernel_rfl) (by kernel_rfl) (by kernel_rfl) (fun _ _ _ h => h) (Or.inr ⟨by rfl, rfl⟩) hHeld ?_
                    try simp only [Act.put, List.setIfInBounds_toArray, List.set_cons_zero, List.set_cons_succ]
                    refine takeD (i := 41) (v := undef) (some 85) rfl rfl (by kernel_rfl) (by kernel_rfl) (by kernel_rfl) (fun _ _ _ h => h) (Or.inr ⟨by rfl, rfl⟩) hHeld ?_
                    try simp only [Act.put, List.setIfInBounds_toArray, List.set_cons_zero, List.set_cons_succ]
                    refine takeD (i := 42) (v := undef) (some 86) rfl rfl (by kernel_rfl) (by kernel_rfl) (by kernel_rfl) (fun _ _ _ h => h) (Or.inr ⟨by rfl, rfl⟩) hHeld ?_
                    try simp only [Act.put, List.setIfInBounds_toArray, List.set_cons_zero, List.set_cons_succ]
                    refine takeD (i := 43) (v := undef) (some 87) rfl rfl (by kernel_rfl) (by kernel_rfl) (by kernel_rfl) (fun _ _ _ h => h) (Or.inr ⟨by rfl, rfl⟩) hHeld ?_
                    try simp only [Act.put, List.setIfInBounds_toArray, List.set_cons_zero, List.set_cons_succ]
                    refine takeD (i := 44) (v := undef) (some 88) rfl rfl (by kernel_rfl) (by kernel_rfl) (by kernel_rfl) (fun _ _ _ h => h) (Or.inr ⟨by rfl, rfl⟩) hHeld ?_
                    try simp only [Act.put, List.setIfInBounds_toArray, List.set_cons_zero, List.set_cons_succ]
                    refine takeD (i := 45) (v := .bool true) (some 89) rfl rfl (by kernel_rfl) (by kernel_rfl) (by kernel_rfl) (fun _ _ _ h => h) (Or.inl ⟨by rfl, fun w' hw' => ?_⟩) hHeld ?_
                    · first | (go_simp; done) | (obtain ⟨s0, s1, s2, s3, s4, s5, s6, s7⟩ := hw'; go_simp; done)
                    try simp only [Act.put, List.setIfInBounds_toArray, List.set_cons_zero, List.set_cons_succ]
                    refine wpAnyH_done (by kernel_rfl) ?_ _
                    go_wp2
                    go_ret
                    exact ⟨ret_bool hv2.out.symm, (tw.step bA).drew⟩
                  · rw [hh4] at H4
                    have gt1 := ht.own.rd
                    have H5 := fun (W : World) (hw : Below wr.heap.size wr W) (hw2 : Rd.R W [.bool (nth (foldD p).rules n).choice, .slice ah (nth (foldD p).rules n).heads.length kh, .bool (nth (foldD p).rules n).weight, .int .i64 (nth (foldD p).rules n).bound, .slice ab (nth (foldD p).rules n).body.length kb] (nth (foldD p).rules n)) => Lib.hid (l02Reaches_calls hw2 (Rd.mono (α := List Int) hw gt1) (Rd.mono (α := List Int) (tw.step hw) gx) hok12)
                    cases hh5 : reachB (nth (foldD p).rules n) (h2B ts xs)
                    · have hv2 : Hid (reaB p xs l = false) := by show _ = _; rw [reaB_B hWW.out]; exact reaQ_no hlt (by rw [hAI, ← HT.out, HW4.out, hh4, hh5]; rfl)
                      rw [hh5] at H5
                      go_wp2
                      generalize wr.alloc (.cells #[.int .i64 A, _] 103) = wA at *
                      refine wp_region_held_drew (S := (fun w' => w'.cell? ⟨wr.heap.size, 0, none⟩ = some (.int .i64 A) ∧ w'.cell? ⟨wr.heap.size, 1, none⟩ = some (.int .i64 (n : Int)) ∧ w'.cell? ⟨w1.heap.size, 1, none⟩ = some (.slice (some ⟨br, ofr, none⟩) (foldD p).rules.length k1) ∧ w'.cell? ⟨br, ofr + n * 5, none⟩ = some (.bool (nth (foldD p).rules n).choice) ∧ w'.cell? ⟨br, ofr + n * 5 + 1, none⟩ = some (.slice ah (nth (foldD p).rules n).heads.length kh) ∧ w'.cell? ⟨br, ofr + n * 5 + 2, none⟩ = some (.bool (nth (foldD p).rules n).weight) ∧ w'.cell? ⟨br, ofr + n * 5 + 3, none⟩ = some (.int .i64 (nth (foldD p).rules n).bound) ∧ w'.cell? ⟨br, ofr + n * 5 + 4, none⟩ = some (.slice ab (nth (foldD p).rules n).body.length kb))) (by kernel_rfl) ⟨z0, z1, y1, u0, u1, u2, u3, u4⟩ (fun hHeld => ?_)
                      refine takeD (i := 0) (v := .slice at1 ts.length kt1) (some 44) rfl rfl (by kernel_rfl) (by kernel_rfl) (by kernel_rfl) (fun _ _ _ h => h) (Or.inl ⟨by rfl, fun w' hw' => ?_⟩) hHeld ?_
                      · first | (go_simp; done) | (obtain ⟨s0, s1, s2, s3, s4, s5, s6, s7⟩ := hw'; go_simp; done)
                      try simp only [Act.put, List.setIfInBounds_toArray, List.set_cons_zero, List.set_cons_succ]
                      refine takeD (i := 1) (v := .pointer (some ⟨wr.heap.size, 0, none⟩)) (some 45) rfl rfl (by kernel_rfl) (by kernel_rfl) (by kernel_rfl) (fun _ _ _ h => h) (Or.inl ⟨by rfl, fun w' hw' => ?_⟩) hHeld ?_
                      · first | (go_simp; done) | (obtain ⟨s0, s1, s2, s3, s4, s5, s6, s7⟩ := hw'; go_simp; done)
                      try simp only [Act.put, List.setIfInBounds_toArray, List.set_cons_zero, List.set_cons_succ]
                      refine takeD (i := 2) (v := .int .i64 A) (some 46) rfl rfl (by kernel_rfl) (by kernel_rfl) (by kernel_rfl) (fun _ _ _ h => h) (Or.inl ⟨by rfl, fun w' hw' => ?_⟩) hHeld ?_
                      · first | (go_simp; done) | (obtain ⟨s0, s1, s2, s3, s4, s5, s6, s7⟩ := hw'; go_simp; done)
                      try simp only [Act.put, List.setIfInBounds_toArray, List.set_cons_zero, List.set_cons_succ]
                      refine wpAnyH_ready (rs := [3]) (by kernel_rfl) (by simp) ?_
                      refine AllReadyH.cons rfl (fun K hK => ?_) AllReadyH.nil
                      go_simp
                      refine ((H1 _ (hIt.later bA.drew)).out).mono ?_
                      rintro e w' ⟨rfl, rfl⟩
                      refine hK.out _ _ ⟨z0, z1, y1, u0, u1, u2, u3, u4⟩ (fun hHeld => ?_)
                      clear hK K
                      try simp only [Act.put, List.setIfInBounds_toArray, List.set_cons_zero, List.set_cons_succ]
                      refine takeD (i := 4) (v := .bool false) (some 48) rfl rfl (by kernel_rfl) (by kernel_rfl) (by kernel_rfl) (fun _ _ _ h => h) (Or.inl ⟨by rfl, fun w' hw' => ?_⟩) hHeld ?_
                      · first | (go_simp; done) | (obtain ⟨s0, s1, s2, s3, s4, s5, s6, s7⟩ := hw'; go_simp; done)
                      try simp only [Act.put, List.setIfInBounds_toArray, List.set_cons_zero, List.set_cons_succ]
                      refine takeD (i := 5) (v := .slice ax xs.length cx) (some 49) rfl rfl (by kernel_rfl) (by kernel_rfl) (by kernel_rfl) (fun _ _ _ h => h) (Or.inl ⟨by rfl, fun w' hw' => ?_⟩) hHeld ?_
                      · first | (go_simp; done) | (obtain ⟨s0, s1, s2, s3, s4, s5, s6, s7⟩ := hw'; go_simp; done)
                      try simp only [Act.put, List.setIfInBounds_toArray, List.set_cons_zero, List.set_cons_succ]
                      refine takeD (i := 6) (v := .pointer (some ⟨wr.heap.size, 0, none⟩)) (some 50) rfl rfl (by kernel_rfl) (by kernel_rfl) (by kernel_rfl) (fun _ _ _ h => h) (Or.inl ⟨by rfl, fun w' hw' => ?_⟩) hHeld ?_
                      · first | (go_simp; done) | (obtain ⟨s0, s1, s2, s3, s4, s5, s6, s7⟩ := hw'; go_simp; done)
                      try simp only [Act.put, List.setIfInBounds_toArray, List.set_cons_zero, List.set_cons_succ]
                      refine takeD (i := 7) (v := .int .i64 A) (some 51) rfl rfl (by kernel_rfl) (by kernel_rfl) (by kernel_rfl) (fun _ _ _ h => h) (Or.inl ⟨by rfl, fun w' hw' => ?_⟩) hHeld ?_
                      · first | (go_simp; done) | (obtain ⟨s0, s1, s2, s3, s4, s5, s6, s7⟩ := hw'; go_simp; done)
                      try simp only [Act.put, List.setIfInBounds_toArray, List.set_cons_zero, List.set_cons_succ]
                      refine wpAnyH_ready (rs := [8]) (by kernel_rfl) (by simp) ?_
                      refine AllReadyH.cons rfl (fun K hK => ?_) AllReadyH.nil
                      go_simp
                      refine ((H2 _ ((hx.later tw).later bA.drew).ints).out).mono ?_
                      rintro e w' ⟨rfl, rfl⟩
                      refine hK.out _ _ ⟨z0, z1, y1, u0, u1, u2, u3, u4⟩ (fun hHeld => ?_)
                      clear hK K
                      try simp only [Act.put, List.setIfInBounds_toArray, List.set_cons_zero, List.set_cons_succ]
                      refine takeD (i := 9) (v := .bool false) (some 53) rfl rfl (by kernel_rfl) (by kernel_rfl) (by kernel_rfl) (fun _ _ _ h => h) (Or.inl ⟨by rfl, fun w' hw' => ?_⟩) hHeld ?_
                      · first | (go_simp; done) | (obtain ⟨s0, s1, s2, s3, s4, s5, s6, s7⟩ := hw'; go_simp; done)
                      try simp only [Act.put, List.setIfInBounds_toArray, List.set_cons_zero, List.set_cons_succ]
                      refine takeD (i := 10) (v := .bool false) (some 54) rfl rfl (by kernel_rfl) (by kernel_rfl) (by kernel_rfl) (fun _ _ _ h => h) (Or.inl ⟨by rfl, fun w' hw' => ?_⟩) hHeld ?_
                      · first | (go_simp; done) | (obtain ⟨s0, s1, s2, s3, s4, s5, s6, s7⟩ := hw'; go_simp; done)
                      try simp only [Act.put, List.setIfInBounds_toArray, List.set_cons_zero, List.set_cons_succ]
                      refine takeD (i := 11) (v := .bool false) (some 55) rfl rfl (by kernel_rfl) (by kernel_rfl) (by kernel_rfl) (fun _ _ _ h => h) (Or.inl ⟨by rfl, fun w' hw' => ?_⟩) hHeld ?_
                      · first | (go_simp; done) | (obtain ⟨s0, s1, s2, s3, s4, s5, s6, s7⟩ := hw'; go_simp; done)
                      try simp only [Act.put, List.setIfInBounds_toArray, List.set_cons_zero, List.set_cons_succ]
                      refine takeD (i := 12) (v := .pointer (some ⟨wr.heap.size, 1, none⟩)) (some 56) rfl rfl (by kernel_rfl) (by kernel_rfl) (by kernel_rfl) (fun _ _ _ h => h) (Or.inl ⟨by rfl, fun w' hw' => ?_⟩) hHeld ?_
                      · first | (go_simp; done) | (obtain ⟨s0, s1, s2, s3, s4, s5, s6, s7⟩ := hw'; go_simp; done)
                      try simp only [Act.put, List.setIfInBounds_toArray, List.set_cons_zero, List.set_cons_succ]
                      refine takeD (i := 13) (v := .int .i64 (n : Int)) (some 57) rfl rfl (by kernel_rfl) (by kernel_rfl) (by kernel_rfl) (fun _ _ _ h => h) (Or.inl ⟨by rfl, fun w' hw' => ?_⟩) hHeld ?_
                      · first | (go_simp; done) | (obtain ⟨s0, s1, s2, s3, s4, s5, s6, s7⟩ := hw'; go_simp; done)
                      try simp only [Act.put, List.setIfInBounds_toArray, List.set_cons_zero, List.set_cons_succ]
                      refine takeD (i := 14) (v := .pointer (some ⟨w1.heap.size, 1, none⟩)) (some 58) rfl rfl (by kernel_rfl) (by kernel_rfl) (by kernel_rfl) (fun _ _ _ h => h) (Or.inl ⟨by rfl, fun w' hw' => ?_⟩) hHeld ?_
                      · first | (go_simp; done) | (obtain ⟨s0, s1, s2, s3, s4, s5, s6, s7⟩ := hw'; go_simp; done)
                      try simp only [Act.put, List.setIfInBounds_toArray, List.set_cons_zero, List.set_cons_succ]
                      refine takeD (i := 15) (v := .slice (some ⟨br, ofr, none⟩) (foldD p).rules.length k1) (some 59) rfl rfl (by kernel_rfl) (by kernel_rfl) (by kernel_rfl) (fun _ _ _ h => h) (Or.inl ⟨by rfl, fun w' hw' => ?_⟩) hHeld ?_
                      · first | (go_simp; done) | (obtain ⟨s0, s1, s2, s3, s4, s5, s6, s7⟩ := hw'; go_simp; done)
                      try simp only [Act.put, List.setIfInBounds_toArray, List.set_cons_zero, List.set_cons_succ]
                      refine takeD (i := 16) (v := .int .i64 ((foldD p).rules.length : Int)) (some 60) rfl rfl (by kernel_rfl) (by kernel_rfl) (by kernel_rfl) (fun _ _ _ h => h) (Or.inl ⟨by rfl, fun w' hw' => ?_⟩) hHeld ?_
                      · first | (go_simp; done) | (obtain ⟨s0, s1, s2, s3, s4, s5, s6, s7⟩ := hw'; go_simp; done)
                      try simp only [Act.put, List.setIfInBounds_toArray, List.set_cons_zero, List.set_cons_succ]
                      refine takeD (i := 17) (v := .int .i64 (((foldD p).rules.length : Int) - 1)) (some 61) rfl rfl (by kernel_rfl) (by kernel_rfl) (by kernel_rfl) (fun _ _ _ h => h) (Or.inl ⟨by rfl, fun w' hw' => ?_⟩) hHeld ?_
                      · first | (go_simp; done) | (obtain ⟨s0, s1, s2, s3, s4, s5, s6, s7⟩ := hw'; go_simp; done)
                      try simp only [Act.put, List.setIfInBounds_toArray, List.set_cons_zero, List.set_cons_succ]
                      refine wpAnyH_ready (rs := [18]) (by kernel_rfl) (by simp) ?_
                      refine AllReadyH.cons rfl (fun K hK => ?_) AllReadyH.nil
                      go_simp
                      refine ((H3 _).out).mono ?_
                      rintro e w' ⟨rfl, rfl⟩
                      refine hK.out _ _ ⟨z0, z1, y1, u0, u1, u2, u3, u4⟩ (fun hHeld => ?_)
                      clear hK K
                      try simp only [Act.put, List.setIfInBounds_toArray, List.set_cons_zero, List.set_cons_succ]
                      refine takeD (i := 19) (v := .bool false) (some 63) rfl rfl (by kernel_rfl) (by kernel_rfl) (by kernel_rfl) (fun _ _ _ h => h) (Or.inl ⟨by rfl, fun w' hw' => ?_⟩) hHeld ?_
                      · first | (go_simp; done) | (obtain ⟨s0, s1, s2, s3, s4, s5, s6, s7⟩ := hw'; go_simp; done)
                      try simp only [Act.put, List.setIfInBounds_toArray, List.set_cons_zero, List.set_cons_succ]
                      refine takeD (i := 20) (v := .bool false) (some 64) rfl rfl (by kernel_rfl) (by kernel_rfl) (by kernel_rfl) (fun _ _ _ h => h) (Or.inl ⟨by rfl, fun w' hw' => ?_⟩) hHeld ?_
                      · first | (go_simp; done) | (obtain ⟨s0, s1, s2, s3, s4, s5, s6, s7⟩ := hw'; go_simp; done)
                      try simp only [Act.put, List.setIfInBounds_toArray, List.set_cons_zero, List.set_cons_succ]
                      refine takeD (i := 21) (v := .bool false) (some 65) rfl rfl (by kernel_rfl) (by kernel_rfl) (by kernel_rfl) (fun _ _ _ h => h) (Or.inl ⟨by rfl, fun w' hw' => ?_⟩) hHeld ?_
                      · first | (go_simp; done) | (obtain ⟨s0, s1, s2, s3, s4, s5, s6, s7⟩ := hw'; go_simp; done)
                      try simp only [Act.put, List.setIfInBounds_toArray, List.set_cons_zero, List.set_cons_succ]
                      refine takeD (i := 22) (v := .pointer (some ⟨w1.heap.size, 1, none⟩)) (some 66) rfl rfl (by kernel_rfl) (by kernel_rfl) (by kernel_rfl) (fun _ _ _ h => h) (Or.inl ⟨by rfl, fun w' hw' => ?_⟩) hHeld ?_
                      · first | (go_simp; done) | (obtain ⟨s0, s1, s2, s3, s4, s5, s6, s7⟩ := hw'; go_simp; done)
                      try simp only [Act.put, List.setIfInBounds_toArray, List.set_cons_zero, List.set_cons_succ]
                      refine takeD (i := 23) (v := .slice (some ⟨br, ofr, none⟩) (foldD p).rules.length k1) (some 67) rfl rfl (by kernel_rfl) (by kernel_rfl) (by kernel_rfl) (fun _ _ _ h => h) (Or.inl ⟨by rfl, fun w' hw' => ?_⟩) hHeld ?_
                      · first | (go_simp; done) | (obtain ⟨s0, s1, s2, s3, s4, s5, s6, s7⟩ := hw'; go_simp; done)
                      try simp only [Act.put, List.setIfInBounds_toArray, List.set_cons_zero, List.set_cons_succ]
                      refine takeD (i := 24) (v := .pointer (some ⟨wr.heap.size, 1, none⟩)) (some 68) rfl rfl (by kernel_rfl) (by kernel_rfl) (by kernel_rfl) (fun _ _ _ h => h) (Or.inl ⟨by rfl, fun w' hw' => ?_⟩) hHeld ?_
                      · first | (go_simp; done) | (obtain ⟨s0, s1, s2, s3, s4, s5, s6, s7⟩ := hw'; go_simp; done)
                      try simp only [Act.put, List.setIfInBounds_toArray, List.set_cons_zero, List.set_cons_succ]
                      refine takeD (i := 25) (v := .int .i64 (n : Int)) (some 69) rfl rfl (by kernel_rfl) (by kernel_rfl) (by kernel_rfl) (fun _ _ _ h => h) (Or.inl ⟨by rfl, fun w' hw' => ?_⟩) hHeld ?_
                      · first | (go_simp; done) | (obtain ⟨s0, s1, s2, s3, s4, s5, s6, s7⟩ := hw'; go_simp; done)
                      try simp only [Act.put, List.setIfInBounds_toArray, List.set_cons_zero, List.set_cons_succ]
                      refine takeD (i := 26) (v := .pointer (some ⟨br, ofr + n * 5, none⟩)) (some 70) rfl rfl (by kernel_rfl) (by kernel_rfl) (by kernel_rfl) (fun _ _ _ h => h) (Or.inl ⟨by rfl, fun w' hw' => ?_⟩) hHeld ?_
                      · first | (go_simp; done) | (obtain ⟨s0, s1, s2, s3, s4, s5, s6, s7⟩ := hw'; go_simp; done)
                      try simp only [Act.put, List.setIfInBounds_toArray, List.set_cons_zero, List.set_cons_succ]
                      refine takeD (i := 27) (v := .pointer (some ⟨br, ofr + n * 5 + 1, none⟩)) (some 71) rfl rfl (by kernel_rfl) (by kernel_rfl) (by kernel_rfl) (fun _ _ _ h => h) (Or.inl ⟨by rfl, fun w' hw' => ?_⟩) hHeld ?_
                      · first | (go_simp; done) | (obtain ⟨s0, s1, s2, s3, s4, s5, s6, s7⟩ := hw'; go_simp; done)
                      try simp only [Act.put, List.setIfInBounds_toArray, List.set_cons_zero, List.set_cons_succ]
                      refine takeD (i := 28) (v := .slice ah (nth (foldD p).rules n).heads.length kh) (some 72) rfl rfl (by kernel_rfl) (by kernel_rfl) (by kernel_rfl) (fun _ _ _ h => h) (Or.inl ⟨by rfl, fun w' hw' => ?_⟩) hHeld ?_
                      · first | (go_simp; done) | (obtain ⟨s0, s1, s2, s3, s4, s5, s6, s7⟩ := hw'; go_simp; done)
                      try simp only [Act.put, List.setIfInBounds_toArray, List.set_cons_zero, List.set_cons_succ]
                      refine takeD (i := 29) (v := .pointer (some ⟨wr.heap.size, 0, none⟩)) (some 73) rfl rfl (by kernel_rfl) (by kernel_rfl) (by kernel_rfl) (fun _ _ _ h => h) (Or.inl ⟨by rfl, fun w' hw' => ?_⟩) hHeld ?_
                      · first | (go_simp; done) | (obtain ⟨s0, s1, s2, s3, s4, s5, s6, s7⟩ := hw'; go_simp; done)
                      try simp only [Act.put, List.setIfInBounds_toArray, List.set_cons_zero, List.set_cons_succ]
                      refine takeD (i := 30) (v := .int .i64 A) (some 74) rfl rfl (by kernel_rfl) (by kernel_rfl) (by kernel_rfl) (fun _ _ _ h => h) (Or.inl ⟨by rfl, fun w' hw' => ?_⟩) hHeld ?_
                      · first | (go_simp; done) | (obtain ⟨s0, s1, s2, s3, s4, s5, s6, s7⟩ := hw'; go_simp; done)
                      try simp only [Act.put, List.setIfInBounds_toArray, List.set_cons_zero, List.set_cons_succ]
                      refine wpAnyH_ready (rs := [31]) (by kernel_rfl) (by simp) ?_
                      refine AllReadyH.cons rfl (fun K hK => ?_) AllReadyH.nil
                      go_simp
                      refine ((H4 _ (hh.later (Below.refl _ _).drew).ints).out).mono ?_
                      rintro e w' ⟨rfl, rfl⟩
                      refine hK.out _ _ ⟨z0, z1, y1, u0, u1, u2, u3, u4⟩ (fun hHeld => ?_)
                      clear hK K
                      try simp only [Act.put, List.setIfInBounds_toArray, List.set_cons_zero, List.set_cons_succ]
                      refine takeD (i := 32) (v := .bool false) (some 76) rfl rfl (by kernel_rfl) (by kernel_rfl) (by kernel_rfl) (fun _ _ _ h => h) (Or.inl ⟨by rfl, fun w' hw' => ?_⟩) hHeld ?_
                      · first | (go_simp; done) | (obtain ⟨s0, s1, s2, s3, s4, s5, s6, s7⟩ := hw'; go_simp; done)
                      try simp only [Act.put, List.setIfInBounds_toArray, List.set_cons_zero, List.set_cons_succ]
                      refine takeD (i := 33) (v := .bool false) (some 77) rfl rfl (by kernel_rfl) (by kernel_rfl) (by kernel_rfl) (fun _ _ _ h => h) (Or.inl ⟨by rfl, fun w' hw' => ?_⟩) hHeld ?_
                      · first | (go_simp; done) | (obtain ⟨s0, s1, s2, s3, s4, s5, s6, s7⟩ := hw'; go_simp; done)
                      try simp only [Act.put, List.setIfInBounds_toArray, List.set_cons_zero, List.set_cons_succ]
                      refine takeD (i := 34) (v := .bool false) (some 78) rfl rfl (by kernel_rfl) (by kernel_rfl) (by kernel_rfl) (fun _ _ _ h => h) (Or.inl ⟨by rfl, fun w' hw' => ?_⟩) hHeld ?_
                      · first | (go_simp; done) | (obtain ⟨s0, s1, s2, s3, s4, s5, s6, s7⟩ := hw'; go_simp; done)
                      try simp only [Act.put, List.setIfInBounds_toArray, List.set_cons_zero, List.set_cons_succ]
                      refine takeD (i := 35) (v := .pointer (some ⟨w1.heap.size, 1, none⟩)) (some 79) rfl rfl (by kernel_rfl) (by kernel_rfl) (by kernel_rfl) (fun _ _ _ h => h) (Or.inl ⟨by rfl, fun w' hw' => ?_⟩) hHeld ?_
                      · first | (go_simp; done) | (obtain ⟨s0, s1, s2, s3, s4, s5, s6, s7⟩ := hw'; go_simp; done)
                      try simp only [Act.put, List.setIfInBounds_toArray, List.set_cons_zero, List.set_cons_succ]
                      refine takeD (i := 36) (v := .slice (some ⟨br, ofr, none⟩) (foldD p).rules.length k1) (some 80) rfl rfl (by kernel_rfl) (by kernel_rfl) (by kernel_rfl) (fun _ _ _ h => h) (Or.inl ⟨by rfl, fun w' hw' => ?_⟩) hHeld ?_
                      · first | (go_simp; done) | (obtain ⟨s0, s1, s2, s3, s4, s5, s6, s7⟩ := hw'; go_simp; done)
                      try simp only [Act.put, List.setIfInBounds_toArray, List.set_cons_zero, List.set_cons_succ]
                      refine takeD (i := 37) (v := .pointer (some ⟨wr.heap.size, 1, none⟩)) (some 81) rfl rfl (by kernel_rfl) (by kernel_rfl) (by kernel_rfl) (fun _ _ _ h => h) (Or.inl ⟨by rfl, fun w' hw' => ?_⟩) hHeld ?_
                      · first | (go_simp; done) | (obtain ⟨s0, s1, s2, s3, s4, s5, s6, s7⟩ := hw'; go_simp; done)
                      try simp only [Act.put, List.setIfInBounds_toArray, List.set_cons_zero, List.set_cons_succ]
                      refine takeD (i := 38) (v := .int .i64 (n : Int)) (some 82) rfl rfl (by kernel_rfl) (by kernel_rfl) (by kernel_rfl) (fun _ _ _ h => h) (Or.inl ⟨by rfl, fun w' hw' => ?_⟩) hHeld ?_
                      · first | (go_simp; done) | (obtain ⟨s0, s1, s2, s3, s4, s5, s6, s7⟩ := hw'; go_simp; done)
                      try simp only [Act.put, List.setIfInBounds_toArray, List.set_cons_zero, List.set_cons_succ]
                      refine takeD (i := 39) (v := .pointer (some ⟨br, ofr + n * 5, none⟩)) (some 83) rfl rfl (by kernel_rfl) (by kernel_rfl) (by kernel_rfl) (fun _ _ _ h => h) (Or.inl ⟨by rfl, fun w' hw' => ?_⟩) hHeld ?_
                      · first | (go_simp; done) | (obtain ⟨s0, s1, s2, s3, s4, s5, s6, s7⟩ := hw'; go_simp; done)
                      try simp only [Act.put, List.setIfInBounds_toArray, List.set_cons_zero, List.set_cons_succ]
                      refine takeD (i := 40) (v := .agg #[.bool (nth (foldD p).rules n).choice, .slice ah (nth (foldD p).rules n).heads.length kh, .bool (nth (foldD p).rules n).weight, .int .i64 (nth (foldD p).rules n).bound, .slice ab (nth (foldD p).rules n).body.length kb]) (some 84) rfl rfl (by kernel_rfl) (by kernel_rfl) (by kernel_rfl) (fun _ _ _ h => h) (Or.inl ⟨by rfl, fun w' hw' => ?_⟩) hHeld ?_
                      · first | (go_simp; done) | (obtain ⟨s0, s1, s2, s3, s4, s5, s6, s7⟩ := hw'; go_simp; done)
                      try simp only [Act.put, List.setIfInBounds_toArray, List.set_cons_zero, List.set_cons_succ]
                      refine takeD (i := 41) (v := .slice at1 ts.length kt1) (some 85) rfl rfl (by kernel_rfl) (by kernel_rfl) (by kernel_rfl) (fun _ _ _ h => h) (Or.inl ⟨by rfl, fun w' hw' => ?_⟩) hHeld ?_
                      · first | (go_simp; done) | (obtain ⟨s0, s1, s2, s3, s4, s5, s6, s7⟩ := hw'; go_simp; done)
                      try simp only [Act.put, List.setIfInBounds_toArray, List.set_cons_zero, List.set_cons_succ]
                      refine takeD (i := 42) (v := .slice ax xs.length cx) (some 86) rfl rfl (by kernel_rfl) (by kernel_rfl) (by kernel_rfl) (fun _ _ _ h => h) (Or.inl ⟨by rfl, fun w' hw' => ?_⟩) hHeld ?_
                      · first | (go_simp; done) | (obtain ⟨s0, s1, s2, s3, s4, s5, s6, s7⟩ := hw'; go_simp; done)
                      try simp only [Act.put, List.setIfInBounds_toArray, List.set_cons_zero, List.set_cons_succ]
                      refine wpAnyH_ready (rs := [43]) (by kernel_rfl) (by simp) ?_
                      refine AllReadyH.cons rfl (fun K hK => ?_) AllReadyH.nil
                      go_simp
                      refine (H5 _ bA.drew (Rd.mono (Below.refl _ _).drew hRr)).out.mono ?_
                      rintro e w5 ⟨rfl, b5⟩
                      refine hK.out _ _ ⟨cell_kept b5 z0, cell_kept b5 z1, cell_kept b5 y1, cell_kept b5 u0, cell_kept b5 u1, cell_kept b5 u2, cell_kept b5 u3, cell_kept b5 u4⟩ (fun hHeld => ?_)
                      clear hK K
                      try simp only [Act.put, List.setIfInBounds_toArray, List.set_cons_zero, List.set_cons_succ]
                      refine takeD (i := 44) (v := .bool true) (some 88) rfl rfl (by kernel_rfl) (by kernel_rfl) (by kernel_rfl) (fun _ _ _ h => h) (Or.inl ⟨by rfl, fun w' hw' => ?_⟩) hHeld ?_
                      · first | (go_simp; done) | (obtain ⟨s0, s1, s2, s3, s4, s5, s6, s7⟩ := hw'; go_simp; done)
                      try simp only [Act.put, List.setIfInBounds_toArray, List.set_cons_zero, List.set_cons_succ]
                      refine takeD (i := 45) (v := .bool true) (some 89) rfl rfl (by kernel_rfl) (by kernel_rfl) (by kernel_rfl) (fun _ _ _ h => h) (Or.inl ⟨by rfl, fun w' hw' => ?_⟩) hHeld ?_
                      · first | (go_simp; done) | (obtain ⟨s0, s1, s2, s3, s4, s5, s6, s7⟩ := hw'; go_simp; done)
                      try simp only [Act.put, List.setIfInBounds_toArray, List.set_cons_zero, List.set_cons_succ]
                      refine wpAnyH_done (by kernel_rfl) ?_ _
                      go_wp2
                      go_ret
                      exact ⟨ret_bool hv2.out.symm, (tw.step bA).drew.step b5⟩
                    · have hA' := Lib.hid (alwTo_step (rs := (foldD p).rules) (xs := xs) hA.out (by rw [hAI, ← HT.out, HW4.out, hh4, hh5]; rfl))
                      have hsn : Hid (fsts (l.take (k + 1)) = ts ++ [A]) := by show _ = _; rw [take_nth hlt, fsts_snoc, hAI, HT.out]
                      rw [hh5] at H5
                      have hAIH := Lib.hid hAI
                      clear hAI
                      go_wp2
                      generalize wr.alloc (.cells #[.int .i64 A, _] 103) = wA at *
                      refine wp_region_held_drew (S := (fun w' => w'.cell? ⟨wr.heap.size, 0, none⟩ = some (.int .i64 A) ∧ w'.cell? ⟨wr.heap.size, 1, none⟩ = some (.int .i64 (n : Int)) ∧ w'.cell? ⟨w1.heap.size, 1, none⟩ = some (.slice (some ⟨br, ofr, none⟩) (foldD p).rules.length k1) ∧ w'.cell? ⟨br, ofr + n * 5, none⟩ = some (.bool (nth (foldD p).rules n).choice) ∧ w'.cell? ⟨br, ofr + n * 5 + 1, none⟩ = some (.slice ah (nth (foldD p).rules n).heads.length kh) ∧ w'.cell? ⟨br, ofr + n * 5 + 2, none⟩ = some (.bool (nth (foldD p).rules n).weight) ∧ w'.cell? ⟨br, ofr + n * 5 + 3, none⟩ = some (.int .i64 (nth (foldD p).rules n).bound) ∧ w'.cell? ⟨br, ofr + n * 5 + 4, none⟩ = some (.slice ab (nth (foldD p).rules n).body.length kb))) (by kernel_rfl) ⟨z0, z1, y1, u0, u1, u2, u3, u4⟩ (fun hHeld => ?_)
                      refine takeD (i := 0) (v := .slice at1 ts.length kt1) (some 44) rfl rfl (by kernel_rfl) (by kernel_rfl) (by kernel_rfl) (fun _ _ _ h => h) (Or.inl ⟨by rfl, fun w' hw' => ?_⟩) hHeld ?_
                      · first | (go_simp; done) | (obtain ⟨s0, s1, s2, s3, s4, s5, s6, s7⟩ := hw'; go_simp; done)
                      try simp only [Act.put, List.setIfInBounds_toArray, List.set_cons_zero, List.set_cons_succ]
                      refine takeD (i := 1) (v := .pointer (some ⟨wr.heap.size, 0, none⟩)) (some 45) rfl rfl (by kernel_rfl) (by kernel_rfl) (by kernel_rfl) (fun _ _ _ h => h) (Or.inl ⟨by rfl, fun w' hw' => ?_⟩) hHeld ?_
                      · first | (go_simp; done) | (obtain ⟨s0, s1, s2, s3, s4, s5, s6, s7⟩ := hw'; go_simp; done)
                      try simp only [Act.put, List.setIfInBounds_toArray, List.set_cons_zero, List.set_cons_succ]
                      refine takeD (i := 2) (v := .int .i64 A) (some 46) rfl rfl (by kernel_rfl) (by kernel_rfl) (by kernel_rfl) (fun _ _ _ h => h) (Or.inl ⟨by rfl, fun w' hw' => ?_⟩) hHeld ?_
                      · first | (go_simp; done) | (obtain ⟨s0, s1, s2, s3, s4, s5, s6, s7⟩ := hw'; go_simp; done)
                      try simp only [Act.put, List.setIfInBounds_toArray, List.set_cons_zero, List.set_cons_succ]
                      refine wpAnyH_ready (rs := [3]) (by kernel_rfl) (by simp) ?_
                      refine AllReadyH.cons rfl (fun K hK => ?_) AllReadyH.nil
                      go_simp
                      refine ((H1 _ (hIt.later bA.drew)).out).mono ?_
                      rintro e w' ⟨rfl, rfl⟩
                      refine hK.out _ _ ⟨z0, z1, y1, u0, u1, u2, u3, u4⟩ (fun hHeld => ?_)
                      clear hK K
                      try simp only [Act.put, List.setIfInBounds_toArray, List.set_cons_zero, List.set_cons_succ]
                      refine takeD (i := 4) (v := .bool false) (some 48) rfl rfl (by kernel_rfl) (by kernel_rfl) (by kernel_rfl) (fun _ _ _ h => h) (Or.inl ⟨by rfl, fun w' hw' => ?_⟩) hHeld ?_
                      · first | (go_simp; done) | (obtain ⟨s0, s1, s2, s3, s4, s5, s6, s7⟩ := hw'; go_simp; done)
                      try simp only [Act.put, List.setIfInBounds_toArray, List.set_cons_zero, List.set_cons_succ]
                      refine takeD (i := 5) (v := .slice ax xs.length cx) (some 49) rfl rfl (by kernel_rfl) (by kernel_rfl) (by kernel_rfl) (fun _ _ _ h => h) (Or.inl ⟨by rfl, fun w' hw' => ?_⟩) hHeld ?_
                      · first | (go_simp; done) | (obtain ⟨s0, s1, s2, s3, s4, s5, s6, s7⟩ := hw'; go_simp; done)
                      try simp only [Act.put, List.setIfInBounds_toArray, List.set_cons_zero, List.set_cons_succ]
                      refine takeD (i := 6) (v := .pointer (some ⟨wr.heap.size, 0, none⟩)) (some 50) rfl rfl (by kernel_rfl) (by kernel_rfl) (by kernel_rfl) (fun _ _ _ h => h) (Or.inl ⟨by rfl, fun w' hw' => ?_⟩) hHeld ?_
                      · first | (go_simp; done) | (obtain ⟨s0, s1, s2, s3, s4, s5, s6, s7⟩ := hw'; go_simp; done)
                      try simp only [Act.put, List.setIfInBounds_toArray, List.set_cons_zero, List.set_cons_succ]
                      refine takeD (i := 7) (v := .int .i64 A) (some 51) rfl rfl (by kernel_rfl) (by kernel_rfl) (by kernel_rfl) (fun _ _ _ h => h) (Or.inl ⟨by rfl, fun w' hw' => ?_⟩) hHeld ?_
                      · first | (go_simp; done) | (obtain ⟨s0, s1, s2, s3, s4, s5, s6, s7⟩ := hw'; go_simp; done)
                      try simp only [Act.put, List.setIfInBounds_toArray, List.set_cons_zero, List.set_cons_succ]
                      refine wpAnyH_ready (rs := [8]) (by kernel_rfl) (by simp) ?_
                      refine AllReadyH.cons rfl (fun K hK => ?_) AllReadyH.nil
                      go_simp
                      refine ((H2 _ ((hx.later tw).later bA.drew).ints).out).mono ?_
                      rintro e w' ⟨rfl, rfl⟩
                      refine hK.out _ _ ⟨z0, z1, y1, u0, u1, u2, u3, u4⟩ (fun hHeld => ?_)
                      clear hK K
                      try simp only [Act.put, List.setIfInBounds_toArray, List.set_cons_zero, List.set_cons_succ]
                      refine takeD (i := 9) (v := .bool false) (some 53) rfl rfl (by kernel_rfl) (by kernel_rfl) (by kernel_rfl) (fun _ _ _ h => h) (Or.inl ⟨by rfl, fun w' hw' => ?_⟩) hHeld ?_
                      · first | (go_simp; done) | (obtain ⟨s0, s1, s2, s3, s4, s5, s6, s7⟩ := hw'; go_simp; done)
                      try simp only [Act.put, List.setIfInBounds_toArray, List.set_cons_zero, List.set_cons_succ]
                      refine takeD (i := 10) (v := .bool false) (some 54) rfl rfl (by kernel_rfl) (by kernel_rfl) (by kernel_rfl) (fun _ _ _ h => h) (Or.inl ⟨by rfl, fun w' hw' => ?_⟩) hHeld ?_
                      · first | (go_simp; done) | (obtain ⟨s0, s1, s2, s3, s4, s5, s6, s7⟩ := hw'; go_simp; done)
                      try simp only [Act.put, List.setIfInBounds_toArray, List.set_cons_zero, List.set_cons_succ]
                      refine takeD (i := 11) (v := .bool false) (some 55) rfl rfl (by kernel_rfl) (by kernel_rfl) (by kernel_rfl) (fun _ _ _ h => h) (Or.inl ⟨by rfl, fun w' hw' => ?_⟩) hHeld ?_
                      · first | (go_simp; done) | (obtain ⟨s0, s1, s2, s3, s4, s5, s6, s7⟩ := hw'; go_simp; done)
                      try simp only [Act.put, List.setIfInBounds_toArray, List.set_cons_zero, List.set_cons_succ]
                      refine takeD (i := 12) (v := .pointer (some ⟨wr.heap.size, 1, none⟩)) (some 56) rfl rfl (by kernel_rfl) (by kernel_rfl) (by kernel_rfl) (fun _ _ _ h => h) (Or.inl ⟨by rfl, fun w' hw' => ?_⟩) hHeld ?_
                      · first | (go_simp; done) | (obtain ⟨s0, s1, s2, s3, s4, s5, s6, s7⟩ := hw'; go_simp; done)
                      try simp only [Act.put, List.setIfInBounds_toArray, List.set_cons_zero, List.set_cons_succ]
                      refine takeD (i := 13) (v := .int .i64 (n : Int)) (some 57) rfl rfl (by kernel_rfl) (by kernel_rfl) (by kernel_rfl) (fun _ _ _ h => h) (Or.inl ⟨by rfl, fun w' hw' => ?_⟩) hHeld ?_
                      · first | (go_simp; done) | (obtain ⟨s0, s1, s2, s3, s4, s5, s6, s7⟩ := hw'; go_simp; done)
                      try simp only [Act.put, List.setIfInBounds_toArray, List.set_cons_zero, List.set_cons_succ]
                      refine takeD (i := 14) (v := .pointer (some ⟨w1.heap.size, 1, none⟩)) (some 58) rfl rfl (by kernel_rfl) (by kernel_rfl) (by kernel_rfl) (fun _ _ _ h => h) (Or.inl ⟨by rfl, fun w' hw' => ?_⟩) hHeld ?_
                      · first | (go_simp; done) | (obtain ⟨s0, s1, s2, s3, s4, s5, s6, s7⟩ := hw'; go_simp; done)
                      try simp only [Act.put, List.setIfInBounds_toArray, List.set_cons_zero, List.set_cons_succ]
                      refine takeD (i := 15) (v := .slice (some ⟨br, ofr, none⟩) (foldD p).rules.length k1) (some 59) rfl rfl (by kernel_rfl) (by kernel_rfl) (by kernel_rfl) (fun _ _ _ h => h) (Or.inl ⟨by rfl, fun w' hw' => ?_⟩) hHeld ?_
                      · first | (go_simp; done) | (obtain ⟨s0, s1, s2, s3, s4, s5, s6, s7⟩ := hw'; go_simp; done)
                      try simp only [Act.put, List.setIfInBounds_toArray, List.set_cons_zero, List.set_cons_succ]
                      refine takeD (i := 16) (v := .int .i64 ((foldD p).rules.length : Int)) (some 60) rfl rfl (by kernel_rfl) (by kernel_rfl) (by kernel_rfl) (fun _ _ _ h => h) (Or.inl ⟨by rfl, fun w' hw' => ?_⟩) hHeld ?_
                      · first | (go_simp; done) | (obtain ⟨s0, s1, s2, s3, s4, s5, s6, s7⟩ := hw'; go_simp; done)
                      try simp only [Act.put, List.setIfInBounds_toArray, List.set_cons_zero, List.set_cons_succ]
                      refine takeD (i := 17) (v := .int .i64 (((foldD p).rules.length : Int) - 1)) (some 61) rfl rfl (by kernel_rfl) (by kernel_rfl) (by kernel_rfl) (fun _ _ _ h => h) (Or.inl ⟨by rfl, fun w' hw' => ?_⟩) hHeld ?_
                      · first | (go_simp; done) | (obtain ⟨s0, s1, s2, s3, s4, s5, s6, s7⟩ := hw'; go_simp; done)
                      try simp only [Act.put, List.setIfInBounds_toArray, List.set_cons_zero, List.set_cons_succ]
                      refine wpAnyH_ready (rs := [18]) (by kernel_rfl) (by simp) ?_
                      refine AllReadyH.cons rfl (fun K hK => ?_) AllReadyH.nil
                      go_simp
                      refine ((H3 _).out).mono ?_
                      rintro e w' ⟨rfl, rfl⟩
                      refine hK.out _ _ ⟨z0, z1, y1, u0, u1, u2, u3, u4⟩ (fun hHeld => ?_)
                      clear hK K
                      try simp only [Act.put, List.setIfInBounds_toArray, List.set_cons_zero, List.set_cons_succ]
                      refine takeD (i := 19) (v := .bool false) (some 63) rfl rfl (by kernel_rfl) (by kernel_rfl) (by kernel_rfl) (fun _ _ _ h => h) (Or.inl ⟨by rfl, fun w' hw' => ?_⟩) hHeld ?_
                      · first | (go_simp; done) | (obtain ⟨s0, s1, s2, s3, s4, s5, s6, s7⟩ := hw'; go_simp; done)
                      try simp only [Act.put, List.setIfInBounds_toArray, List.set_cons_zero, List.set_cons_succ]
                      refine takeD (i := 20) (v := .bool false) (some 64) rfl rfl (by kernel_rfl) (by kernel_rfl) (by kernel_rfl) (fun _ _ _ h => h) (Or.inl ⟨by rfl, fun w' hw' => ?_⟩) hHeld ?_
                      · first | (go_simp; done) | (obtain ⟨s0, s1, s2, s3, s4, s5, s6, s7⟩ := hw'; go_simp; done)
                      try simp only [Act.put, List.setIfInBounds_toArray, List.set_cons_zero, List.set_cons_succ]
                      refine takeD (i := 21) (v := .bool false) (some 65) rfl rfl (by kernel_rfl) (by kernel_rfl) (by kernel_rfl) (fun _ _ _ h => h) (Or.inl ⟨by rfl, fun w' hw' => ?_⟩) hHeld ?_
                      · first | (go_simp; done) | (obtain ⟨s0, s1, s2, s3, s4, s5, s6, s7⟩ := hw'; go_simp; done)
                      try simp only [Act.put, List.setIfInBounds_toArray, List.set_cons_zero, List.set_cons_succ]
                      refine takeD (i := 22) (v := .pointer (some ⟨w1.heap.size, 1, none⟩)) (some 66) rfl rfl (by kernel_rfl) (by kernel_rfl) (by kernel_rfl) (fun _ _ _ h => h) (Or.inl ⟨by rfl, fun w' hw' => ?_⟩) hHeld ?_
                      · first | (go_simp; done) | (obtain ⟨s0, s1, s2, s3, s4, s5, s6, s7⟩ := hw'; go_simp; done)
                      try simp only [Act.put, List.setIfInBounds_toArray, List.set_cons_zero, List.set_cons_succ]
                      refine takeD (i := 23) (v := .slice (some ⟨br, ofr, none⟩) (foldD p).rules.length k1) (some 67) rfl rfl (by kernel_rfl) (by kernel_rfl) (by kernel_rfl) (fun _ _ _ h => h) (Or.inl ⟨by rfl, fun w' hw' => ?_⟩) hHeld ?_
                      · first | (go_simp; done) | (obtain ⟨s0, s1, s2, s3, s4, s5, s6, s7⟩ := hw'; go_simp; done)
                      try simp only [Act.put, List.setIfInBounds_toArray, List.set_cons_zero, List.set_cons_succ]
                      refine takeD (i := 24) (v := .pointer (some ⟨wr.heap.size, 1, none⟩)) (some 68) rfl rfl (by kernel_rfl) (by kernel_rfl) (by kernel_rfl) (fun _ _ _ h => h) (Or.inl ⟨by rfl, fun w' hw' => ?_⟩) hHeld ?_
                      · first | (go_simp; done) | (obtain ⟨s0, s1, s2, s3, s4, s5, s6, s7⟩ := hw'; go_simp; done)
                      try simp only [Act.put, List.setIfInBounds_toArray, List.set_cons_zero, List.set_cons_succ]
                      refine takeD (i := 25) (v := .int .i64 (n : Int)) (some 69) rfl rfl (by kernel_rfl) (by kernel_rfl) (by kernel_rfl) (fun _ _ _ h => h) (Or.inl ⟨by rfl, fun w' hw' => ?_⟩) hHeld ?_
                      · first | (go_simp; done) | (obtain ⟨s0, s1, s2, s3, s4, s5, s6, s7⟩ := hw'; go_simp; done)
                      try simp only [Act.put, List.setIfInBounds_toArray, List.set_cons_zero, List.set_cons_succ]
                      refine takeD (i := 26) (v := .pointer (some ⟨br, ofr + n * 5, none⟩)) (some 70) rfl rfl (by kernel_rfl) (by kernel_rfl) (by kernel_rfl) (fun _ _ _ h => h) (Or.inl ⟨by rfl, fun w' hw' => ?_⟩) hHeld ?_
                      · first | (go_simp; done) | (obtain ⟨s0, s1, s2, s3, s4, s5, s6, s7⟩ := hw'; go_simp; done)
                      try simp only [Act.put, List.setIfInBounds_toArray, List.set_cons_zero, List.set_cons_succ]
                      refine takeD (i := 27) (v := .pointer (some ⟨br, ofr + n * 5 + 1, none⟩)) (some 71) rfl rfl (by kernel_rfl) (by kernel_rfl) (by kernel_rfl) (fun _ _ _ h => h) (Or.inl ⟨by rfl, fun w' hw' => ?_⟩) hHeld ?_
                      · first | (go_simp; done) | (obtain ⟨s0, s1, s2, s3, s4, s5, s6, s7⟩ := hw'; go_simp; done)
                      try simp only [Act.put, List.setIfInBounds_toArray, List.set_cons_zero, List.set_cons_succ]
                      refine takeD (i := 28) (v := .slice ah (nth (foldD p).rules n).heads.length kh) (some 72) rfl rfl (by kernel_rfl) (by kernel_rfl) (by kernel_rfl) (fun _ _ _ h => h) (Or.inl ⟨by rfl, fun w' hw' => ?_⟩) hHeld ?_
                      · first | (go_simp; done) | (obtain ⟨s0, s1, s2, s3, s4, s5, s6, s7⟩ := hw'; go_simp; done)
                      try simp only [Act.put, List.setIfInBounds_toArray, List.set_cons_zero, List.set_cons_succ]
                      refine takeD (i := 29) (v := .pointer (some ⟨wr.heap.size, 0, none⟩)) (some 73) rfl rfl (by kernel_rfl) (by kernel_rfl) (by kernel_rfl) (fun _ _ _ h => h) (Or.inl ⟨by rfl, fun w' hw' => ?_⟩) hHeld ?_
                      · first | (go_simp; done) | (obtain ⟨s0, s1, s2, s3, s4, s5, s6, s7⟩ := hw'; go_simp; done)
                      try simp only [Act.put, List.setIfInBounds_toArray, List.set_cons_zero, List.set_cons_succ]
                      refine takeD (i := 30) (v := .int .i64 A) (some 74) rfl rfl (by kernel_rfl) (by kernel_rfl) (by kernel_rfl) (fun _ _ _ h => h) (Or.inl ⟨by rfl, fun w' hw' => ?_⟩) hHeld ?_
                      · first | (go_simp; done) | (obtain ⟨s0, s1, s2, s3, s4, s5, s6, s7⟩ := hw'; go_simp; done)
                      try simp only [Act.put, List.setIfInBounds_toArray, List.set_cons_zero, List.set_cons_succ]
                      refine wpAnyH_ready (rs := [31]) (by kernel_rfl) (by simp) ?_
                      refine AllReadyH.cons rfl (fun K hK => ?_) AllReadyH.nil
                      go_simp
                      refine ((H4 _ (hh.later (Below.refl _ _).drew).ints).out).mono ?_
                      rintro e w' ⟨rfl, rfl⟩
                      refine hK.out _ _ ⟨z0, z1, y1, u0, u1, u2, u3, u4⟩ (fun hHeld => ?_)
                      clear hK K
                      try simp only [Act.put, List.setIfInBounds_toArray, List.set_cons_zero, List.set_cons_succ]
                      refine takeD (i := 32) (v := .bool false) (some 76) rfl rfl (by kernel_rfl) (by kernel_rfl) (by kernel_rfl) (fun _ _ _ h => h) (Or.inl ⟨by rfl, fun w' hw' => ?_⟩) hHeld ?_
                      · first | (go_simp; done) | (obtain ⟨s0, s1, s2, s3, s4, s5, s6, s7⟩ := hw'; go_simp; done)
                      try simp only [Act.put, List.setIfInBounds_toArray, List.set_cons_zero, List.set_cons_succ]
                      refine takeD (i := 33) (v := .bool false) (some 77) rfl rfl (by kernel_rfl) (by kernel_rfl) (by kernel_rfl) (fun _ _ _ h => h) (Or.inl ⟨by rfl, fun w' hw' => ?_⟩) hHeld ?_
                      · first | (go_simp; done) | (obtain ⟨s0, s1, s2, s3, s4, s5, s6, s7⟩ := hw'; go_simp; done)
                      try simp only [Act.put, List.setIfInBounds_toArray, List.set_cons_zero, List.set_cons_succ]
                      refine takeD (i := 34) (v := .bool false) (some 78) rfl rfl (by kernel_rfl) (by kernel_rfl) (by kernel_rfl) (fun _ _ _ h => h) (Or.inl ⟨by rfl, fun w' hw' => ?_⟩) hHeld ?_
                      · first | (go_simp; done) | (obtain ⟨s0, s1, s2, s3, s4, s5, s6, s7⟩ := hw'; go_simp; done)
                      try simp only [Act.put, List.setIfInBounds_toArray, List.set_cons_zero, List.set_cons_succ]
                      refine takeD (i := 35) (v := .pointer (some ⟨w1.heap.size, 1, none⟩)) (some 79) rfl rfl (by kernel_rfl) (by kernel_rfl) (by kernel_rfl) (fun _ _ _ h => h) (Or.inl ⟨by rfl, fun w' hw' => ?_⟩) hHeld ?_
                      · first | (go_simp; done) | (obtain ⟨s0, s1, s2, s3, s4, s5, s6, s7⟩ := hw'; go_simp; done)
                      try simp only [Act.put, List.setIfInBounds_toArray, List.set_cons_zero, List.set_cons_succ]
                      refine takeD (i := 36) (v := .slice (some ⟨br, ofr, none⟩) (foldD p).rules.length k1) (some 80) rfl rfl (by kernel_rfl) (by kernel_rfl) (by kernel_rfl) (fun _ _ _ h => h) (Or.inl ⟨by rfl, fun w' hw' => ?_⟩) hHeld ?_
                      · first | (go_simp; done) | (obtain ⟨s0, s1, s2, s3, s4, s5, s6, s7⟩ := hw'; go_simp; done)
                      try simp only [Act.put, List.setIfInBounds_toArray, List.set_cons_zero, List.set_cons_succ]
                      refine takeD (i := 37) (v := .pointer (some ⟨wr.heap.size, 1, none⟩)) (some 81) rfl rfl (by kernel_rfl) (by kernel_rfl) (by kernel_rfl) (fun _ _ _ h => h) (Or.inl ⟨by rfl, fun w' hw' => ?_⟩) hHeld ?_
                      · first | (go_simp; done) | (obtain ⟨s0, s1, s2, s3, s4, s5, s6, s7⟩ := hw'; go_simp; done)
                      try simp only [Act.put, List.setIfInBounds_toArray, List.set_cons_zero, List.set_cons_succ]
                      refine takeD (i := 38) (v := .int .i64 (n : Int)) (some 82) rfl rfl (by kernel_rfl) (by kernel_rfl) (by kernel_rfl) (fun _ _ _ h => h) (Or.inl ⟨by rfl, fun w' hw' => ?_⟩) hHeld ?_
                      · first | (go_simp; done) | (obtain ⟨s0, s1, s2, s3, s4, s5, s6, s7⟩ := hw'; go_simp; done)
                      try simp only [Act.put, List.setIfInBounds_toArray, List.set_cons_zero, List.set_cons_succ]
                      refine takeD (i := 39) (v := .pointer (some ⟨br, ofr + n * 5, none⟩)) (some 83) rfl rfl (by kernel_rfl) (by kernel_rfl) (by kernel_rfl) (fun _ _ _ h => h) (Or.inl ⟨by rfl, fun w' hw' => ?_⟩) hHeld ?_
                      · first | (go_simp; done) | (obtain ⟨s0, s1, s2, s3, s4, s5, s6, s7⟩ := hw'; go_simp; done)
                      try simp only [Act.put, List.setIfInBounds_toArray, List.set_cons_zero, List.set_cons_succ]
                      refine takeD (i := 40) (v := .agg #[.bool (nth (foldD p).rules n).choice, .slice ah (nth (foldD p).rules n).heads.length kh, .bool (nth (foldD p).rules n).weight, .int .i64 (nth (foldD p).rules n).bound, .slice ab (nth (foldD p).rules n).body.length kb]) (some 84) rfl rfl (by kernel_rfl) (by kernel_rfl) (by kernel_rfl) (fun _ _ _ h => h) (Or.inl ⟨by rfl, fun w' hw' => ?_⟩) hHeld ?_
                      · first | (go_simp; done) | (obtain ⟨s0, s1, s2, s3, s4, s5, s6, s7⟩ := hw'; go_simp; done)
                      try simp only [Act.put, List.setIfInBounds_toArray, List.set_cons_zero, List.set_cons_succ]
                      refine takeD (i := 41) (v := .slice at1 ts.length kt1) (some 85) rfl rfl (by kernel_rfl) (by kernel_rfl) (by kernel_rfl) (fun _ _ _ h => h) (Or.inl ⟨by rfl, fun w' hw' => ?_⟩) hHeld ?_
                      · first | (go_simp; done) | (obtain ⟨s0, s1, s2, s3, s4, s5, s6, s7⟩ := hw'; go_simp; done)
                      try simp only [Act.put, List.setIfInBounds_toArray, List.set_cons_zero, List.set_cons_succ]
                      refine takeD (i := 42) (v := .slice ax xs.length cx) (some 86) rfl rfl (by kernel_rfl) (by kernel_rfl) (by kernel_rfl) (fun _ _ _ h => h) (Or.inl ⟨by rfl, fun w' hw' => ?_⟩) hHeld ?_
                      · first | (go_simp; done) | (obtain ⟨s0, s1, s2, s3, s4, s5, s6, s7⟩ := hw'; go_simp; done)
                      try simp only [Act.put, List.setIfInBounds_toArray, List.set_cons_zero, List.set_cons_succ]
                      refine wpAnyH_ready (rs := [43]) (by kernel_rfl) (by simp) ?_
                      refine AllReadyH.cons rfl (fun K hK => ?_) AllReadyH.nil
                      go_simp
                      refine (H5 _ bA.drew (Rd.mono (Below.refl _ _).drew hRr)).out.mono ?_
                      rintro e w5 ⟨rfl, b5⟩
                      refine hK.out _ _ ⟨cell_kept b5 z0, cell_kept b5 z1, cell_kept b5 y1, cell_kept b5 u0, cell_kept b5 u1, cell_kept b5 u2, cell_kept b5 u3, cell_kept b5 u4⟩ (fun hHeld => ?_)
                      clear hK K
                      try simp only [Act.put, List.setIfInBounds_toArray, List.set_cons_zero, List.set_cons_succ]
                      refine takeD (i := 44) (v := .bool false) (some 88) rfl rfl (by kernel_rfl) (by kernel_rfl) (by kernel_rfl) (fun _ _ _ h => h) (Or.inl ⟨by rfl, fun w' hw' => ?_⟩) hHeld ?_
                      · first | (go_simp; done) | (obtain ⟨s0, s1, s2, s3, s4, s5, s6, s7⟩ := hw'; go_simp; done)
                      try simp only [Act.put, List.setIfInBounds_toArray, List.set_cons_zero, List.set_cons_succ]
                      refine takeD (i := 45) (v := .bool false) (some 89) rfl rfl (by kernel_rfl) (by kernel_rfl) (by kernel_rfl) (fun _ _ _ h => h) (Or.inl ⟨by rfl, fun w' hw' => ?_⟩) hHeld ?_
                      · first | (go_simp; done) | (obtain ⟨s0, s1, s2, s3, s4, s5, s6, s7⟩ := hw'; go_simp; done)
                      try simp only [Act.put, List.setIfInBounds_toArray, List.set_cons_zero, List.set_cons_succ]
                      refine wpAnyH_done (by kernel_rfl) ?_ _
                      have b6 := bA.drew.step b5
                      have ht6 := ht.kept b6
                      have CR6 := CR.drew.later b5
                      clear z0 z1
                      obtain ⟨z0, z1⟩ := cells2 CR6
                      have hs6 := b6.size
                      go_wp2_with (at_builtin; refine wpList_append_int rfl _ _ rfl rfl ht6 rfl (by omega) fA (by omega) ?_; intro v9 w9 ht9 hb9 hg9)
                      go_roundw
                      case rel => exact ⟨k + 1, by omega, by go_num, by rw [hsn.out]; exact ht9, hA', (hb.trans (b6.mono (by omega))).trans hb9⟩
                      case measure => simp [intOf]; omega
            · have hv2 : Hid (reaB p xs l = false) := by show _ = _; rw [reaB_B hWW.out]; exact reaQ_no hlt (by rw [hAI, ← HT.out]; exact alw_1 hh1)
              rw [hh1] at H1
              go_wp2
              generalize wr.alloc (.cells #[.int .i64 A, _] 103) = wA at *
              refine wp_region_held_drew (S := (fun w' => w'.cell? ⟨wr.heap.size, 0, none⟩ = some (.int .i64 A) ∧ w'.cell? ⟨wr.heap.size, 1, none⟩ = some (.int .i64 I) ∧ w'.cell? ⟨w1.heap.size, 1, none⟩ = some (.slice a1 (foldD p).rules.length k1))) (by kernel_rfl) ⟨z0, z1, y1⟩ (fun hHeld => ?_)
              refine takeD (i := 0) (v := .slice at1 ts.length kt1) (some 44) rfl rfl (by kernel_rfl) (by kernel_rfl) (by kernel_rfl) (fun _ _ _ h => h) (Or.inl ⟨by rfl, fun w' hw' => ?_⟩) hHeld ?_
              · first | (go_simp; done) | (obtain ⟨s0, s1, s2⟩ := hw'; go_simp; done)
              try simp only [Act.put, List.setIfInBounds_toArray, List.set_cons_zero, List.set_cons_succ]
              refine takeD (i := 1) (v := .pointer (some ⟨wr.heap.size, 0, none⟩)) (some 45) rfl rfl (by kernel_rfl) (by kernel_rfl) (by kernel_rfl) (fun _ _ _ h => h) (Or.inl ⟨by rfl, fun w' hw' => ?_⟩) hHeld ?_
              · first | (go_simp; done) | (obtain ⟨s0, s1, s2⟩ := hw'; go_simp; done)
              try simp only [Act.put, List.setIfInBounds_toArray, List.set_cons_zero, List.set_cons_succ]
              refine takeD (i := 2) (v := .int .i64 A) (some 46) rfl rfl (by kernel_rfl) (by kernel_rfl) (by kernel_rfl) (fun _ _ _ h => h) (Or.inl ⟨by rfl, fun w' hw' => ?_⟩) hHeld ?_
              · first | (go_simp; done) | (obtain ⟨s0, s1, s2⟩ := hw'; go_simp; done)
              try simp only [Act.put, List.setIfInBounds_toArray, List.set_cons_zero, List.set_cons_succ]
              refine wpAnyH_ready (rs := [3]) (by kernel_rfl) (by simp) ?_
              refine AllReadyH.cons rfl (fun K hK => ?_) AllReadyH.nil
              go_simp
              refine ((H1 _ (hIt.later bA.drew)).out).mono ?_
              rintro e w' ⟨rfl, rfl⟩
              refine hK.out _ _ ⟨z0, z1, y1⟩ (fun hHeld => ?_)
              clear hK K
              try simp only [Act.put, List.setIfInBounds_toArray, List.set_cons_zero, List.set_cons_succ]
              refine takeD (i := 4) (v := .bool true) (some 48) rfl rfl (by kernel_rfl) (by kernel_rfl) (by kernel_rfl) (fun _ _ _ h => h) (Or.inl ⟨by rfl, fun w' hw' => ?_⟩) hHeld ?_
              · first | (go_simp; done) | (obtain ⟨s0, s1, s2⟩ := hw'; go_simp; done)
              try simp only [Act.put, List.setIfInBounds_toArray, List.set_cons_zero, List.set_cons_succ]
              refine takeD (i := 5) (v := undef) (some 49) rfl rfl (by kernel_rfl) (by kernel_rfl) (by kernel_rfl) (fun _ _ _ h => h) (Or.inr ⟨by rfl, rfl⟩) hHeld ?_
              try simp only [Act.put, List.setIfInBounds_toArray, List.set_cons_zero, List.set_cons_succ]
              refine takeD (i := 6) (v := undef) (some 50) rfl rfl (by kernel_rfl) (by kernel_rfl) (by kernel_rfl) (fun _ _ _ h => h) (Or.inr ⟨by rfl, rfl⟩) hHeld ?_
              try simp only [Act.put, List.setIfInBounds_toArray, List.set_cons_zero, List.set_cons_succ]
              refine takeD (i := 7) (v := undef) (some 51) rfl rfl (by kernel_rfl) (by kernel_rfl) (by kernel_rfl) (fun _ _ _ h => h) (Or.inr ⟨by rfl, rfl⟩) hHeld ?_
              try simp only [Act.put, List.setIfInBounds_toArray, List.set_cons_zero, List.set_cons_succ]
              refine takeD (i := 8) (v := undef) (some 52) rfl rfl (by kernel_rfl) (by kernel_rfl) (by kernel_rfl) (fun _ _ _ h => h) (Or.inr ⟨by rfl, rfl⟩) hHeld ?_
              try simp only [Act.put, List.setIfInBounds_toArray, List.set_cons_zero, List.set_cons_succ]
              refine takeD (i := 9) (v := undef) (some 53) rfl rfl (by kernel_rfl) (by kernel_rfl) (by kernel_rfl) (fun _ _ _ h => h) (Or.inr ⟨by rfl, rfl⟩) hHeld ?_
              try simp only [Act.put, List.setIfInBounds_toArray, List.set_cons_zero, List.set_cons_succ]
              refine takeD (i := 10) (v := .bool true) (some 54) rfl rfl (by kernel_rfl) (by kernel_rfl) (by kernel_rfl) (fun _ _ _ h => h) (Or.inl ⟨by rfl, fun w' hw' => ?_⟩) hHeld ?_
              · first | (go_simp; done) | (obtain ⟨s0, s1, s2⟩ := hw'; go_simp; done)
              try simp only [Act.put, List.setIfInBounds_toArray, List.set_cons_zero, List.set_cons_succ]
              refine takeD (i := 11) (v := .bool true) (some 55) rfl rfl (by kernel_rfl) (by kernel_rfl) (by kernel_rfl) (fun _ _ _ h => h) (Or.inl ⟨by rfl, fun w' hw' => ?_⟩) hHeld ?_
              · first | (go_simp; done) | (obtain ⟨s0, s1, s2⟩ := hw'; go_simp; done)
              try simp only [Act.put, List.setIfInBounds_toArray, List.set_cons_zero, List.set_cons_succ]
              refine takeD (i := 12) (v := undef) (some 56) rfl rfl (by kernel_rfl) (by kernel_rfl) (by kernel_rfl) (fun _ _ _ h => h) (Or.inr ⟨by rfl, rfl⟩) hHeld ?_
              try simp only [Act.put, List.setIfInBounds_toArray, List.set_cons_zero, List.set_cons_succ]
              refine takeD (i := 13) (v := undef) (some 57) rfl rfl (by kernel_rfl) (by kernel_rfl) (by kernel_rfl) (fun _ _ _ h => h) (Or.inr ⟨by rfl, rfl⟩) hHeld ?_
              try simp only [Act.put, List.setIfInBounds_toArray, List.set_cons_zero, List.set_cons_succ]
              refine takeD (i := 14) (v := undef) (some 58) rfl rfl (by kernel_rfl) (by kernel_rfl) (by kernel_rfl) (fun _ _ _ h => h) (Or.inr ⟨by rfl, rfl⟩) hHeld ?_
              try simp only [Act.put, List.setIfInBounds_toArray, List.set_cons_zero, List.set_cons_succ]
              refine takeD (i := 15) (v := undef) (some 59) rfl rfl (by kernel_rfl) (by kernel_rfl) (by kernel_rfl) (fun _ _ _ h => h) (Or.inr ⟨by rfl, rfl⟩) hHeld ?_
              try simp only [Act.put, List.setIfInBounds_toArray, List.set_cons_zero, List.set_cons_succ]
              refine takeD (i := 16) (v := undef) (some 60) rfl rfl (by kernel_rfl) (by kernel_rfl) (by kernel_rfl) (fun _ _ _ h => h) (Or.inr ⟨by rfl, rfl⟩) hHeld ?_
              try simp only [Act.put, List.setIfInBounds_toArray, List.set_cons_zero, List.set_cons_succ]
              refine takeD (i := 17) (v := undef) (some 61) rfl rfl (by kernel_rfl) (by kernel_rfl) (by kernel_rfl) (fun _ _ _ h => h) (Or.inr ⟨by rfl, rfl⟩) hHeld ?_
              try simp only [Act.put, List.setIfInBounds_toArray, List.set_cons_zero, List.set_cons_succ]
              refine takeD (i := 18) (v := undef) (some 62) rfl rfl (by kernel_rfl) (by kernel_rfl) (by kernel_rfl) (fun _ _ _ h => h) (Or.inr ⟨by rfl, rfl⟩) hHeld ?_
              try simp only [Act.put, List.setIfInBounds_toArray, List.set_cons_zero, List.set_cons_succ]
              refine takeD (i := 19) (v := undef) (some 63) rfl rfl (by kernel_rfl) (by kernel_rfl) (by kernel_rfl) (fun _ _ _ h => h) (Or.inr ⟨by rfl, rfl⟩) hHeld ?_
              try simp only [Act.put, List.setIfInBounds_toArray, List.set_cons_zero, List.set_cons_succ]
              refine takeD (i := 20) (v := .bool true) (some 64) rfl rfl (by kernel_rfl) (by kernel_rfl) (by kernel_rfl) (fun _ _ _ h => h) (Or.inl ⟨by rfl, fun w' hw' => ?_⟩) hHeld ?_
              · first | (go_simp; done) | (obtain ⟨s0, s1, s2⟩ := hw'; go_simp; done)
              try simp only [Act.put, List.setIfInBounds_toArray, List.set_cons_zero, List.set_cons_succ]
              refine takeD (i := 21) (v := .bool true) (some 65) rfl rfl (by kernel_rfl) (by kernel_rfl) (by kernel_rfl) (fun _ _ _ h => h) (Or.inl ⟨by rfl, fun w' hw' => ?_⟩) hHeld ?_
              · first | (go_simp; done) | (obtain ⟨s0, s1, s2⟩ := hw'; go_simp; done)
              try simp only [Act.put, List.setIfInBounds_toArray, List.set_cons_zero, List.set_cons_succ]
              refine takeD (i := 22) (v := undef) (some 66) rfl rfl (by kernel_rfl) (by kernel_rfl) (by kernel_rfl) (fun _ _ _ h => h) (Or.inr ⟨by rfl, rfl⟩) hHeld ?_
              try simp only [Act.put, List.setIfInBounds_toArray, List.set_cons_zero, List.set_cons_succ]
              refine takeD (i := 23) (v := undef) (some 67) rfl rfl (by kernel_rfl) (by kernel_rfl) (by kernel_rfl) (fun _ _ _ h => h) (Or.inr ⟨by rfl, rfl⟩) hHeld ?_
              try simp only [Act.put, List.setIfInBounds_toArray, List.set_cons_zero, List.set_cons_succ]
              refine takeD (i := 24) (v := undef) (some 68) rfl rfl (by kernel_rfl) (by kernel_rfl) (by kernel_rfl) (fun _ _ _ h => h) (Or.inr ⟨by rfl, rfl⟩) hHeld ?_
              try simp only [Act.put, List.setIfInBounds_toArray, List.set_cons_zero, List.set_cons_succ]
              refine takeD (i := 25) (v := undef) (some 69) rfl rfl (by kernel_rfl) (by kernel_rfl) (by kernel_rfl) (fun _ _ _ h => h) (Or.inr ⟨by rfl, rfl⟩) hHeld ?_
              try simp only [Act.put, List.setIfInBounds_toArray, List.set_cons_zero, List.set_cons_succ]
              refine takeD (i := 26) (v := undef) (some 70) rfl rfl (by kernel_rfl) (by kernel_rfl) (by kernel_rfl) (fun _ _ _ h => h) (Or.inr ⟨by rfl, rfl⟩) hHeld ?_
              try simp only [Act.put, List.setIfInBounds_toArray, List.set_cons_zero, List.set_cons_succ]
              refine takeD (i := 27) (v := undef) (some 71) rfl rfl (by kernel_rfl) (by kernel_rfl) (by kernel_rfl) (fun _ _ _ h => h) (Or.inr ⟨by rfl, rfl⟩) hHeld ?_
              try simp only [Act.put, List.setIfInBounds_toArray, List.set_cons_zero, List.set_cons_succ]
              refine takeD (i := 28) (v := undef) (some 72) rfl rfl (by kernel_rfl) (by kernel_rfl) (by kernel_rfl) (fun _ _ _ h => h) (Or.inr ⟨by rfl, rfl⟩) hHeld ?_
              try simp only [Act.put, List.setIfInBounds_toArray, List.set_cons_zero, List.set_cons_succ]
              refine takeD (i := 29) (v := undef) (some 73) rfl rfl (by kernel_rfl) (by kernel_rfl) (by kernel_rfl) (fun _ _ _ h => h) (Or.inr ⟨by rfl, rfl⟩) hHeld ?_
              try simp only [Act.put, List.setIfInBounds_toArray, List.set_cons_zero, List.set_cons_succ]
              refine takeD (i := 30) (v := undef) (some 74) rfl rfl (by kernel_rfl) (by kernel_rfl) (by kernel_rfl) (fun _ _ _ h => h) (Or.inr ⟨by rfl, rfl⟩) hHeld ?_
              try simp only [Act.put, List.setIfInBounds_toArray, List.set_cons_zero, List.set_cons_succ]
              refine takeD (i := 31) (v := undef) (some 75) rfl rfl (by kernel_rfl) (by kernel_rfl) (by kernel_rfl) (fun _ _ _ h => h) (Or.inr ⟨by rfl, rfl⟩) hHeld ?_
              try simp only [Act.put, List.setIfInBounds_toArray, List.set_cons_zero, List.set_cons_succ]
              refine takeD (i := 32) (v := undef) (some 76) rfl rfl (by kernel_rfl) (by kernel_rfl) (by kernel_rfl) (fun _ _ _ h => h) (Or.inr ⟨by rfl, rfl⟩) hHeld ?_
              try simp only [Act.put, List.setIfInBounds_toArray, List.set_cons_zero, List.set_cons_succ]
              refine takeD (i := 33) (v := .bool true) (some 77) rfl rfl (by kernel_rfl) (by kernel_rfl) (by kernel_rfl) (fun _ _ _ h => h) (Or.inl ⟨by rfl, fun w' hw' => ?_⟩) hHeld ?_
              · first | (go_simp; done) | (obtain ⟨s0, s1, s2⟩ := hw'; go_simp; done)
              try simp only [Act.put, List.setIfInBounds_toArray, List.set_cons_zero, List.set_cons_succ]
              refine takeD (i := 34) (v := .bool true) (some 78) rfl rfl (by kernel_rfl) (by kernel_rfl) (by kernel_rfl) (fun _ _ _ h => h) (Or.inl ⟨by rfl, fun w' hw' => ?_⟩) hHeld ?_
              · first | (go_simp; done) | (obtain ⟨s0, s1, s2⟩ := hw'; go_simp; done)
              try simp only [Act.put, List.setIfInBounds_toArray, List.set_cons_zero, List.set_cons_succ]
              refine takeD (i := 35) (v := undef) (some 79) rfl rfl (by kernel_rfl) (by kernel_rfl) (by kernel_rfl) (fun _ _ _ h => h) (Or.inr ⟨by rfl, rfl⟩) hHeld ?_
              try simp only [Act.put, List.setIfInBounds_toArray, List.set_cons_zero, List.set_cons_succ]
              refine takeD (i := 36) (v := undef) (some 80) rfl rfl (by kernel_rfl) (by kernel_rfl) (by kernel_rfl) (fun _ _ _ h => h) (Or.inr ⟨by rfl, rfl⟩) hHeld ?_
              try simp only [Act.put, List.setIfInBounds_toArray, List.set_cons_zero, List.set_cons_succ]
              refine takeD (i := 37) (v := undef) (some 81) rfl rfl (by kernel_rfl) (by kernel_rfl) (by kernel_rfl) (fun _ _ _ h => h) (Or.inr ⟨by rfl, rfl⟩) hHeld ?_
              try simp only [Act.put, List.setIfInBounds_toArray, List.set_cons_zero, List.set_cons_succ]
              refine takeD (i := 38) (v := undef) (some 82) rfl rfl (by kernel_rfl) (by kernel_rfl) (by kernel_rfl) (fun _ _ _ h => h) (Or.inr ⟨by rfl, rfl⟩) hHeld ?_
              try simp only [Act.put, List.setIfInBounds_toArray, List.set_cons_zero, List.set_cons_succ]
              refine takeD (i := 39) (v := undef) (some 83) rfl rfl (by kernel_rfl) (by kernel_rfl) (by kernel_rfl) (fun _ _ _ h => h) (Or.inr ⟨by rfl, rfl⟩) hHeld ?_
              try simp only [Act.put, List.setIfInBounds_toArray, List.set_cons_zero, List.set_cons_succ]
              refine takeD (i := 40) (v := undef) (some 84) rfl rfl (by kernel_rfl) (by kernel_rfl) (by kernel_rfl) (fun _ _ _ h => h) (Or.inr ⟨by rfl, rfl⟩) hHeld ?_
              try simp only [Act.put, List.setIfInBounds_toArray, List.set_cons_zero, List.set_cons_succ]
              refine takeD (i := 41) (v := undef) (some 85) rfl rfl (by kernel_rfl) (by kernel_rfl) (by kernel_rfl) (fun _ _ _ h => h) (Or.inr ⟨by rfl, rfl⟩) hHeld ?_
              try simp only [Act.put, List.setIfInBounds_toArray, List.set_cons_zero, List.set_cons_succ]
              refine takeD (i := 42) (v := undef) (some 86) rfl rfl (by kernel_rfl) (by kernel_rfl) (by kernel_rfl) (fun _ _ _ h => h) (Or.inr ⟨by rfl, rfl⟩) hHeld ?_
              try simp only [Act.put, List.setIfInBounds_toArray, List.set_cons_zero, List.set_cons_succ]
              refine takeD (i := 43) (v := undef) (some 87) rfl rfl (by kernel_rfl) (by kernel_rfl) (by kernel_rfl) (fun _ _ _ h => h) (Or.inr ⟨by rfl, rfl⟩) hHeld ?_
              try simp only [Act.put, List.setIfInBounds_toArray, List.set_cons_zero, List.set_cons_succ]
              refine takeD (i := 44) (v := undef) (some 88) rfl rfl (by kernel_rfl) (by kernel_rfl) (by kernel_rfl) (fun _ _ _ h => h) (Or.inr ⟨by rfl, rfl⟩) hHeld ?_
              try simp only [Act.put, List.setIfInBounds_toArray, List.set_cons_zero, List.set_cons_succ]
              refine takeD (i := 45) (v := .bool true) (some 89) rfl rfl (by kernel_rfl) (by kernel_rfl) (by kernel_rfl) (fun _ _ _ h => h) (Or.inl ⟨by rfl, fun w' hw' => ?_⟩) hHeld ?_
              · first | (go_simp; done) | (obtain ⟨s0, s1, s2⟩ := hw'; go_simp; done)
              try simp only [Act.put, List.setIfInBounds_toArray, List.set_cons_zero, List.set_cons_succ]
              refine wpAnyH_done (by kernel_rfl) ?_ _
              go_wp2
              go_ret
              exact ⟨ret_bool hv2.out.symm, (tw.step bA).drew⟩
          · have hE : Hid (reaB p xs l = true) := by
              show _ = _
              rw [hv.out]
              have : k = l.length := by omega
              rw [← this]; exact hA.out
            go_wp2
            go_ret
            exact ⟨ret_bool hE.out.symm, tw⟩
      · have hv : Hid (reaB p xs l = false) := by
          show _ = _
          rw [reaB_B hW]; unfold reaQ; rw [decide_eq_false hle, Bool.false_and]
        have hbn : ((l.length : Int) != (xs.length : Int)) = true := bne_iff_ne.2 (by omega)
        go_enter Tryz.func33, Tryz.ntmps33
        go_wp2_with fail
        refine (specFold_calls (Rd.mono t0 h)).mono ?_
        rintro e w1 ⟨cs1, he, o1, b1⟩
        rw [hF] at he
        rw [foldR_yes hF] at o1
        subst he
        have t1 := t0.step b1
        have l1 := Rd.one o1.rd
        obtain ⟨x0, x1, x2, x3, x4, x5, x6, x7, rfl⟩ := list8 (Rd.len o1.rd)
        have st0 := sto Tryz.prog (l1 x0 (by simp))
        have st1 := sto Tryz.prog (l1 x1 (by simp))
        have st2 := sto Tryz.prog (l1 x2 (by simp))
        have st3 := sto Tryz.prog (l1 x3 (by simp))
        have st4 := sto Tryz.prog (l1 x4 (by simp))
        have st5 := sto Tryz.prog (l1 x5 (by simp))
        have st6 := sto Tryz.prog (l1 x6 (by simp))
        have st7 := sto Tryz.prog (l1 x7 (by simp))
        have o1 := o1.alloc (.cells #[x0, x1, x2, x3, x4, x5, x6, x7] 36)
        have CX1 := Cells.new w1 [x0, x1, x2, x3, x4, x5, x6, x7] 36
        have t1 := t1.alloc t1.size (.cells #[x0, x1, x2, x3, x4, x5, x6, x7] 36)
        clear l1
        have oR := o1.rd
        obtain ⟨_, _, _, _, _, _, hl, _, g1, _⟩ := oR
        simp only [List.cons.injEq, and_true] at hl
        obtain ⟨rfl, rfl, -⟩ := hl
        obtain ⟨a1, k1, rfl, _, h1⟩ := g1.sl
        obtain ⟨y0, y1, y2, y3, y4, y5, y6, y7⟩ := cells8 CX1
        have hx1 := (hx.later t1).ints
        go_wp2_with fail
        refine (specSetOk_calls _ _ _ _ _ hx1).mono ?_
        rintro e w2 ⟨he, b2⟩
        rw [hS] at he
        subst he
        have t2 := t1.step b2
        go_wp2
        go_ret
        exact ⟨ret_bool hv.out.symm, t2⟩

end Go.Proofs.YtleimijgpmoifaaGreat
