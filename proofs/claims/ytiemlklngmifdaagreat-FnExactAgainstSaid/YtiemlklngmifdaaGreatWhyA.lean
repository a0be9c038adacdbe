/-
  Against: what the program answers. No condition of its own.
-/
import Derived.Test.YtiemlklngmifdaaGreatWhyV
namespace Go.Proofs.YtiemlklngmifdaaGreat
set_option linter.unusedVariables false
set_option linter.unusedSimpArgs false
open Go.RowKit Go.Shelf
set_option maxRecDepth 100000

set_option maxHeartbeats 2000000 in
theorem unfP_calls {cs : List Value} {q : ProgD} {w : World} (xs : List Int) (h : Rd.R w cs q) (hok : progOkB q = true) :
    Calls Tryz.prog 153 #[.agg cs.toArray, .int .u16 (maskOf xs : Int)] w fun e w' => ∃ m : Nat, e = .returned (.int .u16 (m : Int)) ∧ (m < 4096 ∧ mset m = unfQ q xs) ∧ Below w.heap.size w w' := by
  have hmx := maskOf_lt xs
  have hr12 := Lib.hid (rules12 hok)
  obtain ⟨ha0, ha1⟩ := progOk_atoms hok
  obtain ⟨n, hn⟩ := Int.eq_ofNat_of_zero_le ha0
  have hn12 : n ≤ 12 := by omega
  have hnq : Hid (q.atoms.toNat = n) := by show _ = _; omega
  have hpn : 2 ^ n - 1 < 4096 := by have := (upTo_pow hn12).2.2; omega
  have hmm : maskOf xs &&& (2 ^ n - 1) < 4096 := Nat.lt_of_le_of_lt Nat.and_le_left hmx
  have HAT := fun w => Lib.hid (atomsUpTo_calls n w hn12)
  have HUM := fun (m : Nat) (L : List Int) (hm : m < 4096) (hl : mset m = L) => Lib.hid (unf_mask (xs := xs) hn12 hm hl)
  obtain ⟨U, hU⟩ : ∃ U : Nat, U = 2 ^ n - 1 := ⟨_, rfl⟩
  rw [← hU] at hpn hmm HAT HUM
  clear hU
  obtain ⟨x0, x1, x2, x3, x4, x5, x6, x7, rfl⟩ := list8 (Rd.len h)
  have oR := h
  obtain ⟨_, _, _, _, _, _, hl, _⟩ := oR
  simp only [List.cons.injEq, and_true] at hl
  obtain ⟨rfl, -⟩ := hl
  rw [hn] at h
  rw [hn]
  have t1 := (Below.refl w.heap.size w).alloc (Nat.le_refl _) (.cells #[.int .i64 (n : Int), x1, x2, x3, x4, x5, x6, x7] 40)
  have CX1 := Cells.new w [.int .i64 (n : Int), x1, x2, x3, x4, x5, x6, x7] 40
  clear hn ha0 ha1
  go_enter Tryz.func153, Tryz.ntmps153
  go_wp2_with fail
  go_region_held3 (fun w' => w'.cell? ⟨w.heap.size, 0, none⟩ = some (.int .i64 (n : Int)) ∧ w'.cell? ⟨w.heap.size, 1, none⟩ = some x1 ∧ w'.cell? ⟨w.heap.size, 2, none⟩ = some x2 ∧ w'.cell? ⟨w.heap.size, 3, none⟩ = some x3 ∧ w'.cell? ⟨w.heap.size, 4, none⟩ = some x4 ∧ w'.cell? ⟨w.heap.size, 5, none⟩ = some x5 ∧ w'.cell? ⟨w.heap.size, 6, none⟩ = some x6 ∧ w'.cell? ⟨w.heap.size, 7, none⟩ = some x7)
    (first | exact cells8 CX1 | exact cells8 CX1.drew | exact cells8 (CX1.drew.later b2))
    (first | (go_at_call 182; refine (HAT _).out.mono ?_; rintro e w' ⟨rfl, rfl⟩) |
      (go_at_call 181; refine (meet_calls _ _ _ hmx hpn).mono ?_; rintro e w' ⟨rfl, rfl⟩) |
      (go_at_call 183; refine (baseP_calls xs (Rd.mono t1.drew h) hr12.out).mono ?_; rintro e w2 ⟨m, rfl, ⟨hm, hl⟩, b2⟩) |
      (go_at_call 147; refine (lessN_calls _ _ _ hmm hm).mono ?_; rintro e w' ⟨rfl, rfl⟩))
  go_wp2
  go_ret
  have hU := (HUM _ _ hm hl).out
  exact ⟨_, rfl, ⟨hU.1, by rw [hU.2]; unfold unfQ; rw [hnq.out]⟩, t1.drew.step b2⟩

set_option maxHeartbeats 2000000 in
theorem brokenP_calls {cs : List Value} {q : ProgD} {w : World} (xs : List Int) (h : Rd.R w cs q) (hok : progOkB q = true) :
    Calls Tryz.prog 152 #[.agg cs.toArray, .int .u16 (maskOf xs : Int)] w fun e w' => ∃ u, e = .returned u ∧ OwnI w.heap.size w' u (brkTo q.rules xs q.rules.length) ∧ Below w.heap.size w w' := by
  have hmx := maskOf_lt xs
  have hr12 := Lib.hid (rules12 hok)
  have hlen := (progOk_rules hok).1
  obtain ⟨x0, x1, x2, x3, x4, x5, x6, x7, rfl⟩ := list8 (Rd.len h)
  have oR := h
  obtain ⟨_, _, _, _, _, _, hl, _, g1, _⟩ := oR
  simp only [List.cons.injEq, and_true] at hl
  obtain ⟨-, rfl, -⟩ := hl
  obtain ⟨a1, k1, rfl, _, h1⟩ := g1.sl
  have t1 := (Below.refl w.heap.size w).alloc (Nat.le_refl _) (.cells #[x0, .slice a1 q.rules.length k1, x2, x3, x4, x5, x6, x7] 40)
  have CX1 := Cells.new w [x0, .slice a1 q.rules.length k1, x2, x3, x4, x5, x6, x7] 40
  have h1 := h1.later t1
  have hm1 := h1.1
  obtain ⟨y0, y1, y2, y3, y4, y5, y6, y7⟩ := cells8 CX1
  go_enter Tryz.func152, Tryz.ntmps152
  generalize hwa : w.alloc _ = wa at *
  generalize hrs : q.rules = rs at *
  clear hok g1
  go_wp2
  go_loopw [5, 11] (fun s i wr => ∃ k : Nat, k ≤ rs.length ∧ i = .int .i64 k ∧ OwnI wa.heap.size wr s (brkTo rs xs k) ∧ Below wa.heap.size wa wr) (fun _ i _ => rs.length - (intOf i).toNat)
  case atStart => exact ⟨0, Nat.zero_le _, rfl, OwnI.nil _ _, by first | exact Below.refl _ _ | (rw [hwa]; exact Below.refl _ _)⟩
  case round =>
    obtain ⟨k, hk, rfl, ho, hb⟩ := hrel
    have hz := hb.size
    have hbl := brkTo_len rs xs k
    by_cases hlt : k < rs.length
    · obtain ⟨b, off, rfl, hc⟩ := h1.base (by omega)
      obtain ⟨ecs, hC, hR⟩ := hc k hlt
      have hC := hC.later hb
      have hR := Rd.mono hb hR
      have hok12 := hr12.out _ (nth_mem hlt)
      have hR0 := hR
      obtain ⟨d1, d4, rfl, hf', r1, r4⟩ := hR0
      obtain ⟨ah, kh, rfl, _, hh⟩ := r1.sl
      obtain ⟨ab, kb, rfl, _, _⟩ := r4.sl
      have u0 := hC.c0
      have u1 := hC.c1
      have u2 := hC.c2
      have u3 := hC.c3
      have u4 := hC.c4
      rw [show Rd.k RuleD = 5 from rfl] at u0 u1 u2 u3 u4
      have bA := (Below.refl wr.heap.size wr).alloc (Nat.le_refl _) (.cells #[.bool (nth rs k).choice, .slice ah (nth rs k).heads.length kh, .bool (nth rs k).weight, .int .i64 (nth rs k).bound, .slice ab (nth rs k).body.length kb] 100)
      have hbA := hb.step bA
      have hoA := ho.kept bA
      have hR := Rd.mono bA hR
      clear hC hc r1 r4
      cases hRH : ruleHoldsB xs (nth rs k)
      · have hS := Lib.hid (brkTo_no hRH)
        go_wp2_with fail
        refine (brokenBy_calls xs hR hok12).mono ?_
        rintro e w2 ⟨he, b2⟩
        rw [hRH] at he
        subst he
        have hb2 := hbA.step b2
        have ho2 := hoA.kept b2
        have hz2 := hb2.size
        have hF9 := fits_small' (n := (k : Int)) (by omega) (by omega)
        clear hRH
        go_wp2_with (at_builtin; refine wpList_append_int rfl _ _ rfl rfl ho2 rfl (by omega) hF9 (by omega) ?_; intro v' w' ho' hb' hg')
        go_roundw
        case rel => exact ⟨k + 1, by omega, by go_num, by rw [hS.out]; exact ho', hb2.trans hb'⟩
        case measure => simp [intOf]; omega
      · have hS := Lib.hid (brkTo_ok hRH)
        go_wp2_with fail
        refine (brokenBy_calls xs hR hok12).mono ?_
        rintro e w2 ⟨he, b2⟩
        rw [hRH] at he
        subst he
        have hb2 := hbA.step b2
        have ho2 := hoA.kept b2
        clear hRH
        go_wp2
        go_roundw
        case rel => exact ⟨k + 1, by omega, by go_num, by rw [hS.out]; exact ho2, hb2⟩
        case measure => simp [intOf]; omega
    · obtain rfl : k = rs.length := by omega
      go_wp2
      go_ret
      exact ⟨_, rfl, ho.mono t1.size, t1.step hb⟩

section
variable {x0 x1 x2 x3 x4 x5 x6 x7 : Value}
theorem vBroken_calls {q : ProgD} {w : World} (xs : List Int) (h : Rd.R w [x0, x1, x2, x3, x4, x5, x6, x7] q) (hok : progOkB q = true) :
    Calls Tryz.prog 88 #[.agg #[x0, x1, x2, x3, x4, x5, x6, x7, .int .u16 (maskOf xs : Int)]] w fun e w' => ∃ u, e = .returned u ∧ OwnI w.heap.size w' u (brkTo q.rules xs q.rules.length) ∧ Below w.heap.size w w' := by
  have tb := (Below.refl w.heap.size w).alloc (Nat.le_refl _) (.cells #[x0, x1, x2, x3, x4, x5, x6, x7, .int .u16 (maskOf xs : Int)] 128)
  obtain ⟨y0, y1, y2, y3, y4, y5, y6, y7, y8⟩ := cells9 (Cells.new w [x0, x1, x2, x3, x4, x5, x6, x7, .int .u16 (maskOf xs : Int)] 128)
  have hR := Rd.mono tb h
  go_enter Tryz.func88, Tryz.ntmps88
  go_wp2_with (go_at_call 152; refine (brokenP_calls xs hR hok).mono ?_; rintro e w2 ⟨u, rfl, ho, b2⟩)
  go_ret
  exact ⟨_, rfl, ho.mono tb.size, tb.step b2⟩
theorem vUnf_calls {q : ProgD} {w : World} (xs : List Int) (k : Int) (h : Rd.R w [x0, x1, x2, x3, x4, x5, x6, x7] q) (hok : progOkB q = true) :
    Calls Tryz.prog 89 #[.agg #[x0, x1, x2, x3, x4, x5, x6, x7, .int .u16 (maskOf xs : Int), .int .u16 k]] w fun e w' => ∃ m : Nat, e = .returned (.int .u16 (m : Int)) ∧ (m < 4096 ∧ mset m = unfQ q xs) ∧ Below w.heap.size w w' := by
  have tb := (Below.refl w.heap.size w).alloc (Nat.le_refl _) (.cells #[x0, x1, x2, x3, x4, x5, x6, x7, .int .u16 (maskOf xs : Int), .int .u16 k] 117)
  obtain ⟨y0, y1, y2, y3, y4, y5, y6, y7, y8, y9⟩ := cells10 (Cells.new w [x0, x1, x2, x3, x4, x5, x6, x7, .int .u16 (maskOf xs : Int), .int .u16 k] 117)
  have hR := Rd.mono tb h
  go_enter Tryz.func89, Tryz.ntmps89
  go_wp2_with (go_at_call 153; refine (unfP_calls xs hR hok).mono ?_; rintro e w2 ⟨m, rfl, ho, b2⟩)
  go_ret
  exact ⟨_, rfl, ho, tb.step b2⟩
end

theorem own_single (w : World) (x : Int) (hx : Fits x) : OwnI w.heap.size (w.alloc (.cells #[.int .i64 x] 3)) (.slice (some ⟨w.heap.size, 0, none⟩) 1 1) [x] :=
  ⟨World.ownsRow_lit (e := 3) (size := 1) (base := w.heap.size) w #[.int .i64 x] 1 (Nat.le_refl _) (by simp [maxLen]) (by simp), by simp, by simpa using hx⟩
set_option maxHeartbeats 4000000 in
theorem implAgainst_calls {cs : List Value} {p : ProgD} {w : World} {v : Value} {xs : List Int} (h : Rd.R w cs p) (gx : RdL w [v] xs) :
    Calls Tryz.prog 33 #[.agg cs.toArray, v] w fun e w' => ∃ u, e = .returned (.tuple #[.int .i64 (agaN p xs), u]) ∧ OwnI w.heap.size w' u (agaL p xs) ∧ Below w.heap.size w w' := by
  obtain ⟨p0, p1, p2, p3, p4, p5, p6, p7, rfl⟩ := list8 (Rd.len h)
  have t0 : Below w.heap.size w (w.alloc (.cells #[p0, p1, p2, p3, p4, p5, p6, p7] 40)) := (Below.refl _ _).alloc (by simp) _
  cases hW : whyB p xs
  · obtain ⟨h1, h2⟩ := aga_A hW
    have H1 := Lib.hid h1
    have H2 := Lib.hid h2
    clear h1 h2
    go_enter Tryz.func33, Tryz.ntmps33
    go_wp2_with fail
    refine (viewOf_no (Rd.mono t0 h) (Rd.mono (α := List Int) t0 gx) hW).mono ?_
    rintro e w1 ⟨rfl, b1⟩
    go_wp2
    go_ret2
    exact ⟨.slice none 0 0, by rw [H1.out]; rfl, by rw [H2.out]; exact OwnI.nil _ _, (t0.step b1).alloc (t0.step b1).size _⟩
  · have hF := (whyB_fold hW).1
    have hok : progOkB (foldD p) = true := foldR_ok hF
    have HBR := Lib.hid (brkR_yes (xs := xs) hF)
    have HUR := Lib.hid (unfR_yes (xs := xs) hF)
    have hbl := brkTo_len (foldD p).rules xs (foldD p).rules.length
    have hb60 := (progOk_rules hok).1
    go_enter Tryz.func33, Tryz.ntmps33
    go_wp2_with fail
    refine (viewOf_yes (Rd.mono t0 h) (Rd.mono (α := List Int) t0 gx) hW).mono ?_
    rintro e w1 ⟨x0, x1, x2, x3, x4, x5, x6, x7, rfl, o1, b1⟩
    have hRd := o1.rd
    have l1 := Rd.one hRd
    have st0 := sto Tryz.prog (l1 x0 (by simp))
    have st1 := sto Tryz.prog (l1 x1 (by simp))
    have st2 := sto Tryz.prog (l1 x2 (by simp))
    have st3 := sto Tryz.prog (l1 x3 (by simp))
    have st4 := sto Tryz.prog (l1 x4 (by simp))
    have st5 := sto Tryz.prog (l1 x5 (by simp))
    have st6 := sto Tryz.prog (l1 x6 (by simp))
    have st7 := sto Tryz.prog (l1 x7 (by simp))
    have t1 := t0.step b1
    have CV := Cells.new w1 [x0, x1, x2, x3, x4, x5, x6, x7, .int .u16 (maskOf xs : Int)] 113
    obtain ⟨y0, y1, y2, y3, y4, y5, y6, y7, y8⟩ := cells9 CV
    have bV := (Below.refl w1.heap.size w1).alloc (Nat.le_refl _) (.cells #[x0, x1, x2, x3, x4, x5, x6, x7, .int .u16 (maskOf xs : Int)] 113)
    go_wp2_with fail
    refine (vBroken_calls xs (Rd.mono bV hRd) hok).mono ?_
    rintro e w2 ⟨u2, rfl, ho2, b2⟩
    clear st0 st1 st2 st3 st4 st5 st6 st7 y0 y1 y2 y3 y4 y5 y6 y7 y8
    obtain ⟨y0, y1, y2, y3, y4, y5, y6, y7, y8⟩ := cells9 (CV.later b2)
    have t2 := (t1.step bV).step b2
    have hR2 := Rd.mono (bV.step b2) hRd
    obtain ⟨a2, k2, rfl, hI2, _⟩ := ho2.open
    rw [← HBR.out] at ho2 hI2 hbl
    rw [← HBR.out]
    have hbl6 : (brkR p xs).length ≤ 60 := by omega
    clear hbl CV
    by_cases hz : (brkR p xs).length = 0
    · have hzl : (brkR p xs).length ≤ 0 := by omega
      have hzi : ¬ (0 : Int) < ((brkR p xs).length : Int) := by omega
      have HUQ := Lib.hid HUR.out
      go_wp2_with fail
      refine (vUnf_calls xs 0 hR2 hok).mono ?_
      rintro e w3 ⟨m, rfl, ⟨hm, hl⟩, b3⟩
      rw [← HUR.out] at hl
      have t3 := t2.step b3
      by_cases hmz : m = 0
      · subst hmz
        rw [mset_zero] at hl
        obtain ⟨h1, h2⟩ := aga_D hW hz (by rw [← hl]; rfl)
        have H1 := Lib.hid h1
        have H2 := Lib.hid h2
        clear h1 h2 hl hz
        go_wp2
        go_ret2
        exact ⟨.slice none 0 0, by rw [H1.out]; rfl, by rw [H2.out]; exact OwnI.nil _ _, t3⟩
      · have hne : (unfR p xs).length ≠ 0 := fun e => hmz (by
          have e2 : mset m = [] := by rw [hl]; exact List.eq_nil_of_length_eq_zero e
          have e3 := mask_mset hm
          rw [e2] at e3
          exact e3.symm)
        obtain ⟨h1, h2⟩ := aga_C hW hz hne
        have H1 := Lib.hid h1
        have H2 := Lib.hid h2
        have hmi : ((m : Int) != 0) = true := bne_iff_ne.2 (by omega)
        have hmi' : ((m : Int) == 0) = false := beq_eq_false_iff_ne.2 (by omega)
        have HL := Lib.hid hl
        clear h1 h2 hl hz hne
        go_wp2_with (go_at_call 50; refine (list_calls m _ hm).mono ?_; rintro e w4 ⟨u4, rfl, ho4, b4⟩)
        go_ret2
        refine ⟨u4, by rw [H1.out]; rfl, ?_, t3.step b4⟩
        rw [H2.out, ← HL.out]
        exact ho4.mono t3.size
    · obtain ⟨h1, h2⟩ := aga_B hW hz
      have H1 := Lib.hid h1
      have H2 := Lib.hid h2
      have hzl : 0 < (brkR p xs).length := by omega
      have hzi : (0 : Int) < ((brkR p xs).length : Int) := by omega
      obtain ⟨b, off, rfl, hcc⟩ := hI2.2.2 0 hzl
      have hfx := hI2.2.1 _ (el_mem hzl)
      rw [Nat.add_zero] at hcc
      clear h1 h2 hz y0 y1 y2 y3 y4 y5 y6 y7 y8
      go_upto_region 6 with fail
      have hcd : w2.drew.cell? ⟨b, off, none⟩ = some (.int .i64 (el (brkR p xs) 0)) := hcc
      have t2d := t2.drew
      refine wp_region_held_drew (S := fun W' => W'.cell? ⟨b, off, none⟩ = some (.int .i64 (el (brkR p xs) 0))) (by kernel_rfl) hcd (fun hHeld => ?_)
      generalize w2.drew = wq at *
      refine takeD (i := 0) (v := .slice (some ⟨b, off, none⟩) (brkR p xs).length k2) (some 24) rfl rfl (by kernel_rfl) (by kernel_rfl) (by kernel_rfl) (fun _ _ _ h => h) (Or.inl ⟨by rfl, fun w' hw' => ?_⟩) hHeld ?_
      · first | (go_simp; done) | (obtain ⟨s0, s1⟩ := hw'; go_simp; done)
      try simp only [Act.put, List.setIfInBounds_toArray, List.set_cons_zero, List.set_cons_succ]
      refine takeD (i := 1) (v := .pointer (some ⟨b, off, none⟩)) (some 25) rfl rfl (by kernel_rfl) (by kernel_rfl) (by kernel_rfl) (fun _ _ _ h => h) (Or.inl ⟨by rfl, fun w' hw' => ?_⟩) hHeld ?_
      · first | (go_simp; done) | (obtain ⟨s0, s1⟩ := hw'; go_simp; done)
      try simp only [Act.put, List.setIfInBounds_toArray, List.set_cons_zero, List.set_cons_succ]
      refine takeD (i := 2) (v := .int .i64 (el (brkR p xs) 0)) (some 26) rfl rfl (by kernel_rfl) (by kernel_rfl) (by kernel_rfl) (fun _ _ _ h => h) (Or.inl ⟨by rfl, fun w' hw' => ?_⟩) hHeld ?_
      · first | (go_simp; done) | (obtain ⟨s0, s1⟩ := hw'; go_simp; done)
      try simp only [Act.put, List.setIfInBounds_toArray, List.set_cons_zero, List.set_cons_succ]
      refine takeD (i := 4) (v := .int .i64 1) (some 4) rfl rfl (by kernel_rfl) (by kernel_rfl) (by kernel_rfl) (fun _ _ _ h => h) (Or.inl ⟨by rfl, fun w' hw' => ?_⟩) hHeld ?_
      · first | (go_simp; done) | (obtain ⟨s0, s1⟩ := hw'; go_simp; done)
      try simp only [Act.put, List.setIfInBounds_toArray, List.set_cons_zero, List.set_cons_succ]
      refine wpAnyH_ready (rs := [3]) (by kernel_rfl) (by simp) ?_
      refine AllReadyH.cons rfl (fun K hK => ?_) AllReadyH.nil
      go_simp
      refine hK.out _ _ (cell_kept ((Below.refl wq.heap.size wq).alloc (Nat.le_refl _) _) hcd) (fun hHeld => ?_)
      clear hK K
      try simp only [Act.put, List.setIfInBounds_toArray, List.set_cons_zero, List.set_cons_succ]
      refine takeD (i := 5) (v := .slice (some ⟨wq.heap.size, 0, none⟩) 1 1) (some 5) rfl rfl (by kernel_rfl) (by kernel_rfl) (by kernel_rfl) (fun _ _ _ h => h) (Or.inl ⟨by rfl, fun w' hw' => ?_⟩) hHeld ?_
      · first | (go_simp; done) | (obtain ⟨s0, s1⟩ := hw'; go_simp; done)
      try simp only [Act.put, List.setIfInBounds_toArray, List.set_cons_zero, List.set_cons_succ]
      refine wpAnyH_done (by kernel_rfl) ?_ _
      go_wp2
      go_ret2
      refine ⟨.slice (some ⟨wq.heap.size, 0, none⟩) 1 1, by rw [H1.out]; rfl, ?_, t2d.alloc t2d.size _⟩
      rw [H2.out]
      exact (own_single wq _ hfx).mono t2d.size

end Go.Proofs.YtiemlklngmifdaaGreat
