/-
 A drawn program, one in so many spoilt: what any answers. No condition of its own.
-/
import Derived.Test.YthikhkeofcjdfaaGreatAny
namespace Go.Proofs.YthikhkeofcjdfaaGreat
set_option linter.unusedVariables false
set_option linter.unusedSimpArgs false
open Go.RowKit
set_option maxRecDepth 100000


set_option maxHeartbeats 40000000 in
theorem any_calls (c N : Nat) (w : World) (h : Cur w c N) (hN : N ≤ 100000) :
  Calls Tryz.prog 61 #[.pointer (some ⟨c, 0, none⟩)] w (AnyPost w c (N + 6000)) := by
 have hcw := h.lt
 have hcA := (h.kept ((Below.refl w.heap.size w).alloc (Nat.le_refl _) (.cells zP.toArray 30)))
 go_enter Tryz.func61, Tryz.ntmps61
 go_wp2_with fail
 refine (prog_calls c N _ hcA (by omega)).mono ?_
 rintro e w1 ⟨cs, p, rfl, ho1, hc1, hw1, hsm, hpr⟩
 rw [World.size_alloc] at ho1
 have h1 := AN.start hcw ho1 hw1 hc1
 obtain ⟨b0, b1, b2, b3, b4, b5, b6, b7, rfl⟩ := list8 (Rd.len ho1.rd)
 have l1 := Rd.one ho1.rd
 have st0 := sto Tryz.prog (l1 b0 (by simp))
 have st1 := sto Tryz.prog (l1 b1 (by simp))
 have st2 := sto Tryz.prog (l1 b2 (by simp))
 have st3 := sto Tryz.prog (l1 b3 (by simp))
 have st4 := sto Tryz.prog (l1 b4 (by simp))
 have st5 := sto Tryz.prog (l1 b5 (by simp))
 have st6 := sto Tryz.prog (l1 b6 (by simp))
 have st7 := sto Tryz.prog (l1 b7 (by simp))
 clear hcA hw1 hc1 ho1 l1
 go_upto_region 2 with fail
 obtain ⟨G, hG⟩ : ∃ G, G = w1.heap.size := ⟨_, rfl⟩
 rw [← hG] at h1
 rw [← hG]
 generalize w1.alloc _ = wb at *
 clear hG st0 st1 st2 st3 st4 st5 st6 st7
 go_wp2_with fail
 refine (once_calls c (N + 5000) 7 _ h1.cur (by omega) (by omega) (by omega)).mono ?_
 rintro e w2 ⟨b, rfl, hc2, hw2⟩
 have h2 := h1.pick hcw hw2 hc2
 clear h1 hw2 hc2
 cases b
 ·obtain ⟨bx, p2, h3⟩ : ∃ bx p2, AF w c (N + 6000) G w2 bx p2 := ⟨_, _, h2.fin hcw (by omega) (wee_same hsm hpr rfl)⟩
  clear h2 hsm hpr
  have hRd0 := (h3).rd
  obtain ⟨b0, b1, b2, b3, b4, b5, b6, b7, rfl⟩ := list8 (Rd.len hRd0)
  have l1 := Rd.one hRd0
  obtain ⟨x0, x1, x2, x3, x4, x5, x6, x7⟩ := cells8 (box_cells (h3).res)
  obtain ⟨y0, y1, y2, y3, y4, y5, y6, y7⟩ := cells8 (box_cells (h3).box)
  have xf := fun j => frozen_of_row w2 w.heap.size j _ _ (h3).res
  have st0 := sto Tryz.prog (l1 b0 (by simp))
  have st1 := sto Tryz.prog (l1 b1 (by simp))
  have st2 := sto Tryz.prog (l1 b2 (by simp))
  have st3 := sto Tryz.prog (l1 b3 (by simp))
  have st4 := sto Tryz.prog (l1 b4 (by simp))
  have st5 := sto Tryz.prog (l1 b5 (by simp))
  have st6 := sto Tryz.prog (l1 b6 (by simp))
  have st7 := sto Tryz.prog (l1 b7 (by simp))
  have hk := fun u0 u1 u2 u3 u4 u5 u6 u7 => res_cg8 w2 w.heap.size u0 u1 u2 u3 u4 u5 u6 u7
  have hlG := (h3).lt
  have hln : (w.heap.size : Nat) < (w2).heap.size := block_lt (h3).res
  have hC := (h3).cur
  have hG := (h3).cg
  have hRD := (h3).lent
  have hWE := (h3).wee
  go_wp2
  exact bodyPost_ret (v := .agg #[b0, b1, b2, b3, b4, b5, b6, b7]) (by first | (simp [results, Tryz.results61, go_sem, x0, x1, x2, x3, x4, x5, x6, x7]; done) | (simp [results, Tryz.results61, go_sem, x0, x1, x2, x3, x4, x5, x6, x7]; omega)) rfl
   ⟨[b0, b1, b2, b3, b4, b5, b6, b7], _, rfl, (hRD.cg ((hk _ _ _ _ _ _ _ _).more fun g _ hg => .inl (Nat.le_of_eq hg))).weak (Nat.le_succ _) (fun x e => .inl (Nat.le_of_lt e)), hWE, (hC.cg ((hk _ _ _ _ _ _ _ _).more fun g _ hg => by omega)).mono (by omega), (hG.trans ((hk _ _ _ _ _ _ _ _).more fun g _ hg => .inr (by omega))).toWrote⟩
 ·obtain ⟨g, cap, cur, e, f, ecs, hv1, -⟩ := h2.rule hcw hpr
  subst hv1
  obtain ⟨y0, y1, y2, y3, y4, y5, y6, y7⟩ := cells8 (box_cells h2.box)
  have hlen := hsm.1.1
  go_wp2_with fail
  refine (pick_calls c (N + 5001) p.rules.length _ h2.cur (by omega) ⟨by omega, by omega⟩).mono ?_
  rintro e3 w3 ⟨r, ⟨hr0, hr1, hr2⟩, rfl, hc3, hw3⟩
  obtain ⟨k, rfl⟩ := Int.eq_ofNat_of_zero_le hr0
  have hk : k < p.rules.length := by
   by_cases h9 : (p.rules.length : Int) < 2
   ·have := hr2 h9; omega
   ·have := hr1 (by omega); omega
  have h3 := h2.pick hcw hw3 hc3
  clear h2 hw3 hc3 hr0 hr1 hr2 y0 y1 y2 y3 y4 y5 y6 y7
  go_wp2_with fail
  refine (pick_calls c (N + 5002) 12 _ h3.cur (by omega) ⟨by omega, by omega⟩).mono ?_
  rintro e4 w4 ⟨r, ⟨hr0, hr1, _⟩, rfl, hc4, hw4⟩
  obtain ⟨r, rfl⟩ := Int.eq_ofNat_of_zero_le hr0
  have hr : r < 12 := by have := hr1 (by omega); omega
  have h4 := h3.pick hcw hw4 hc4
  clear h3 hw4 hc4 hr0 hr1
  go_upto_block 0 with fail
  go_cut [2, 3] (fun a b wz => a = .pointer (some ⟨w.heap.size, 0, none⟩) ∧ b = .pointer (some ⟨G, 0, none⟩) ∧ ∃ bx p2, AF w c (N + 6000) G wz bx p2)
  case first =>
   obtain ⟨y0, y1, y2, y3, y4, y5, y6, y7⟩ := cells8 (box_cells h4.box)
   have xf := fun j => frozen_of_row w4 G j _ _ h4.box
   have hs := hsm
   obtain ⟨m1, m2, m4, m5, m6, m7⟩ := hs
   obtain ⟨i7, hi7, hz70, hz71, hz72⟩ := info_parts info_int
   obtain ⟨i8, hi8, hz80, hz81, hz82⟩ := info_parts info_levelQ
   obtain ⟨i9, hi9, hz90, hz91, hz92⟩ := info_parts info_wlit
   obtain ⟨i6, hi6, hz60, hz61, hz62⟩ := info_parts info_extQ
   obtain ⟨i5, hi5, hz50, hz51, hz52⟩ := info_parts info_showQ
   by_cases e0 : r = 0
   ·subst e0
    go_wp2_with fail
    refine (raw_calls c (N + 5003) _ h4.cur (by omega)).mono ?_
    rintro e5 w5 ⟨n, hn, rfl, hc5, hw5⟩
    have h5 := h4.pick hcw hw5 hc5
    clear y0 y1 y2 y3 y4 y5 y6 y7 xf
    have xf := fun j => frozen_of_row w5 G j _ _ h5.box
    obtain ⟨y0, y1, y2, y3, y4, y5, y6, y7⟩ := cells8 (box_cells h5.box)
    have h6 := Lib.hid ((h5.atoms hcw n hn).fin (N' := N + 6000) hcw (by omega) (wee_same hsm hpr rfl))
    go_wp2_with fail
    go_meet
    exact ⟨rfl, rfl, _, _, h6.out⟩
   by_cases e7 : r = 7
   ·subst e7
    as_aux_lemma =>
     go_upto_region 23 with fail
     refine wp_region_held_drew (S := fun _ => True) (by kernel_rfl) trivial (fun hHeld => ?_)
     refine tkY 0 (.pointer (some ⟨G, 4, none⟩)) 125 rfl rfl (fun w' hw' => ?_) hHeld ?_
     ·go_simp
     try simp only [Act.put, put1, put2, put3]
     refine tkY 2 (.pointer (some ⟨c, 0, none⟩)) 127 rfl rfl (fun w' hw' => ?_) hHeld ?_
     ·go_simp
     try simp only [Act.put, put1, put2, put3]
     refine wpAnyH_ready (rs := [1, 3]) (by kernel_rfl) (by simp) ?_
     refine AllReadyH.cons rfl (fun K hK => ?_) (AllReadyH.cons rfl (fun K hK => ?_) AllReadyH.nil)
     ·skip
      go_simp
      refine hK.out _ _ (trivial) (fun hHeld => ?_)
      clear hK K
      try simp only [Act.put, put1, put2, put3]
      refine wpAnyH_ready (rs := [3]) (by kernel_rfl) (by simp) ?_
      refine AllReadyH.cons rfl (fun K hK => ?_) AllReadyH.nil
      go_simp
      refine (raw_calls c (N + 5003) w4.drew (h4.cur.kept (Below.refl _ _).drew) (by omega)).mono ?_
      rintro e5 w5 ⟨n, hn, rfl, hc5, hw5⟩
      have hW5 : Wrote c w4 w5 := ((Wrote.refl c _).drewN 1).trans hw5
      have h5 := h4.pick hcw hW5 hc5
      clear y0 y1 y2 y3 y4 y5 y6 y7 xf
      have xf := fun j => frozen_of_row _ G j _ _ (h5.box)
      obtain ⟨y0, y1, y2, y3, y4, y5, y6, y7⟩ := cells8 (box_cells (h5.box))
      refine hK.out _ _ (trivial) (fun hHeld => ?_)
      clear hK K
      try simp only [Act.put, put1, put2, put3]
      refine wpAnyH_ready (rs := [4]) (by kernel_rfl) (by simp) ?_
      refine AllReadyH.cons rfl (fun K hK => ?_) AllReadyH.nil
      go_simp
      have h6 := h5.alloc hcw (.cells #[.int .i64 n] 3)
      clear y0 y1 y2 y3 y4 y5 y6 y7 xf
      have xf := fun j => frozen_of_row _ G j _ _ (h6.box)
      obtain ⟨y0, y1, y2, y3, y4, y5, y6, y7⟩ := cells8 (box_cells (h6.box))
      refine hK.out _ _ (trivial) (fun hHeld => ?_)
      clear hK K
      try simp only [Act.put, put1, put2, put3]
      obtain ⟨v8, w8, r8, hb8, ⟨a8, q8, rfl⟩, h8⟩ := h6.push (P := Tryz.prog) (t := 26) (ty := 26) (cp := 1) (y := n) hcw 4 (fun fp h => lens_project h) (fun v => rfl) i7 _ 8 Tryz.underlying26 hi7 hz70 hz71 hz72 rfl (by decide) (Cells.new w5 [.int .i64 n] 3) ⟨⟨rfl, hn⟩, rfl⟩ (by omega) (by omega)
      clear y0 y1 y2 y3 y4 y5 y6 y7 xf
      have xf := fun j => frozen_of_row _ G j _ _ (hb8)
      obtain ⟨y0, y1, y2, y3, y4, y5, y6, y7⟩ := cells8 (box_cells (hb8))
      have H8 := Lib.hid (h8.fin (N' := N + 6000) hcw (by omega) (wee_same hsm hpr rfl))
      clear h5 h6 h8 hb8
      refine wpAnyH_ready (rs := [5]) (by kernel_rfl) (by simp) ?_
      refine AllReadyH.cons rfl (fun K hK => ?_) AllReadyH.nil
      refine step_append_of rfl _ _ rfl rfl rfl r8 ?_
      refine hK.out _ _ (trivial) (fun hHeld => ?_)
      clear hK K
      try simp only [Act.put, put1, put2, put3]
      refine takeD (i := 5 + 1) (v := .pointer (some ⟨G, 4, none⟩)) (some 131) rfl rfl (by kernel_rfl) (by kernel_rfl) (by kernel_rfl) (fun _ _ _ h => h) (Or.inl ⟨by rfl, fun w' hw' => ?_⟩) hHeld ?_
      ·go_simp
      try simp only [Act.put, put1, put2, put3]
      refine wpAnyH_ready (rs := [7]) (by kernel_rfl) (by simp) ?_
      refine AllReadyH.cons rfl (fun K hK => ?_) AllReadyH.nil
      go_simp
      refine hK.out _ _ (trivial) (fun hHeld => ?_)
      clear hK K
      try simp only [Act.put, put1, put2, put3]
      refine wpAnyH_done (by kernel_rfl) ?_ _
      go_wp2_with fail
      go_meet
      exact ⟨rfl, rfl, _, _, H8.out⟩
     ·skip
      go_simp
      refine (raw_calls c (N + 5003) w4.drew (h4.cur.kept (Below.refl _ _).drew) (by omega)).mono ?_
      rintro e5 w5 ⟨n, hn, rfl, hc5, hw5⟩
      have hW5 : Wrote c w4 w5 := ((Wrote.refl c _).drewN 1).trans hw5
      have h5 := h4.pick hcw hW5 hc5
      clear y0 y1 y2 y3 y4 y5 y6 y7 xf
      have xf := fun j => frozen_of_row _ G j _ _ (h5.box)
      obtain ⟨y0, y1, y2, y3, y4, y5, y6, y7⟩ := cells8 (box_cells (h5.box))
      refine hK.out _ _ (trivial) (fun hHeld => ?_)
      clear hK K
      try simp only [Act.put, put1, put2, put3]
      refine wpAnyH_ready (rs := [1, 4]) (by kernel_rfl) (by simp) ?_
      refine AllReadyH.cons rfl (fun K hK => ?_) (AllReadyH.cons rfl (fun K hK => ?_) AllReadyH.nil)
      ·skip
       go_simp
       refine hK.out _ _ (trivial) (fun hHeld => ?_)
       clear hK K
       try simp only [Act.put, put1, put2, put3]
       refine wpAnyH_ready (rs := [4]) (by kernel_rfl) (by simp) ?_
       refine AllReadyH.cons rfl (fun K hK => ?_) AllReadyH.nil
       go_simp
       have h6 := h5.alloc hcw (.cells #[.int .i64 n] 3)
       clear y0 y1 y2 y3 y4 y5 y6 y7 xf
       have xf := fun j => frozen_of_row _ G j _ _ (h6.box)
       obtain ⟨y0, y1, y2, y3, y4, y5, y6, y7⟩ := cells8 (box_cells (h6.box))
       refine hK.out _ _ (trivial) (fun hHeld => ?_)
       clear hK K
       try simp only [Act.put, put1, put2, put3]
       obtain ⟨v8, w8, r8, hb8, ⟨a8, q8, rfl⟩, h8⟩ := h6.push (P := Tryz.prog) (t := 26) (ty := 26) (cp := 1) (y := n) hcw 4 (fun fp h => lens_project h) (fun v => rfl) i7 _ 8 Tryz.underlying26 hi7 hz70 hz71 hz72 rfl (by decide) (Cells.new w5 [.int .i64 n] 3) ⟨⟨rfl, hn⟩, rfl⟩ (by omega) (by omega)
       clear y0 y1 y2 y3 y4 y5 y6 y7 xf
       have xf := fun j => frozen_of_row _ G j _ _ (hb8)
       obtain ⟨y0, y1, y2, y3, y4, y5, y6, y7⟩ := cells8 (box_cells (hb8))
       have H8 := Lib.hid (h8.fin (N' := N + 6000) hcw (by omega) (wee_same hsm hpr rfl))
       clear h5 h6 h8 hb8
       refine wpAnyH_ready (rs := [5]) (by kernel_rfl) (by simp) ?_
       refine AllReadyH.cons rfl (fun K hK => ?_) AllReadyH.nil
       refine step_append_of rfl _ _ rfl rfl rfl r8 ?_
       refine hK.out _ _ (trivial) (fun hHeld => ?_)
       clear hK K
       try simp only [Act.put, put1, put2, put3]
       refine takeD (i := 5 + 1) (v := .pointer (some ⟨G, 4, none⟩)) (some 131) rfl rfl (by kernel_rfl) (by kernel_rfl) (by kernel_rfl) (fun _ _ _ h => h) (Or.inl ⟨by rfl, fun w' hw' => ?_⟩) hHeld ?_
       ·go_simp
       try simp only [Act.put, put1, put2, put3]
       refine wpAnyH_ready (rs := [7]) (by kernel_rfl) (by simp) ?_
       refine AllReadyH.cons rfl (fun K hK => ?_) AllReadyH.nil
       go_simp
       refine hK.out _ _ (trivial) (fun hHeld => ?_)
       clear hK K
       try simp only [Act.put, put1, put2, put3]
       refine wpAnyH_done (by kernel_rfl) ?_ _
       go_wp2_with fail
       go_meet
       exact ⟨rfl, rfl, _, _, H8.out⟩
      ·skip
       go_simp
       have h6 := h5.alloc hcw (.cells #[.int .i64 n] 3)
       clear y0 y1 y2 y3 y4 y5 y6 y7 xf
       have xf := fun j => frozen_of_row _ G j _ _ (h6.box)
       obtain ⟨y0, y1, y2, y3, y4, y5, y6, y7⟩ := cells8 (box_cells (h6.box))
       refine hK.out _ _ (trivial) (fun hHeld => ?_)
       clear hK K
       try simp only [Act.put, put1, put2, put3]
       refine wpAnyH_ready (rs := [1]) (by kernel_rfl) (by simp) ?_
       refine AllReadyH.cons rfl (fun K hK => ?_) AllReadyH.nil
       go_simp
       refine hK.out _ _ (trivial) (fun hHeld => ?_)
       clear hK K
       try simp only [Act.put, put1, put2, put3]
       obtain ⟨v8, w8, r8, hb8, ⟨a8, q8, rfl⟩, h8⟩ := h6.push (P := Tryz.prog) (t := 26) (ty := 26) (cp := 1) (y := n) hcw 4 (fun fp h => lens_project h) (fun v => rfl) i7 _ 8 Tryz.underlying26 hi7 hz70 hz71 hz72 rfl (by decide) (Cells.new w5 [.int .i64 n] 3) ⟨⟨rfl, hn⟩, rfl⟩ (by omega) (by omega)
       clear y0 y1 y2 y3 y4 y5 y6 y7 xf
       have xf := fun j => frozen_of_row _ G j _ _ (hb8)
       obtain ⟨y0, y1, y2, y3, y4, y5, y6, y7⟩ := cells8 (box_cells (hb8))
       have H8 := Lib.hid (h8.fin (N' := N + 6000) hcw (by omega) (wee_same hsm hpr rfl))
       clear h5 h6 h8 hb8
       refine wpAnyH_ready (rs := [5]) (by kernel_rfl) (by simp) ?_
       refine AllReadyH.cons rfl (fun K hK => ?_) AllReadyH.nil
       refine step_append_of rfl _ _ rfl rfl rfl r8 ?_
       refine hK.out _ _ (trivial) (fun hHeld => ?_)
       clear hK K
       try simp only [Act.put, put1, put2, put3]
       refine takeD (i := 5 + 1) (v := .pointer (some ⟨G, 4, none⟩)) (some 131) rfl rfl (by kernel_rfl) (by kernel_rfl) (by kernel_rfl) (fun _ _ _ h => h) (Or.inl ⟨by rfl, fun w' hw' => ?_⟩) hHeld ?_
       ·go_simp
       try simp only [Act.put, put1, put2, put3]
       refine wpAnyH_ready (rs := [7]) (by kernel_rfl) (by simp) ?_
       refine AllReadyH.cons rfl (fun K hK => ?_) AllReadyH.nil
       go_simp
       refine hK.out _ _ (trivial) (fun hHeld => ?_)
       clear hK K
       try simp only [Act.put, put1, put2, put3]
       refine wpAnyH_done (by kernel_rfl) ?_ _
       go_wp2_with fail
       go_meet
       exact ⟨rfl, rfl, _, _, H8.out⟩
   by_cases e10 : r = 10
   ·subst e10
    as_aux_lemma =>
     go_upto_region 29 with fail
     refine wp_region_held_drew (S := fun _ => True) (by kernel_rfl) trivial (fun hHeld => ?_)
     refine tkY 0 (.pointer (some ⟨G, 7, none⟩)) 159 rfl rfl (fun w' hw' => ?_) hHeld ?_
     ·go_simp
     try simp only [Act.put, put1, put2, put3]
     refine tkY 2 (.pointer (some ⟨c, 0, none⟩)) 161 rfl rfl (fun w' hw' => ?_) hHeld ?_
     ·go_simp
     try simp only [Act.put, put1, put2, put3]
     refine wpAnyH_ready (rs := [1, 3]) (by kernel_rfl) (by simp) ?_
     refine AllReadyH.cons rfl (fun K hK => ?_) (AllReadyH.cons rfl (fun K hK => ?_) AllReadyH.nil)
     ·skip
      go_simp
      refine hK.out _ _ (trivial) (fun hHeld => ?_)
      clear hK K
      try simp only [Act.put, put1, put2, put3]
      refine wpAnyH_ready (rs := [3]) (by kernel_rfl) (by simp) ?_
      refine AllReadyH.cons rfl (fun K hK => ?_) AllReadyH.nil
      go_simp
      refine (raw_calls c (N + 5003) w4.drew (h4.cur.kept (Below.refl _ _).drew) (by omega)).mono ?_
      rintro e5 w5 ⟨n, hn, rfl, hc5, hw5⟩
      have hW5 : Wrote c w4 w5 := ((Wrote.refl c _).drewN 1).trans hw5
      have h5 := h4.pick hcw hW5 hc5
      clear y0 y1 y2 y3 y4 y5 y6 y7 xf
      have xf := fun j => frozen_of_row _ G j _ _ (h5.box)
      obtain ⟨y0, y1, y2, y3, y4, y5, y6, y7⟩ := cells8 (box_cells (h5.box))
      refine hK.out _ _ (trivial) (fun hHeld => ?_)
      clear hK K
      try simp only [Act.put, put1, put2, put3]
      refine wpAnyH_ready (rs := [4]) (by kernel_rfl) (by simp) ?_
      refine AllReadyH.cons rfl (fun K hK => ?_) AllReadyH.nil
      go_simp
      have h6 := h5.alloc hcw (.cells #[.int .i64 n] 3)
      clear y0 y1 y2 y3 y4 y5 y6 y7 xf
      have xf := fun j => frozen_of_row _ G j _ _ (h6.box)
      obtain ⟨y0, y1, y2, y3, y4, y5, y6, y7⟩ := cells8 (box_cells (h6.box))
      refine hK.out _ _ (trivial) (fun hHeld => ?_)
      clear hK K
      try simp only [Act.put, put1, put2, put3]
      obtain ⟨v8, w8, r8, hb8, ⟨a8, q8, rfl⟩, h8⟩ := h6.push (P := Tryz.prog) (t := 26) (ty := 26) (cp := 1) (y := n) hcw 7 (fun fp h => lens_assume h) (fun v => rfl) i7 _ 8 Tryz.underlying26 hi7 hz70 hz71 hz72 rfl (by decide) (Cells.new w5 [.int .i64 n] 3) ⟨⟨rfl, hn⟩, rfl⟩ (by omega) (by omega)
      clear y0 y1 y2 y3 y4 y5 y6 y7 xf
      have xf := fun j => frozen_of_row _ G j _ _ (hb8)
      obtain ⟨y0, y1, y2, y3, y4, y5, y6, y7⟩ := cells8 (box_cells (hb8))
      have H8 := Lib.hid (h8.fin (N' := N + 6000) hcw (by omega) (wee_same hsm hpr rfl))
      clear h5 h6 h8 hb8
      refine wpAnyH_ready (rs := [5]) (by kernel_rfl) (by simp) ?_
      refine AllReadyH.cons rfl (fun K hK => ?_) AllReadyH.nil
      refine step_append_of rfl _ _ rfl rfl rfl r8 ?_
      refine hK.out _ _ (trivial) (fun hHeld => ?_)
      clear hK K
      try simp only [Act.put, put1, put2, put3]
      refine takeD (i := 5 + 1) (v := .pointer (some ⟨G, 7, none⟩)) (some 165) rfl rfl (by kernel_rfl) (by kernel_rfl) (by kernel_rfl) (fun _ _ _ h => h) (Or.inl ⟨by rfl, fun w' hw' => ?_⟩) hHeld ?_
      ·go_simp
      try simp only [Act.put, put1, put2, put3]
      refine wpAnyH_ready (rs := [7]) (by kernel_rfl) (by simp) ?_
      refine AllReadyH.cons rfl (fun K hK => ?_) AllReadyH.nil
      go_simp
      refine hK.out _ _ (trivial) (fun hHeld => ?_)
      clear hK K
      try simp only [Act.put, put1, put2, put3]
      refine wpAnyH_done (by kernel_rfl) ?_ _
      go_wp2_with fail
      go_meet
      exact ⟨rfl, rfl, _, _, H8.out⟩
     ·skip
      go_simp
      refine (raw_calls c (N + 5003) w4.drew (h4.cur.kept (Below.refl _ _).drew) (by omega)).mono ?_
      rintro e5 w5 ⟨n, hn, rfl, hc5, hw5⟩
      have hW5 : Wrote c w4 w5 := ((Wrote.refl c _).drewN 1).trans hw5
      have h5 := h4.pick hcw hW5 hc5
      clear y0 y1 y2 y3 y4 y5 y6 y7 xf
      have xf := fun j => frozen_of_row _ G j _ _ (h5.box)
      obtain ⟨y0, y1, y2, y3, y4, y5, y6, y7⟩ := cells8 (box_cells (h5.box))
      refine hK.out _ _ (trivial) (fun hHeld => ?_)
      clear hK K
      try simp only [Act.put, put1, put2, put3]
      refine wpAnyH_ready (rs := [1, 4]) (by kernel_rfl) (by simp) ?_
      refine AllReadyH.cons rfl (fun K hK => ?_) (AllReadyH.cons rfl (fun K hK => ?_) AllReadyH.nil)
      ·skip
       go_simp
       refine hK.out _ _ (trivial) (fun hHeld => ?_)
       clear hK K
       try simp only [Act.put, put1, put2, put3]
       refine wpAnyH_ready (rs := [4]) (by kernel_rfl) (by simp) ?_
       refine AllReadyH.cons rfl (fun K hK => ?_) AllReadyH.nil
       go_simp
       have h6 := h5.alloc hcw (.cells #[.int .i64 n] 3)
       clear y0 y1 y2 y3 y4 y5 y6 y7 xf
       have xf := fun j => frozen_of_row _ G j _ _ (h6.box)
       obtain ⟨y0, y1, y2, y3, y4, y5, y6, y7⟩ := cells8 (box_cells (h6.box))
       refine hK.out _ _ (trivial) (fun hHeld => ?_)
       clear hK K
       try simp only [Act.put, put1, put2, put3]
       obtain ⟨v8, w8, r8, hb8, ⟨a8, q8, rfl⟩, h8⟩ := h6.push (P := Tryz.prog) (t := 26) (ty := 26) (cp := 1) (y := n) hcw 7 (fun fp h => lens_assume h) (fun v => rfl) i7 _ 8 Tryz.underlying26 hi7 hz70 hz71 hz72 rfl (by decide) (Cells.new w5 [.int .i64 n] 3) ⟨⟨rfl, hn⟩, rfl⟩ (by omega) (by omega)
       clear y0 y1 y2 y3 y4 y5 y6 y7 xf
       have xf := fun j => frozen_of_row _ G j _ _ (hb8)
       obtain ⟨y0, y1, y2, y3, y4, y5, y6, y7⟩ := cells8 (box_cells (hb8))
       have H8 := Lib.hid (h8.fin (N' := N + 6000) hcw (by omega) (wee_same hsm hpr rfl))
       clear h5 h6 h8 hb8
       refine wpAnyH_ready (rs := [5]) (by kernel_rfl) (by simp) ?_
       refine AllReadyH.cons rfl (fun K hK => ?_) AllReadyH.nil
       refine step_append_of rfl _ _ rfl rfl rfl r8 ?_
       refine hK.out _ _ (trivial) (fun hHeld => ?_)
       clear hK K
       try simp only [Act.put, put1, put2, put3]
       refine takeD (i := 5 + 1) (v := .pointer (some ⟨G, 7, none⟩)) (some 165) rfl rfl (by kernel_rfl) (by kernel_rfl) (by kernel_rfl) (fun _ _ _ h => h) (Or.inl ⟨by rfl, fun w' hw' => ?_⟩) hHeld ?_
       ·go_simp
       try simp only [Act.put, put1, put2, put3]
       refine wpAnyH_ready (rs := [7]) (by kernel_rfl) (by simp) ?_
       refine AllReadyH.cons rfl (fun K hK => ?_) AllReadyH.nil
       go_simp
       refine hK.out _ _ (trivial) (fun hHeld => ?_)
       clear hK K
       try simp only [Act.put, put1, put2, put3]
       refine wpAnyH_done (by kernel_rfl) ?_ _
       go_wp2_with fail
       go_meet
       exact ⟨rfl, rfl, _, _, H8.out⟩
      ·skip
       go_simp
       have h6 := h5.alloc hcw (.cells #[.int .i64 n] 3)
       clear y0 y1 y2 y3 y4 y5 y6 y7 xf
       have xf := fun j => frozen_of_row _ G j _ _ (h6.box)
       obtain ⟨y0, y1, y2, y3, y4, y5, y6, y7⟩ := cells8 (box_cells (h6.box))
       refine hK.out _ _ (trivial) (fun hHeld => ?_)
       clear hK K
       try simp only [Act.put, put1, put2, put3]
       refine wpAnyH_ready (rs := [1]) (by kernel_rfl) (by simp) ?_
       refine AllReadyH.cons rfl (fun K hK => ?_) AllReadyH.nil
       go_simp
       refine hK.out _ _ (trivial) (fun hHeld => ?_)
       clear hK K
       try simp only [Act.put, put1, put2, put3]
       obtain ⟨v8, w8, r8, hb8, ⟨a8, q8, rfl⟩, h8⟩ := h6.push (P := Tryz.prog) (t := 26) (ty := 26) (cp := 1) (y := n) hcw 7 (fun fp h => lens_assume h) (fun v => rfl) i7 _ 8 Tryz.underlying26 hi7 hz70 hz71 hz72 rfl (by decide) (Cells.new w5 [.int .i64 n] 3) ⟨⟨rfl, hn⟩, rfl⟩ (by omega) (by omega)
       clear y0 y1 y2 y3 y4 y5 y6 y7 xf
       have xf := fun j => frozen_of_row _ G j _ _ (hb8)
       obtain ⟨y0, y1, y2, y3, y4, y5, y6, y7⟩ := cells8 (box_cells (hb8))
       have H8 := Lib.hid (h8.fin (N' := N + 6000) hcw (by omega) (wee_same hsm hpr rfl))
       clear h5 h6 h8 hb8
       refine wpAnyH_ready (rs := [5]) (by kernel_rfl) (by simp) ?_
       refine AllReadyH.cons rfl (fun K hK => ?_) AllReadyH.nil
       refine step_append_of rfl _ _ rfl rfl rfl r8 ?_
       refine hK.out _ _ (trivial) (fun hHeld => ?_)
       clear hK K
       try simp only [Act.put, put1, put2, put3]
       refine takeD (i := 5 + 1) (v := .pointer (some ⟨G, 7, none⟩)) (some 165) rfl rfl (by kernel_rfl) (by kernel_rfl) (by kernel_rfl) (fun _ _ _ h => h) (Or.inl ⟨by rfl, fun w' hw' => ?_⟩) hHeld ?_
       ·go_simp
       try simp only [Act.put, put1, put2, put3]
       refine wpAnyH_ready (rs := [7]) (by kernel_rfl) (by simp) ?_
       refine AllReadyH.cons rfl (fun K hK => ?_) AllReadyH.nil
       go_simp
       refine hK.out _ _ (trivial) (fun hHeld => ?_)
       clear hK K
       try simp only [Act.put, put1, put2, put3]
       refine wpAnyH_done (by kernel_rfl) ?_ _
       go_wp2_with fail
       go_meet
       exact ⟨rfl, rfl, _, _, H8.out⟩
   by_cases e6 : r = 6
   ·subst e6
    as_aux_lemma =>
     go_upto_region 21 with fail
     refine wp_region_held_drew (S := fun _ => True) (by kernel_rfl) trivial (fun hHeld => ?_)
     refine tkY 0 (.pointer (some ⟨G, 2, none⟩)) 115 rfl rfl (fun w' hw' => ?_) hHeld ?_
     ·go_simp
     try simp only [Act.put, put1, put2, put3]
     refine tkY 2 (.pointer (some ⟨c, 0, none⟩)) 117 rfl rfl (fun w' hw' => ?_) hHeld ?_
     ·go_simp
     try simp only [Act.put, put1, put2, put3]
     refine wpAnyH_ready (rs := [1, 3]) (by kernel_rfl) (by simp) ?_
     refine AllReadyH.cons rfl (fun K hK => ?_) (AllReadyH.cons rfl (fun K hK => ?_) AllReadyH.nil)
     ·skip
      go_simp
      refine hK.out _ _ (trivial) (fun hHeld => ?_)
      clear hK K
      try simp only [Act.put, put1, put2, put3]
      refine wpAnyH_ready (rs := [3]) (by kernel_rfl) (by simp) ?_
      refine AllReadyH.cons rfl (fun K hK => ?_) AllReadyH.nil
      go_simp
      refine (raw_calls c (N + 5003) w4.drew (h4.cur.kept (Below.refl _ _).drew) (by omega)).mono ?_
      rintro e5 w5 ⟨n, hn, rfl, hc5, hw5⟩
      have hW5 : Wrote c w4 w5 := ((Wrote.refl c _).drewN 1).trans hw5
      have h5 := h4.pick hcw hW5 hc5
      clear y0 y1 y2 y3 y4 y5 y6 y7 xf
      have xf := fun j => frozen_of_row _ G j _ _ (h5.box)
      obtain ⟨y0, y1, y2, y3, y4, y5, y6, y7⟩ := cells8 (box_cells (h5.box))
      refine hK.out _ _ (trivial) (fun hHeld => ?_)
      clear hK K
      try simp only [Act.put, put1, put2, put3]
      refine tkY 4 (.agg #[.int .i64 n, .slice none 0 0]) 119 rfl rfl (fun w' hw' => ?_) hHeld ?_
      ·go_simp
      try simp only [Act.put, put1, put2, put3]
      refine wpAnyH_ready (rs := [5]) (by kernel_rfl) (by simp) ?_
      refine AllReadyH.cons rfl (fun K hK => ?_) AllReadyH.nil
      go_simp
      have h6 := h5.alloc hcw (.cells #[.int .i64 n, .slice none 0 0] 182)
      clear y0 y1 y2 y3 y4 y5 y6 y7 xf
      have xf := fun j => frozen_of_row _ G j _ _ (h6.box)
      obtain ⟨y0, y1, y2, y3, y4, y5, y6, y7⟩ := cells8 (box_cells (h6.box))
      refine hK.out _ _ (trivial) (fun hHeld => ?_)
      clear hK K
      try simp only [Act.put, put1, put2, put3]
      obtain ⟨v8, w8, r8, hb8, ⟨a8, q8, rfl⟩, h8⟩ := h6.push (P := Tryz.prog) (t := 25) (ty := 25) (cp := 1) (y := (⟨n, []⟩ : LevelD)) hcw 2 (fun fp h => lens_levels h) (fun v => rfl) i8 _ 32 Tryz.underlying25 hi8 hz80 hz81 hz82 rfl (by decide) (Cells.new w5 [.int .i64 n, .slice none 0 0] 182) ⟨.slice none 0 0, rfl, hn, owL_nil⟩ (by omega) (by omega)
      clear y0 y1 y2 y3 y4 y5 y6 y7 xf
      have xf := fun j => frozen_of_row _ G j _ _ (hb8)
      obtain ⟨y0, y1, y2, y3, y4, y5, y6, y7⟩ := cells8 (box_cells (hb8))
      have H8 := Lib.hid (h8.fin (N' := N + 6000) hcw (by omega) (wee_same hsm hpr rfl))
      clear h5 h6 h8 hb8
      refine wpAnyH_ready (rs := [6]) (by kernel_rfl) (by simp) ?_
      refine AllReadyH.cons rfl (fun K hK => ?_) AllReadyH.nil
      refine step_append_of rfl _ _ rfl rfl rfl r8 ?_
      refine hK.out _ _ (trivial) (fun hHeld => ?_)
      clear hK K
      try simp only [Act.put, put1, put2, put3]
      refine takeD (i := 6 + 1) (v := .pointer (some ⟨G, 2, none⟩)) (some 122) rfl rfl (by kernel_rfl) (by kernel_rfl) (by kernel_rfl) (fun _ _ _ h => h) (Or.inl ⟨by rfl, fun w' hw' => ?_⟩) hHeld ?_
      ·go_simp
      try simp only [Act.put, put1, put2, put3]
      refine wpAnyH_ready (rs := [8]) (by kernel_rfl) (by simp) ?_
      refine AllReadyH.cons rfl (fun K hK => ?_) AllReadyH.nil
      go_simp
      refine hK.out _ _ (trivial) (fun hHeld => ?_)
      clear hK K
      try simp only [Act.put, put1, put2, put3]
      refine wpAnyH_done (by kernel_rfl) ?_ _
      go_wp2_with fail
      go_meet
      exact ⟨rfl, rfl, _, _, H8.out⟩
     ·skip
      go_simp
      refine (raw_calls c (N + 5003) w4.drew (h4.cur.kept (Below.refl _ _).drew) (by omega)).mono ?_
      rintro e5 w5 ⟨n, hn, rfl, hc5, hw5⟩
      have hW5 : Wrote c w4 w5 := ((Wrote.refl c _).drewN 1).trans hw5
      have h5 := h4.pick hcw hW5 hc5
      clear y0 y1 y2 y3 y4 y5 y6 y7 xf
      have xf := fun j => frozen_of_row _ G j _ _ (h5.box)
      obtain ⟨y0, y1, y2, y3, y4, y5, y6, y7⟩ := cells8 (box_cells (h5.box))
      refine hK.out _ _ (trivial) (fun hHeld => ?_)
      clear hK K
      try simp only [Act.put, put1, put2, put3]
      refine tkY 4 (.agg #[.int .i64 n, .slice none 0 0]) 119 rfl rfl (fun w' hw' => ?_) hHeld ?_
      ·go_simp
      try simp only [Act.put, put1, put2, put3]
      refine wpAnyH_ready (rs := [1, 5]) (by kernel_rfl) (by simp) ?_
      refine AllReadyH.cons rfl (fun K hK => ?_) (AllReadyH.cons rfl (fun K hK => ?_) AllReadyH.nil)
      ·skip
       go_simp
       refine hK.out _ _ (trivial) (fun hHeld => ?_)
       clear hK K
       try simp only [Act.put, put1, put2, put3]
       refine wpAnyH_ready (rs := [5]) (by kernel_rfl) (by simp) ?_
       refine AllReadyH.cons rfl (fun K hK => ?_) AllReadyH.nil
       go_simp
       have h6 := h5.alloc hcw (.cells #[.int .i64 n, .slice none 0 0] 182)
       clear y0 y1 y2 y3 y4 y5 y6 y7 xf
       have xf := fun j => frozen_of_row _ G j _ _ (h6.box)
       obtain ⟨y0, y1, y2, y3, y4, y5, y6, y7⟩ := cells8 (box_cells (h6.box))
       refine hK.out _ _ (trivial) (fun hHeld => ?_)
       clear hK K
       try simp only [Act.put, put1, put2, put3]
       obtain ⟨v8, w8, r8, hb8, ⟨a8, q8, rfl⟩, h8⟩ := h6.push (P := Tryz.prog) (t := 25) (ty := 25) (cp := 1) (y := (⟨n, []⟩ : LevelD)) hcw 2 (fun fp h => lens_levels h) (fun v => rfl) i8 _ 32 Tryz.underlying25 hi8 hz80 hz81 hz82 rfl (by decide) (Cells.new w5 [.int .i64 n, .slice none 0 0] 182) ⟨.slice none 0 0, rfl, hn, owL_nil⟩ (by omega) (by omega)
       clear y0 y1 y2 y3 y4 y5 y6 y7 xf
       have xf := fun j => frozen_of_row _ G j _ _ (hb8)
       obtain ⟨y0, y1, y2, y3, y4, y5, y6, y7⟩ := cells8 (box_cells (hb8))
       have H8 := Lib.hid (h8.fin (N' := N + 6000) hcw (by omega) (wee_same hsm hpr rfl))
       clear h5 h6 h8 hb8
       refine wpAnyH_ready (rs := [6]) (by kernel_rfl) (by simp) ?_
       refine AllReadyH.cons rfl (fun K hK => ?_) AllReadyH.nil
       refine step_append_of rfl _ _ rfl rfl rfl r8 ?_
       refine hK.out _ _ (trivial) (fun hHeld => ?_)
       clear hK K
       try simp only [Act.put, put1, put2, put3]
       refine takeD (i := 6 + 1) (v := .pointer (some ⟨G, 2, none⟩)) (some 122) rfl rfl (by kernel_rfl) (by kernel_rfl) (by kernel_rfl) (fun _ _ _ h => h) (Or.inl ⟨by rfl, fun w' hw' => ?_⟩) hHeld ?_
       ·go_simp
       try simp only [Act.put, put1, put2, put3]
       refine wpAnyH_ready (rs := [8]) (by kernel_rfl) (by simp) ?_
       refine AllReadyH.cons rfl (fun K hK => ?_) AllReadyH.nil
       go_simp
       refine hK.out _ _ (trivial) (fun hHeld => ?_)
       clear hK K
       try simp only [Act.put, put1, put2, put3]
       refine wpAnyH_done (by kernel_rfl) ?_ _
       go_wp2_with fail
       go_meet
       exact ⟨rfl, rfl, _, _, H8.out⟩
      ·skip
       go_simp
       have h6 := h5.alloc hcw (.cells #[.int .i64 n, .slice none 0 0] 182)
       clear y0 y1 y2 y3 y4 y5 y6 y7 xf
       have xf := fun j => frozen_of_row _ G j _ _ (h6.box)
       obtain ⟨y0, y1, y2, y3, y4, y5, y6, y7⟩ := cells8 (box_cells (h6.box))
       refine hK.out _ _ (trivial) (fun hHeld => ?_)
       clear hK K
       try simp only [Act.put, put1, put2, put3]
       refine wpAnyH_ready (rs := [1]) (by kernel_rfl) (by simp) ?_
       refine AllReadyH.cons rfl (fun K hK => ?_) AllReadyH.nil
       go_simp
       refine hK.out _ _ (trivial) (fun hHeld => ?_)
       clear hK K
       try simp only [Act.put, put1, put2, put3]
       obtain ⟨v8, w8, r8, hb8, ⟨a8, q8, rfl⟩, h8⟩ := h6.push (P := Tryz.prog) (t := 25) (ty := 25) (cp := 1) (y := (⟨n, []⟩ : LevelD)) hcw 2 (fun fp h => lens_levels h) (fun v => rfl) i8 _ 32 Tryz.underlying25 hi8 hz80 hz81 hz82 rfl (by decide) (Cells.new w5 [.int .i64 n, .slice none 0 0] 182) ⟨.slice none 0 0, rfl, hn, owL_nil⟩ (by omega) (by omega)
       clear y0 y1 y2 y3 y4 y5 y6 y7 xf
       have xf := fun j => frozen_of_row _ G j _ _ (hb8)
       obtain ⟨y0, y1, y2, y3, y4, y5, y6, y7⟩ := cells8 (box_cells (hb8))
       have H8 := Lib.hid (h8.fin (N' := N + 6000) hcw (by omega) (wee_same hsm hpr rfl))
       clear h5 h6 h8 hb8
       refine wpAnyH_ready (rs := [6]) (by kernel_rfl) (by simp) ?_
       refine AllReadyH.cons rfl (fun K hK => ?_) AllReadyH.nil
       refine step_append_of rfl _ _ rfl rfl rfl r8 ?_
       refine hK.out _ _ (trivial) (fun hHeld => ?_)
       clear hK K
       try simp only [Act.put, put1, put2, put3]
       refine takeD (i := 6 + 1) (v := .pointer (some ⟨G, 2, none⟩)) (some 122) rfl rfl (by kernel_rfl) (by kernel_rfl) (by kernel_rfl) (fun _ _ _ h => h) (Or.inl ⟨by rfl, fun w' hw' => ?_⟩) hHeld ?_
       ·go_simp
       try simp only [Act.put, put1, put2, put3]
       refine wpAnyH_ready (rs := [8]) (by kernel_rfl) (by simp) ?_
       refine AllReadyH.cons rfl (fun K hK => ?_) AllReadyH.nil
       go_simp
       refine hK.out _ _ (trivial) (fun hHeld => ?_)
       clear hK K
       try simp only [Act.put, put1, put2, put3]
       refine wpAnyH_done (by kernel_rfl) ?_ _
       go_wp2_with fail
       go_meet
       exact ⟨rfl, rfl, _, _, H8.out⟩
   by_cases e9 : r = 9
   ·subst e9
    as_aux_lemma =>
     go_upto_region 27 with fail
     refine wp_region_held_drew (S := fun _ => True) (by kernel_rfl) trivial (fun hHeld => ?_)
     refine tkY 0 (.pointer (some ⟨G, 6, none⟩)) 147 rfl rfl (fun w' hw' => ?_) hHeld ?_
     ·go_simp
     try simp only [Act.put, put1, put2, put3]
     refine tkY 2 (.pointer (some ⟨c, 0, none⟩)) 149 rfl rfl (fun w' hw' => ?_) hHeld ?_
     ·go_simp
     try simp only [Act.put, put1, put2, put3]
     refine tkY 4 (.pointer (some ⟨c, 0, none⟩)) 151 rfl rfl (fun w' hw' => ?_) hHeld ?_
     ·go_simp
     try simp only [Act.put, put1, put2, put3]
     refine wpAnyH_ready (rs := [1, 3]) (by kernel_rfl) (by simp) ?_
     refine AllReadyH.cons rfl (fun K hK => ?_) (AllReadyH.cons rfl (fun K hK => ?_) AllReadyH.nil)
     ·skip
      go_simp
      refine hK.out _ _ (trivial) (fun hHeld => ?_)
      clear hK K
      try simp only [Act.put, put1, put2, put3]
      refine wpAnyH_ready (rs := [3]) (by kernel_rfl) (by simp) ?_
      refine AllReadyH.cons rfl (fun K hK => ?_) AllReadyH.nil
      go_simp
      refine (raw_calls c (N + 5003) w4.drew (h4.cur.kept (Below.refl _ _).drew) (by omega)).mono ?_
      rintro e5 w5 ⟨n, hn, rfl, hc5, hw5⟩
      have hW5 : Wrote c w4 w5 := ((Wrote.refl c _).drewN 1).trans hw5
      have h5 := h4.pick hcw hW5 hc5
      clear y0 y1 y2 y3 y4 y5 y6 y7 xf
      have xf := fun j => frozen_of_row _ G j _ _ (h5.box)
      obtain ⟨y0, y1, y2, y3, y4, y5, y6, y7⟩ := cells8 (box_cells (h5.box))
      refine hK.out _ _ (trivial) (fun hHeld => ?_)
      clear hK K
      try simp only [Act.put, put1, put2, put3]
      refine wpAnyH_ready (rs := [5]) (by kernel_rfl) (by simp) ?_
      refine AllReadyH.cons rfl (fun K hK => ?_) AllReadyH.nil
      go_simp
      refine (pick_calls c (N + 5005) 4 _ h5.cur (by omega) ⟨by omega, by omega⟩).mono ?_
      rintro e9 w9 ⟨x, ⟨hx0, hx1, _⟩, rfl, hc9, hw9⟩
      have hx1 := hx1 (by omega)
      have h9 := h5.pick hcw hw9 hc9
      clear h5 y0 y1 y2 y3 y4 y5 y6 y7 xf hc9 hw9
      have h5 := h9
      clear h9
      have xf := fun j => frozen_of_row _ G j _ _ (h5.box)
      obtain ⟨y0, y1, y2, y3, y4, y5, y6, y7⟩ := cells8 (box_cells (h5.box))
      refine hK.out _ _ (trivial) (fun hHeld => ?_)
      clear hK K
      try simp only [Act.put, put1, put2, put3]
      refine tkY 6 (.agg #[.int .i64 n, .int .i64 x]) 153 rfl rfl (fun w' hw' => ?_) hHeld ?_
      ·go_simp
      try simp only [Act.put, put1, put2, put3]
      refine wpAnyH_ready (rs := [7]) (by kernel_rfl) (by simp) ?_
      refine AllReadyH.cons rfl (fun K hK => ?_) AllReadyH.nil
      go_simp
      have h6 := h5.alloc hcw (.cells #[.int .i64 n, .int .i64 x] 132)
      clear y0 y1 y2 y3 y4 y5 y6 y7 xf
      have xf := fun j => frozen_of_row _ G j _ _ (h6.box)
      obtain ⟨y0, y1, y2, y3, y4, y5, y6, y7⟩ := cells8 (box_cells (h6.box))
      refine hK.out _ _ (trivial) (fun hHeld => ?_)
      clear hK K
      try simp only [Act.put, put1, put2, put3]
      obtain ⟨v8, w8, r8, hb8, ⟨a8, q8, rfl⟩, h8⟩ := h6.push (P := Tryz.prog) (t := 28) (ty := 28) (cp := 1) (y := (n, x)) hcw 6 (fun fp h => lens_exts h) (fun v => rfl) i6 _ 16 Tryz.underlying28 hi6 hz60 hz61 hz62 rfl (by decide) (Cells.new w9 [.int .i64 n, .int .i64 x] 132) ⟨⟨rfl, hn, ⟨by omega, by omega⟩⟩, rfl⟩ (by omega) (by omega)
      clear y0 y1 y2 y3 y4 y5 y6 y7 xf
      have xf := fun j => frozen_of_row _ G j _ _ (hb8)
      obtain ⟨y0, y1, y2, y3, y4, y5, y6, y7⟩ := cells8 (box_cells (hb8))
      have H8 := Lib.hid (h8.fin (N' := N + 6000) hcw (by omega) (wee_same hsm hpr rfl))
      clear h5 h6 h8 hb8
      refine wpAnyH_ready (rs := [8]) (by kernel_rfl) (by simp) ?_
      refine AllReadyH.cons rfl (fun K hK => ?_) AllReadyH.nil
      refine step_append_of rfl _ _ rfl rfl rfl r8 ?_
      refine hK.out _ _ (trivial) (fun hHeld => ?_)
      clear hK K
      try simp only [Act.put, put1, put2, put3]
      refine takeD (i := 8 + 1) (v := .pointer (some ⟨G, 6, none⟩)) (some 156) rfl rfl (by kernel_rfl) (by kernel_rfl) (by kernel_rfl) (fun _ _ _ h => h) (Or.inl ⟨by rfl, fun w' hw' => ?_⟩) hHeld ?_
      ·go_simp
      try simp only [Act.put, put1, put2, put3]
      refine wpAnyH_ready (rs := [10]) (by kernel_rfl) (by simp) ?_
      refine AllReadyH.cons rfl (fun K hK => ?_) AllReadyH.nil
      go_simp
      refine hK.out _ _ (trivial) (fun hHeld => ?_)
      clear hK K
      try simp only [Act.put, put1, put2, put3]
      refine wpAnyH_done (by kernel_rfl) ?_ _
      go_wp2_with fail
      go_meet
      exact ⟨rfl, rfl, _, _, H8.out⟩
     ·skip
      go_simp
      refine (raw_calls c (N + 5003) w4.drew (h4.cur.kept (Below.refl _ _).drew) (by omega)).mono ?_
      rintro e5 w5 ⟨n, hn, rfl, hc5, hw5⟩
      have hW5 : Wrote c w4 w5 := ((Wrote.refl c _).drewN 1).trans hw5
      have h5 := h4.pick hcw hW5 hc5
      clear y0 y1 y2 y3 y4 y5 y6 y7 xf
      have xf := fun j => frozen_of_row _ G j _ _ (h5.box)
      obtain ⟨y0, y1, y2, y3, y4, y5, y6, y7⟩ := cells8 (box_cells (h5.box))
      refine hK.out _ _ (trivial) (fun hHeld => ?_)
      clear hK K
      try simp only [Act.put, put1, put2, put3]
      refine wpAnyH_ready (rs := [1, 5]) (by kernel_rfl) (by simp) ?_
      refine AllReadyH.cons rfl (fun K hK => ?_) (AllReadyH.cons rfl (fun K hK => ?_) AllReadyH.nil)
      ·skip
       go_simp
       refine hK.out _ _ (trivial) (fun hHeld => ?_)
       clear hK K
       try simp only [Act.put, put1, put2, put3]
       refine wpAnyH_ready (rs := [5]) (by kernel_rfl) (by simp) ?_
       refine AllReadyH.cons rfl (fun K hK => ?_) AllReadyH.nil
       go_simp
       refine (pick_calls c (N + 5005) 4 _ h5.cur (by omega) ⟨by omega, by omega⟩).mono ?_
       rintro e9 w9 ⟨x, ⟨hx0, hx1, _⟩, rfl, hc9, hw9⟩
       have hx1 := hx1 (by omega)
       have h9 := h5.pick hcw hw9 hc9
       clear h5 y0 y1 y2 y3 y4 y5 y6 y7 xf hc9 hw9
       have h5 := h9
       clear h9
       have xf := fun j => frozen_of_row _ G j _ _ (h5.box)
       obtain ⟨y0, y1, y2, y3, y4, y5, y6, y7⟩ := cells8 (box_cells (h5.box))
       refine hK.out _ _ (trivial) (fun hHeld => ?_)
       clear hK K
       try simp only [Act.put, put1, put2, put3]
       refine tkY 6 (.agg #[.int .i64 n, .int .i64 x]) 153 rfl rfl (fun w' hw' => ?_) hHeld ?_
       ·go_simp
       try simp only [Act.put, put1, put2, put3]
       refine wpAnyH_ready (rs := [7]) (by kernel_rfl) (by simp) ?_
       refine AllReadyH.cons rfl (fun K hK => ?_) AllReadyH.nil
       go_simp
       have h6 := h5.alloc hcw (.cells #[.int .i64 n, .int .i64 x] 132)
       clear y0 y1 y2 y3 y4 y5 y6 y7 xf
       have xf := fun j => frozen_of_row _ G j _ _ (h6.box)
       obtain ⟨y0, y1, y2, y3, y4, y5, y6, y7⟩ := cells8 (box_cells (h6.box))
       refine hK.out _ _ (trivial) (fun hHeld => ?_)
       clear hK K
       try simp only [Act.put, put1, put2, put3]
       obtain ⟨v8, w8, r8, hb8, ⟨a8, q8, rfl⟩, h8⟩ := h6.push (P := Tryz.prog) (t := 28) (ty := 28) (cp := 1) (y := (n, x)) hcw 6 (fun fp h => lens_exts h) (fun v => rfl) i6 _ 16 Tryz.underlying28 hi6 hz60 hz61 hz62 rfl (by decide) (Cells.new w9 [.int .i64 n, .int .i64 x] 132) ⟨⟨rfl, hn, ⟨by omega, by omega⟩⟩, rfl⟩ (by omega) (by omega)
       clear y0 y1 y2 y3 y4 y5 y6 y7 xf
       have xf := fun j => frozen_of_row _ G j _ _ (hb8)
       obtain ⟨y0, y1, y2, y3, y4, y5, y6, y7⟩ := cells8 (box_cells (hb8))
       have H8 := Lib.hid (h8.fin (N' := N + 6000) hcw (by omega) (wee_same hsm hpr rfl))
       clear h5 h6 h8 hb8
       refine wpAnyH_ready (rs := [8]) (by kernel_rfl) (by simp) ?_
       refine AllReadyH.cons rfl (fun K hK => ?_) AllReadyH.nil
       refine step_append_of rfl _ _ rfl rfl rfl r8 ?_
       refine hK.out _ _ (trivial) (fun hHeld => ?_)
       clear hK K
       try simp only [Act.put, put1, put2, put3]
       refine takeD (i := 8 + 1) (v := .pointer (some ⟨G, 6, none⟩)) (some 156) rfl rfl (by kernel_rfl) (by kernel_rfl) (by kernel_rfl) (fun _ _ _ h => h) (Or.inl ⟨by rfl, fun w' hw' => ?_⟩) hHeld ?_
       ·go_simp
       try simp only [Act.put, put1, put2, put3]
       refine wpAnyH_ready (rs := [10]) (by kernel_rfl) (by simp) ?_
       refine AllReadyH.cons rfl (fun K hK => ?_) AllReadyH.nil
       go_simp
       refine hK.out _ _ (trivial) (fun hHeld => ?_)
       clear hK K
       try simp only [Act.put, put1, put2, put3]
       refine wpAnyH_done (by kernel_rfl) ?_ _
       go_wp2_with fail
       go_meet
       exact ⟨rfl, rfl, _, _, H8.out⟩
      ·skip
       go_simp
       refine (pick_calls c (N + 5005) 4 _ h5.cur (by omega) ⟨by omega, by omega⟩).mono ?_
       rintro e9 w9 ⟨x, ⟨hx0, hx1, _⟩, rfl, hc9, hw9⟩
       have hx1 := hx1 (by omega)
       have h9 := h5.pick hcw hw9 hc9
       clear h5 y0 y1 y2 y3 y4 y5 y6 y7 xf hc9 hw9
       have h5 := h9
       clear h9
       have xf := fun j => frozen_of_row _ G j _ _ (h5.box)
       obtain ⟨y0, y1, y2, y3, y4, y5, y6, y7⟩ := cells8 (box_cells (h5.box))
       refine hK.out _ _ (trivial) (fun hHeld => ?_)
       clear hK K
       try simp only [Act.put, put1, put2, put3]
       refine tkY 6 (.agg #[.int .i64 n, .int .i64 x]) 153 rfl rfl (fun w' hw' => ?_) hHeld ?_
       ·go_simp
       try simp only [Act.put, put1, put2, put3]
       refine wpAnyH_ready (rs := [1, 7]) (by kernel_rfl) (by simp) ?_
       refine AllReadyH.cons rfl (fun K hK => ?_) (AllReadyH.cons rfl (fun K hK => ?_) AllReadyH.nil)
       ·skip
        go_simp
        refine hK.out _ _ (trivial) (fun hHeld => ?_)
        clear hK K
        try simp only [Act.put, put1, put2, put3]
        refine wpAnyH_ready (rs := [7]) (by kernel_rfl) (by simp) ?_
        refine AllReadyH.cons rfl (fun K hK => ?_) AllReadyH.nil
        go_simp
        have h6 := h5.alloc hcw (.cells #[.int .i64 n, .int .i64 x] 132)
        clear y0 y1 y2 y3 y4 y5 y6 y7 xf
        have xf := fun j => frozen_of_row _ G j _ _ (h6.box)
        obtain ⟨y0, y1, y2, y3, y4, y5, y6, y7⟩ := cells8 (box_cells (h6.box))
        refine hK.out _ _ (trivial) (fun hHeld => ?_)
        clear hK K
        try simp only [Act.put, put1, put2, put3]
        obtain ⟨v8, w8, r8, hb8, ⟨a8, q8, rfl⟩, h8⟩ := h6.push (P := Tryz.prog) (t := 28) (ty := 28) (cp := 1) (y := (n, x)) hcw 6 (fun fp h => lens_exts h) (fun v => rfl) i6 _ 16 Tryz.underlying28 hi6 hz60 hz61 hz62 rfl (by decide) (Cells.new w9 [.int .i64 n, .int .i64 x] 132) ⟨⟨rfl, hn, ⟨by omega, by omega⟩⟩, rfl⟩ (by omega) (by omega)
        clear y0 y1 y2 y3 y4 y5 y6 y7 xf
        have xf := fun j => frozen_of_row _ G j _ _ (hb8)
        obtain ⟨y0, y1, y2, y3, y4, y5, y6, y7⟩ := cells8 (box_cells (hb8))
        have H8 := Lib.hid (h8.fin (N' := N + 6000) hcw (by omega) (wee_same hsm hpr rfl))
        clear h5 h6 h8 hb8
        refine wpAnyH_ready (rs := [8]) (by kernel_rfl) (by simp) ?_
        refine AllReadyH.cons rfl (fun K hK => ?_) AllReadyH.nil
        refine step_append_of rfl _ _ rfl rfl rfl r8 ?_
        refine hK.out _ _ (trivial) (fun hHeld => ?_)
        clear hK K
        try simp only [Act.put, put1, put2, put3]
        refine takeD (i := 8 + 1) (v := .pointer (some ⟨G, 6, none⟩)) (some 156) rfl rfl (by kernel_rfl) (by kernel_rfl) (by kernel_rfl) (fun _ _ _ h => h) (Or.inl ⟨by rfl, fun w' hw' => ?_⟩) hHeld ?_
        ·go_simp
        try simp only [Act.put, put1, put2, put3]
        refine wpAnyH_ready (rs := [10]) (by kernel_rfl) (by simp) ?_
        refine AllReadyH.cons rfl (fun K hK => ?_) AllReadyH.nil
        go_simp
        refine hK.out _ _ (trivial) (fun hHeld => ?_)
        clear hK K
        try simp only [Act.put, put1, put2, put3]
        refine wpAnyH_done (by kernel_rfl) ?_ _
        go_wp2_with fail
        go_meet
        exact ⟨rfl, rfl, _, _, H8.out⟩
       ·skip
        go_simp
        have h6 := h5.alloc hcw (.cells #[.int .i64 n, .int .i64 x] 132)
        clear y0 y1 y2 y3 y4 y5 y6 y7 xf
        have xf := fun j => frozen_of_row _ G j _ _ (h6.box)
        obtain ⟨y0, y1, y2, y3, y4, y5, y6, y7⟩ := cells8 (box_cells (h6.box))
        refine hK.out _ _ (trivial) (fun hHeld => ?_)
        clear hK K
        try simp only [Act.put, put1, put2, put3]
        refine wpAnyH_ready (rs := [1]) (by kernel_rfl) (by simp) ?_
        refine AllReadyH.cons rfl (fun K hK => ?_) AllReadyH.nil
        go_simp
        refine hK.out _ _ (trivial) (fun hHeld => ?_)
        clear hK K
        try simp only [Act.put, put1, put2, put3]
        obtain ⟨v8, w8, r8, hb8, ⟨a8, q8, rfl⟩, h8⟩ := h6.push (P := Tryz.prog) (t := 28) (ty := 28) (cp := 1) (y := (n, x)) hcw 6 (fun fp h => lens_exts h) (fun v => rfl) i6 _ 16 Tryz.underlying28 hi6 hz60 hz61 hz62 rfl (by decide) (Cells.new w9 [.int .i64 n, .int .i64 x] 132) ⟨⟨rfl, hn, ⟨by omega, by omega⟩⟩, rfl⟩ (by omega) (by omega)
        clear y0 y1 y2 y3 y4 y5 y6 y7 xf
        have xf := fun j => frozen_of_row _ G j _ _ (hb8)
        obtain ⟨y0, y1, y2, y3, y4, y5, y6, y7⟩ := cells8 (box_cells (hb8))
        have H8 := Lib.hid (h8.fin (N' := N + 6000) hcw (by omega) (wee_same hsm hpr rfl))
        clear h5 h6 h8 hb8
        refine wpAnyH_ready (rs := [8]) (by kernel_rfl) (by simp) ?_
        refine AllReadyH.cons rfl (fun K hK => ?_) AllReadyH.nil
        refine step_append_of rfl _ _ rfl rfl rfl r8 ?_
        refine hK.out _ _ (trivial) (fun hHeld => ?_)
        clear hK K
        try simp only [Act.put, put1, put2, put3]
        refine takeD (i := 8 + 1) (v := .pointer (some ⟨G, 6, none⟩)) (some 156) rfl rfl (by kernel_rfl) (by kernel_rfl) (by kernel_rfl) (fun _ _ _ h => h) (Or.inl ⟨by rfl, fun w' hw' => ?_⟩) hHeld ?_
        ·go_simp
        try simp only [Act.put, put1, put2, put3]
        refine wpAnyH_ready (rs := [10]) (by kernel_rfl) (by simp) ?_
        refine AllReadyH.cons rfl (fun K hK => ?_) AllReadyH.nil
        go_simp
        refine hK.out _ _ (trivial) (fun hHeld => ?_)
        clear hK K
        try simp only [Act.put, put1, put2, put3]
        refine wpAnyH_done (by kernel_rfl) ?_ _
        go_wp2_with fail
        go_meet
        exact ⟨rfl, rfl, _, _, H8.out⟩
   by_cases e1 : r = 1
   ·subst e1
    as_aux_lemma =>
     obtain ⟨g9, cap9, cur9, e9, al, ql, hv, hh, hsz, hx, hgc, hR⟩ := h4.heads (P := Tryz.prog) hcw hk
     obtain ⟨hv1, hv2⟩ : g = g9 ∧ cap = cap9 := by
      injection hv with hva _ hvq
      injection hva with hva
      injection hva with hva
      exact ⟨hva, hvq⟩
     subst hv1
     subst hv2
     have hlh := (sm_nth hsm hk).1
     have lx : w4.cell? ⟨g, k * 5 + 1, none⟩ = _ := (cell_of_row _ g _ _ _ _ hh).trans hx
     go_upto_region 11 with fail
     refine wp_region_held_drew (S := fun wo => wo.cell? ⟨G, 1, none⟩ = some (.slice (some ⟨g, 0, none⟩) p.rules.length cap)) (by kernel_rfl) (by first | exact y1 | (go_simp; done)) (fun hHeld => ?_)
     refine tkY 0 (.pointer (some ⟨G, 1, none⟩)) 39 rfl rfl (fun w' hw' => ?_) hHeld ?_
     ·go_simp
     try simp only [Act.put, put1, put2, put3]
     refine tkY 1 (.slice (some ⟨g, 0, none⟩) p.rules.length cap) 40 rfl rfl (fun w' hw' => ?_) hHeld ?_
     ·go_simp
     try simp only [Act.put, put1, put2, put3]
     refine tkY 2 (.int .i64 (k : Int)) 41 rfl rfl (fun w' hw' => ?_) hHeld ?_
     ·go_simp
     try simp only [Act.put, put1, put2, put3]
     refine tkY 3 (.pointer (some ⟨G, 1, none⟩)) 42 rfl rfl (fun w' hw' => ?_) hHeld ?_
     ·go_simp
     try simp only [Act.put, put1, put2, put3]
     refine tkY 4 (.slice (some ⟨g, 0, none⟩) p.rules.length cap) 43 rfl rfl (fun w' hw' => ?_) hHeld ?_
     ·go_simp
     try simp only [Act.put, put1, put2, put3]
     refine tkY 5 (.int .i64 (k : Int)) 44 rfl rfl (fun w' hw' => ?_) hHeld ?_
     ·go_simp
     try simp only [Act.put, put1, put2, put3]
     refine tkY 6 (.pointer (some ⟨g, k * 5, none⟩)) 45 rfl rfl (fun w' hw' => ?_) hHeld ?_
     ·go_simp
     try simp only [Act.put, put1, put2, put3]
     refine tkY 7 (.pointer (some ⟨g, k * 5 + 1, none⟩)) 46 rfl rfl (fun w' hw' => ?_) hHeld ?_
     ·go_simp
     try simp only [Act.put, put1, put2, put3]
     refine tkY 9 (.pointer (some ⟨c, 0, none⟩)) 48 rfl rfl (fun w' hw' => ?_) hHeld ?_
     ·go_simp
     try simp only [Act.put, put1, put2, put3]
     refine wpAnyH_ready (rs := [8, 10]) (by kernel_rfl) (by simp) ?_
     refine AllReadyH.cons rfl (fun K hK => ?_) (AllReadyH.cons rfl (fun K hK => ?_) AllReadyH.nil)
     ·skip
      go_simp
      refine hK.out _ _ (by first | exact y1 | exact sE | (go_simp; done)) (fun hHeld => ?_)
      clear hK K
      try simp only [Act.put, put1, put2, put3]
      refine wpAnyH_ready (rs := [10]) (by kernel_rfl) (by simp) ?_
      refine AllReadyH.cons rfl (fun K hK => ?_) AllReadyH.nil
      go_simp
      refine (raw_calls c (N + 5003) w4.drew (h4.cur.kept (Below.refl _ _).drew) (by omega)).mono ?_
      rintro e5 w5 ⟨n, hn, rfl, hc5, hw5⟩
      have hW5 : Wrote c w4 w5 := ((Wrote.refl c _).drewN 1).trans hw5
      have h5 := h4.pick hcw hW5 hc5
      have hg5 := (Cg.wrote (S := fun x => x = c) hW5 rfl).at hh hgc.1
      clear y0 y1 y2 y3 y4 y5 y6 y7 xf lx
      obtain ⟨y0, y1, y2, y3, y4, y5, y6, y7⟩ := cells8 (box_cells h5.box)
      have lx : w5.cell? ⟨g, k * 5 + 1, none⟩ = _ := (cell_of_row _ g _ _ _ _ hg5).trans hx
      refine hK.out _ _ (by first | exact y1 | exact sE | (go_simp; done)) (fun hHeld => ?_)
      clear hK K
      try simp only [Act.put, put1, put2, put3]
      refine wpAnyH_ready (rs := [11]) (by kernel_rfl) (by simp) ?_
      refine AllReadyH.cons rfl (fun K hK => ?_) AllReadyH.nil
      go_simp
      have hg6 := (Cg.alloc (Cg.refl (fun _ => False) w5) (.cells #[.int .i64 n] 3)).at hg5 (fun h => h)
      have h6 := h5.alloc hcw (.cells #[.int .i64 n] 3)
      have hC6 : Cg (fun x => x = c) w4 (w5.alloc (.cells #[.int .i64 n] 3)) := (Cg.wrote (S := fun x => x = c) hW5 rfl).alloc _
      clear y0 y1 y2 y3 y4 y5 y6 y7 lx
      obtain ⟨y0, y1, y2, y3, y4, y5, y6, y7⟩ := cells8 (box_cells h6.box)
      have lx : World.cell? (w5.alloc (.cells #[.int .i64 n] 3)) ⟨g, k * 5 + 1, none⟩ = _ := (cell_of_row _ g _ _ _ _ hg6).trans hx
      refine hK.out _ _ (by first | exact y1 | exact sE | (go_simp; done)) (fun hHeld => ?_)
      clear hK K
      try simp only [Act.put, put1, put2, put3]
      obtain ⟨v8, w8, r8, ⟨a8, q8, rfl⟩, rg, rG, h8⟩ := hR _ _ n [.int .i64 n] w5.heap.size 1 26 26 _ i7 _ 8 Tryz.underlying26 hi7 hz70 hz71 hz72 rfl (by decide) hC6 h6.cur (Cells.new w5 [.int .i64 n] 3) ⟨⟨rfl, hn⟩, rfl⟩ (by omega) (by omega)
      clear y0 y1 y2 y3 y4 y5 y6 y7 lx
      obtain ⟨y0, y1, y2, y3, y4, y5, y6, y7⟩ := cells8 (box_cells rG)
      have lx : w8.cell? ⟨g, k * 5 + 1, none⟩ = _ := (cell_of_row _ g _ _ _ _ rg).trans hx
      have xg := fun j => frozen_of_row w8 g j _ _ rg
      have sE := (cells8 (box_cells h8.box)).2.1
      have H8 := Lib.hid (h8.fin (N' := N + 6000) hcw (by omega) (wee_set hsm hpr rfl (by have := sm_nth hsm hk; unfold SmR at this; (try simp only [List.length_append, List.length_singleton]); (try dsimp only); omega)))
      clear h5 h6 h8 rG rg
      refine wpAnyH_ready (rs := [12]) (by kernel_rfl) (by simp) ?_
      refine AllReadyH.cons rfl (fun K hK => ?_) AllReadyH.nil
      refine step_append_of rfl _ _ rfl rfl rfl r8 ?_
      refine hK.out _ _ (by first | exact y1 | exact sE | (go_simp; done)) (fun hHeld => ?_)
      clear hK K
      try simp only [Act.put, put1, put2, put3]
      refine tkY 13 (.pointer (some ⟨g, k * 5, none⟩)) 52 rfl rfl (fun w' hw' => ?_) hHeld ?_
      ·go_simp
      try simp only [Act.put, put1, put2, put3]
      refine tkY 14 (.pointer (some ⟨g, k * 5 + 1, none⟩)) 53 rfl rfl (fun w' hw' => ?_) hHeld ?_
      ·go_simp
      try simp only [Act.put, put1, put2, put3]
      refine wpAnyH_ready (rs := [15]) (by kernel_rfl) (by simp) ?_
      refine AllReadyH.cons rfl (fun K hK => ?_) AllReadyH.nil
      go_simp
      refine hK.out _ _ (by first | exact y1 | exact sE | (go_simp; done)) (fun hHeld => ?_)
      clear hK K
      try simp only [Act.put, put1, put2, put3]
      refine wpAnyH_done (by kernel_rfl) ?_ _
      go_wp2_with fail
      go_meet
      exact ⟨rfl, rfl, _, _, H8.out⟩
     ·skip
      go_simp
      refine (raw_calls c (N + 5003) w4.drew (h4.cur.kept (Below.refl _ _).drew) (by omega)).mono ?_
      rintro e5 w5 ⟨n, hn, rfl, hc5, hw5⟩
      have hW5 : Wrote c w4 w5 := ((Wrote.refl c _).drewN 1).trans hw5
      have h5 := h4.pick hcw hW5 hc5
      have hg5 := (Cg.wrote (S := fun x => x = c) hW5 rfl).at hh hgc.1
      clear y0 y1 y2 y3 y4 y5 y6 y7 xf lx
      obtain ⟨y0, y1, y2, y3, y4, y5, y6, y7⟩ := cells8 (box_cells h5.box)
      have lx : w5.cell? ⟨g, k * 5 + 1, none⟩ = _ := (cell_of_row _ g _ _ _ _ hg5).trans hx
      refine hK.out _ _ (by first | exact y1 | exact sE | (go_simp; done)) (fun hHeld => ?_)
      clear hK K
      try simp only [Act.put, put1, put2, put3]
      refine wpAnyH_ready (rs := [8, 11]) (by kernel_rfl) (by simp) ?_
      refine AllReadyH.cons rfl (fun K hK => ?_) (AllReadyH.cons rfl (fun K hK => ?_) AllReadyH.nil)
      ·skip
       go_simp
       refine hK.out _ _ (by first | exact y1 | exact sE | (go_simp; done)) (fun hHeld => ?_)
       clear hK K
       try simp only [Act.put, put1, put2, put3]
       refine wpAnyH_ready (rs := [11]) (by kernel_rfl) (by simp) ?_
       refine AllReadyH.cons rfl (fun K hK => ?_) AllReadyH.nil
       go_simp
       have hg6 := (Cg.alloc (Cg.refl (fun _ => False) w5) (.cells #[.int .i64 n] 3)).at hg5 (fun h => h)
       have h6 := h5.alloc hcw (.cells #[.int .i64 n] 3)
       have hC6 : Cg (fun x => x = c) w4 (w5.alloc (.cells #[.int .i64 n] 3)) := (Cg.wrote (S := fun x => x = c) hW5 rfl).alloc _
       clear y0 y1 y2 y3 y4 y5 y6 y7 lx
       obtain ⟨y0, y1, y2, y3, y4, y5, y6, y7⟩ := cells8 (box_cells h6.box)
       have lx : World.cell? (w5.alloc (.cells #[.int .i64 n] 3)) ⟨g, k * 5 + 1, none⟩ = _ := (cell_of_row _ g _ _ _ _ hg6).trans hx
       refine hK.out _ _ (by first | exact y1 | exact sE | (go_simp; done)) (fun hHeld => ?_)
       clear hK K
       try simp only [Act.put, put1, put2, put3]
       obtain ⟨v8, w8, r8, ⟨a8, q8, rfl⟩, rg, rG, h8⟩ := hR _ _ n [.int .i64 n] w5.heap.size 1 26 26 _ i7 _ 8 Tryz.underlying26 hi7 hz70 hz71 hz72 rfl (by decide) hC6 h6.cur (Cells.new w5 [.int .i64 n] 3) ⟨⟨rfl, hn⟩, rfl⟩ (by omega) (by omega)
       clear y0 y1 y2 y3 y4 y5 y6 y7 lx
       obtain ⟨y0, y1, y2, y3, y4, y5, y6, y7⟩ := cells8 (box_cells rG)
       have lx : w8.cell? ⟨g, k * 5 + 1, none⟩ = _ := (cell_of_row _ g _ _ _ _ rg).trans hx
       have xg := fun j => frozen_of_row w8 g j _ _ rg
       have sE := (cells8 (box_cells h8.box)).2.1
       have H8 := Lib.hid (h8.fin (N' := N + 6000) hcw (by omega) (wee_set hsm hpr rfl (by have := sm_nth hsm hk; unfold SmR at this; (try simp only [List.length_append, List.length_singleton]); (try dsimp only); omega)))
       clear h5 h6 h8 rG rg
       refine wpAnyH_ready (rs := [12]) (by kernel_rfl) (by simp) ?_
       refine AllReadyH.cons rfl (fun K hK => ?_) AllReadyH.nil
       refine step_append_of rfl _ _ rfl rfl rfl r8 ?_
       refine hK.out _ _ (by first | exact y1 | exact sE | (go_simp; done)) (fun hHeld => ?_)
       clear hK K
       try simp only [Act.put, put1, put2, put3]
       refine tkY 13 (.pointer (some ⟨g, k * 5, none⟩)) 52 rfl rfl (fun w' hw' => ?_) hHeld ?_
       ·go_simp
       try simp only [Act.put, put1, put2, put3]
       refine tkY 14 (.pointer (some ⟨g, k * 5 + 1, none⟩)) 53 rfl rfl (fun w' hw' => ?_) hHeld ?_
       ·go_simp
       try simp only [Act.put, put1, put2, put3]
       refine wpAnyH_ready (rs := [15]) (by kernel_rfl) (by simp) ?_
       refine AllReadyH.cons rfl (fun K hK => ?_) AllReadyH.nil
       go_simp
       refine hK.out _ _ (by first | exact y1 | exact sE | (go_simp; done)) (fun hHeld => ?_)
       clear hK K
       try simp only [Act.put, put1, put2, put3]
       refine wpAnyH_done (by kernel_rfl) ?_ _
       go_wp2_with fail
       go_meet
       exact ⟨rfl, rfl, _, _, H8.out⟩
      ·skip
       go_simp
       have hg6 := (Cg.alloc (Cg.refl (fun _ => False) w5) (.cells #[.int .i64 n] 3)).at hg5 (fun h => h)
       have h6 := h5.alloc hcw (.cells #[.int .i64 n] 3)
       have hC6 : Cg (fun x => x = c) w4 (w5.alloc (.cells #[.int .i64 n] 3)) := (Cg.wrote (S := fun x => x = c) hW5 rfl).alloc _
       clear y0 y1 y2 y3 y4 y5 y6 y7 lx
       obtain ⟨y0, y1, y2, y3, y4, y5, y6, y7⟩ := cells8 (box_cells h6.box)
       have lx : World.cell? (w5.alloc (.cells #[.int .i64 n] 3)) ⟨g, k * 5 + 1, none⟩ = _ := (cell_of_row _ g _ _ _ _ hg6).trans hx
       refine hK.out _ _ (by first | exact y1 | exact sE | (go_simp; done)) (fun hHeld => ?_)
       clear hK K
       try simp only [Act.put, put1, put2, put3]
       refine wpAnyH_ready (rs := [8]) (by kernel_rfl) (by simp) ?_
       refine AllReadyH.cons rfl (fun K hK => ?_) AllReadyH.nil
       go_simp
       refine hK.out _ _ (by first | exact y1 | exact sE | (go_simp; done)) (fun hHeld => ?_)
       clear hK K
       try simp only [Act.put, put1, put2, put3]
       obtain ⟨v8, w8, r8, ⟨a8, q8, rfl⟩, rg, rG, h8⟩ := hR _ _ n [.int .i64 n] w5.heap.size 1 26 26 _ i7 _ 8 Tryz.underlying26 hi7 hz70 hz71 hz72 rfl (by decide) hC6 h6.cur (Cells.new w5 [.int .i64 n] 3) ⟨⟨rfl, hn⟩, rfl⟩ (by omega) (by omega)
       clear y0 y1 y2 y3 y4 y5 y6 y7 lx
       obtain ⟨y0, y1, y2, y3, y4, y5, y6, y7⟩ := cells8 (box_cells rG)
       have lx : w8.cell? ⟨g, k * 5 + 1, none⟩ = _ := (cell_of_row _ g _ _ _ _ rg).trans hx
       have xg := fun j => frozen_of_row w8 g j _ _ rg
       have sE := (cells8 (box_cells h8.box)).2.1
       have H8 := Lib.hid (h8.fin (N' := N + 6000) hcw (by omega) (wee_set hsm hpr rfl (by have := sm_nth hsm hk; unfold SmR at this; (try simp only [List.length_append, List.length_singleton]); (try dsimp only); omega)))
       clear h5 h6 h8 rG rg
       refine wpAnyH_ready (rs := [12]) (by kernel_rfl) (by simp) ?_
       refine AllReadyH.cons rfl (fun K hK => ?_) AllReadyH.nil
       refine step_append_of rfl _ _ rfl rfl rfl r8 ?_
       refine hK.out _ _ (by first | exact y1 | exact sE | (go_simp; done)) (fun hHeld => ?_)
       clear hK K
       try simp only [Act.put, put1, put2, put3]
       refine tkY 13 (.pointer (some ⟨g, k * 5, none⟩)) 52 rfl rfl (fun w' hw' => ?_) hHeld ?_
       ·go_simp
       try simp only [Act.put, put1, put2, put3]
       refine tkY 14 (.pointer (some ⟨g, k * 5 + 1, none⟩)) 53 rfl rfl (fun w' hw' => ?_) hHeld ?_
       ·go_simp
       try simp only [Act.put, put1, put2, put3]
       refine wpAnyH_ready (rs := [15]) (by kernel_rfl) (by simp) ?_
       refine AllReadyH.cons rfl (fun K hK => ?_) AllReadyH.nil
       go_simp
       refine hK.out _ _ (by first | exact y1 | exact sE | (go_simp; done)) (fun hHeld => ?_)
       clear hK K
       try simp only [Act.put, put1, put2, put3]
       refine wpAnyH_done (by kernel_rfl) ?_ _
       go_wp2_with fail
       go_meet
       exact ⟨rfl, rfl, _, _, H8.out⟩
   by_cases e3 : r = 3
   ·subst e3
    as_aux_lemma =>
     obtain ⟨g9, cap9, cur9, e9, al, ql, hv, hh, hsz, hx, hgc, hR⟩ := h4.body (P := Tryz.prog) hcw hk
     obtain ⟨hv1, hv2⟩ : g = g9 ∧ cap = cap9 := by
      injection hv with hva _ hvq
      injection hva with hva
      injection hva with hva
      exact ⟨hva, hvq⟩
     subst hv1
     subst hv2
     have hlh := (sm_nth hsm hk).2
     have lx : w4.cell? ⟨g, k * 5 + 4, none⟩ = _ := (cell_of_row _ g _ _ _ _ hh).trans hx
     go_upto_region 15 with fail
     refine wp_region_held_drew (S := fun wo => wo.cell? ⟨G, 1, none⟩ = some (.slice (some ⟨g, 0, none⟩) p.rules.length cap)) (by kernel_rfl) (by first | exact y1 | (go_simp; done)) (fun hHeld => ?_)
     refine tkY 0 (.pointer (some ⟨G, 1, none⟩)) 65 rfl rfl (fun w' hw' => ?_) hHeld ?_
     ·go_simp
     try simp only [Act.put, put1, put2, put3]
     refine tkY 1 (.slice (some ⟨g, 0, none⟩) p.rules.length cap) 66 rfl rfl (fun w' hw' => ?_) hHeld ?_
     ·go_simp
     try simp only [Act.put, put1, put2, put3]
     refine tkY 2 (.int .i64 (k : Int)) 67 rfl rfl (fun w' hw' => ?_) hHeld ?_
     ·go_simp
     try simp only [Act.put, put1, put2, put3]
     refine tkY 3 (.pointer (some ⟨G, 1, none⟩)) 68 rfl rfl (fun w' hw' => ?_) hHeld ?_
     ·go_simp
     try simp only [Act.put, put1, put2, put3]
     refine tkY 4 (.slice (some ⟨g, 0, none⟩) p.rules.length cap) 69 rfl rfl (fun w' hw' => ?_) hHeld ?_
     ·go_simp
     try simp only [Act.put, put1, put2, put3]
     refine tkY 5 (.int .i64 (k : Int)) 70 rfl rfl (fun w' hw' => ?_) hHeld ?_
     ·go_simp
     try simp only [Act.put, put1, put2, put3]
     refine tkY 6 (.pointer (some ⟨g, k * 5, none⟩)) 71 rfl rfl (fun w' hw' => ?_) hHeld ?_
     ·go_simp
     try simp only [Act.put, put1, put2, put3]
     refine tkY 7 (.pointer (some ⟨g, k * 5 + 4, none⟩)) 72 rfl rfl (fun w' hw' => ?_) hHeld ?_
     ·go_simp
     try simp only [Act.put, put1, put2, put3]
     refine tkY 9 (.pointer (some ⟨c, 0, none⟩)) 74 rfl rfl (fun w' hw' => ?_) hHeld ?_
     ·go_simp
     try simp only [Act.put, put1, put2, put3]
     refine wpAnyH_ready (rs := [8, 10]) (by kernel_rfl) (by simp) ?_
     refine AllReadyH.cons rfl (fun K hK => ?_) (AllReadyH.cons rfl (fun K hK => ?_) AllReadyH.nil)
     ·skip
      go_simp
      refine hK.out _ _ (by first | exact y1 | exact sE | (go_simp; done)) (fun hHeld => ?_)
      clear hK K
      try simp only [Act.put, put1, put2, put3]
      refine wpAnyH_ready (rs := [10]) (by kernel_rfl) (by simp) ?_
      refine AllReadyH.cons rfl (fun K hK => ?_) AllReadyH.nil
      go_simp
      refine (raw_calls c (N + 5003) w4.drew (h4.cur.kept (Below.refl _ _).drew) (by omega)).mono ?_
      rintro e5 w5 ⟨n, hn, rfl, hc5, hw5⟩
      have hW5 : Wrote c w4 w5 := ((Wrote.refl c _).drewN 1).trans hw5
      have h5 := h4.pick hcw hW5 hc5
      have hg5 := (Cg.wrote (S := fun x => x = c) hW5 rfl).at hh hgc.1
      clear y0 y1 y2 y3 y4 y5 y6 y7 xf lx
      obtain ⟨y0, y1, y2, y3, y4, y5, y6, y7⟩ := cells8 (box_cells h5.box)
      have lx : w5.cell? ⟨g, k * 5 + 4, none⟩ = _ := (cell_of_row _ g _ _ _ _ hg5).trans hx
      refine hK.out _ _ (by first | exact y1 | exact sE | (go_simp; done)) (fun hHeld => ?_)
      clear hK K
      try simp only [Act.put, put1, put2, put3]
      refine tkY 11 (.agg #[.int .i64 n, .int .i64 1]) 76 rfl rfl (fun w' hw' => ?_) hHeld ?_
      ·go_simp
      try simp only [Act.put, put1, put2, put3]
      refine wpAnyH_ready (rs := [12]) (by kernel_rfl) (by simp) ?_
      refine AllReadyH.cons rfl (fun K hK => ?_) AllReadyH.nil
      go_simp
      have hg6 := (Cg.alloc (Cg.refl (fun _ => False) w5) (.cells #[.int .i64 n, .int .i64 1] 94)).at hg5 (fun h => h)
      have h6 := h5.alloc hcw (.cells #[.int .i64 n, .int .i64 1] 94)
      have hC6 : Cg (fun x => x = c) w4 (w5.alloc (.cells #[.int .i64 n, .int .i64 1] 94)) := (Cg.wrote (S := fun x => x = c) hW5 rfl).alloc _
      clear y0 y1 y2 y3 y4 y5 y6 y7 lx
      obtain ⟨y0, y1, y2, y3, y4, y5, y6, y7⟩ := cells8 (box_cells h6.box)
      have lx : World.cell? (w5.alloc (.cells #[.int .i64 n, .int .i64 1] 94)) ⟨g, k * 5 + 4, none⟩ = _ := (cell_of_row _ g _ _ _ _ hg6).trans hx
      refine hK.out _ _ (by first | exact y1 | exact sE | (go_simp; done)) (fun hHeld => ?_)
      clear hK K
      try simp only [Act.put, put1, put2, put3]
      obtain ⟨v8, w8, r8, ⟨a8, q8, rfl⟩, rg, rG, h8⟩ := hR _ _ (n, 1) [.int .i64 n, .int .i64 1] w5.heap.size 1 32 32 _ i9 _ 16 Tryz.underlying32 hi9 hz90 hz91 hz92 rfl (by decide) hC6 h6.cur (Cells.new w5 [.int .i64 n, .int .i64 1] 94) ⟨⟨rfl, hn, ⟨by omega, by omega⟩⟩, rfl⟩ (by omega) (by omega)
      clear y0 y1 y2 y3 y4 y5 y6 y7 lx
      obtain ⟨y0, y1, y2, y3, y4, y5, y6, y7⟩ := cells8 (box_cells rG)
      have lx : w8.cell? ⟨g, k * 5 + 4, none⟩ = _ := (cell_of_row _ g _ _ _ _ rg).trans hx
      have xg := fun j => frozen_of_row w8 g j _ _ rg
      have sE := (cells8 (box_cells h8.box)).2.1
      have H8 := Lib.hid (h8.fin (N' := N + 6000) hcw (by omega) (wee_set hsm hpr rfl (by have := sm_nth hsm hk; unfold SmR at this; (try simp only [List.length_append, List.length_singleton]); (try dsimp only); omega)))
      clear h5 h6 h8 rG rg
      refine wpAnyH_ready (rs := [13]) (by kernel_rfl) (by simp) ?_
      refine AllReadyH.cons rfl (fun K hK => ?_) AllReadyH.nil
      refine step_append_of rfl _ _ rfl rfl rfl r8 ?_
      refine hK.out _ _ (by first | exact y1 | exact sE | (go_simp; done)) (fun hHeld => ?_)
      clear hK K
      try simp only [Act.put, put1, put2, put3]
      refine tkY 14 (.pointer (some ⟨g, k * 5, none⟩)) 79 rfl rfl (fun w' hw' => ?_) hHeld ?_
      ·go_simp
      try simp only [Act.put, put1, put2, put3]
      refine tkY 15 (.pointer (some ⟨g, k * 5 + 4, none⟩)) 80 rfl rfl (fun w' hw' => ?_) hHeld ?_
      ·go_simp
      try simp only [Act.put, put1, put2, put3]
      refine wpAnyH_ready (rs := [16]) (by kernel_rfl) (by simp) ?_
      refine AllReadyH.cons rfl (fun K hK => ?_) AllReadyH.nil
      go_simp
      refine hK.out _ _ (by first | exact y1 | exact sE | (go_simp; done)) (fun hHeld => ?_)
      clear hK K
      try simp only [Act.put, put1, put2, put3]
      refine wpAnyH_done (by kernel_rfl) ?_ _
      go_wp2_with fail
      go_meet
      exact ⟨rfl, rfl, _, _, H8.out⟩
     ·skip
      go_simp
      refine (raw_calls c (N + 5003) w4.drew (h4.cur.kept (Below.refl _ _).drew) (by omega)).mono ?_
      rintro e5 w5 ⟨n, hn, rfl, hc5, hw5⟩
      have hW5 : Wrote c w4 w5 := ((Wrote.refl c _).drewN 1).trans hw5
      have h5 := h4.pick hcw hW5 hc5
      have hg5 := (Cg.wrote (S := fun x => x = c) hW5 rfl).at hh hgc.1
      clear y0 y1 y2 y3 y4 y5 y6 y7 xf lx
      obtain ⟨y0, y1, y2, y3, y4, y5, y6, y7⟩ := cells8 (box_cells h5.box)
      have lx : w5.cell? ⟨g, k * 5 + 4, none⟩ = _ := (cell_of_row _ g _ _ _ _ hg5).trans hx
      refine hK.out _ _ (by first | exact y1 | exact sE | (go_simp; done)) (fun hHeld => ?_)
      clear hK K
      try simp only [Act.put, put1, put2, put3]
      refine tkY 11 (.agg #[.int .i64 n, .int .i64 1]) 76 rfl rfl (fun w' hw' => ?_) hHeld ?_
      ·go_simp
      try simp only [Act.put, put1, put2, put3]
      refine wpAnyH_ready (rs := [8, 12]) (by kernel_rfl) (by simp) ?_
      refine AllReadyH.cons rfl (fun K hK => ?_) (AllReadyH.cons rfl (fun K hK => ?_) AllReadyH.nil)
      ·skip
       go_simp
       refine hK.out _ _ (by first | exact y1 | exact sE | (go_simp; done)) (fun hHeld => ?_)
       clear hK K
       try simp only [Act.put, put1, put2, put3]
       refine wpAnyH_ready (rs := [12]) (by kernel_rfl) (by simp) ?_
       refine AllReadyH.cons rfl (fun K hK => ?_) AllReadyH.nil
       go_simp
       have hg6 := (Cg.alloc (Cg.refl (fun _ => False) w5) (.cells #[.int .i64 n, .int .i64 1] 94)).at hg5 (fun h => h)
       have h6 := h5.alloc hcw (.cells #[.int .i64 n, .int .i64 1] 94)
       have hC6 : Cg (fun x => x = c) w4 (w5.alloc (.cells #[.int .i64 n, .int .i64 1] 94)) := (Cg.wrote (S := fun x => x = c) hW5 rfl).alloc _
       clear y0 y1 y2 y3 y4 y5 y6 y7 lx
       obtain ⟨y0, y1, y2, y3, y4, y5, y6, y7⟩ := cells8 (box_cells h6.box)
       have lx : World.cell? (w5.alloc (.cells #[.int .i64 n, .int .i64 1] 94)) ⟨g, k * 5 + 4, none⟩ = _ := (cell_of_row _ g _ _ _ _ hg6).trans hx
       refine hK.out _ _ (by first | exact y1 | exact sE | (go_simp; done)) (fun hHeld => ?_)
       clear hK K
       try simp only [Act.put, put1, put2, put3]
       obtain ⟨v8, w8, r8, ⟨a8, q8, rfl⟩, rg, rG, h8⟩ := hR _ _ (n, 1) [.int .i64 n, .int .i64 1] w5.heap.size 1 32 32 _ i9 _ 16 Tryz.underlying32 hi9 hz90 hz91 hz92 rfl (by decide) hC6 h6.cur (Cells.new w5 [.int .i64 n, .int .i64 1] 94) ⟨⟨rfl, hn, ⟨by omega, by omega⟩⟩, rfl⟩ (by omega) (by omega)
       clear y0 y1 y2 y3 y4 y5 y6 y7 lx
       obtain ⟨y0, y1, y2, y3, y4, y5, y6, y7⟩ := cells8 (box_cells rG)
       have lx : w8.cell? ⟨g, k * 5 + 4, none⟩ = _ := (cell_of_row _ g _ _ _ _ rg).trans hx
       have xg := fun j => frozen_of_row w8 g j _ _ rg
       have sE := (cells8 (box_cells h8.box)).2.1
       have H8 := Lib.hid (h8.fin (N' := N + 6000) hcw (by omega) (wee_set hsm hpr rfl (by have := sm_nth hsm hk; unfold SmR at this; (try simp only [List.length_append, List.length_singleton]); (try dsimp only); omega)))
       clear h5 h6 h8 rG rg
       refine wpAnyH_ready (rs := [13]) (by kernel_rfl) (by simp) ?_
       refine AllReadyH.cons rfl (fun K hK => ?_) AllReadyH.nil
       refine step_append_of rfl _ _ rfl rfl rfl r8 ?_
       refine hK.out _ _ (by first | exact y1 | exact sE | (go_simp; done)) (fun hHeld => ?_)
       clear hK K
       try simp only [Act.put, put1, put2, put3]
       refine tkY 14 (.pointer (some ⟨g, k * 5, none⟩)) 79 rfl rfl (fun w' hw' => ?_) hHeld ?_
       ·go_simp
       try simp only [Act.put, put1, put2, put3]
       refine tkY 15 (.pointer (some ⟨g, k * 5 + 4, none⟩)) 80 rfl rfl (fun w' hw' => ?_) hHeld ?_
       ·go_simp
       try simp only [Act.put, put1, put2, put3]
       refine wpAnyH_ready (rs := [16]) (by kernel_rfl) (by simp) ?_
       refine AllReadyH.cons rfl (fun K hK => ?_) AllReadyH.nil
       go_simp
       refine hK.out _ _ (by first | exact y1 | exact sE | (go_simp; done)) (fun hHeld => ?_)
       clear hK K
       try simp only [Act.put, put1, put2, put3]
       refine wpAnyH_done (by kernel_rfl) ?_ _
       go_wp2_with fail
       go_meet
       exact ⟨rfl, rfl, _, _, H8.out⟩
      ·skip
       go_simp
       have hg6 := (Cg.alloc (Cg.refl (fun _ => False) w5) (.cells #[.int .i64 n, .int .i64 1] 94)).at hg5 (fun h => h)
       have h6 := h5.alloc hcw (.cells #[.int .i64 n, .int .i64 1] 94)
       have hC6 : Cg (fun x => x = c) w4 (w5.alloc (.cells #[.int .i64 n, .int .i64 1] 94)) := (Cg.wrote (S := fun x => x = c) hW5 rfl).alloc _
       clear y0 y1 y2 y3 y4 y5 y6 y7 lx
       obtain ⟨y0, y1, y2, y3, y4, y5, y6, y7⟩ := cells8 (box_cells h6.box)
       have lx : World.cell? (w5.alloc (.cells #[.int .i64 n, .int .i64 1] 94)) ⟨g, k * 5 + 4, none⟩ = _ := (cell_of_row _ g _ _ _ _ hg6).trans hx
       refine hK.out _ _ (by first | exact y1 | exact sE | (go_simp; done)) (fun hHeld => ?_)
       clear hK K
       try simp only [Act.put, put1, put2, put3]
       refine wpAnyH_ready (rs := [8]) (by kernel_rfl) (by simp) ?_
       refine AllReadyH.cons rfl (fun K hK => ?_) AllReadyH.nil
       go_simp
       refine hK.out _ _ (by first | exact y1 | exact sE | (go_simp; done)) (fun hHeld => ?_)
       clear hK K
       try simp only [Act.put, put1, put2, put3]
       obtain ⟨v8, w8, r8, ⟨a8, q8, rfl⟩, rg, rG, h8⟩ := hR _ _ (n, 1) [.int .i64 n, .int .i64 1] w5.heap.size 1 32 32 _ i9 _ 16 Tryz.underlying32 hi9 hz90 hz91 hz92 rfl (by decide) hC6 h6.cur (Cells.new w5 [.int .i64 n, .int .i64 1] 94) ⟨⟨rfl, hn, ⟨by omega, by omega⟩⟩, rfl⟩ (by omega) (by omega)
       clear y0 y1 y2 y3 y4 y5 y6 y7 lx
       obtain ⟨y0, y1, y2, y3, y4, y5, y6, y7⟩ := cells8 (box_cells rG)
       have lx : w8.cell? ⟨g, k * 5 + 4, none⟩ = _ := (cell_of_row _ g _ _ _ _ rg).trans hx
       have xg := fun j => frozen_of_row w8 g j _ _ rg
       have sE := (cells8 (box_cells h8.box)).2.1
       have H8 := Lib.hid (h8.fin (N' := N + 6000) hcw (by omega) (wee_set hsm hpr rfl (by have := sm_nth hsm hk; unfold SmR at this; (try simp only [List.length_append, List.length_singleton]); (try dsimp only); omega)))
       clear h5 h6 h8 rG rg
       refine wpAnyH_ready (rs := [13]) (by kernel_rfl) (by simp) ?_
       refine AllReadyH.cons rfl (fun K hK => ?_) AllReadyH.nil
       refine step_append_of rfl _ _ rfl rfl rfl r8 ?_
       refine hK.out _ _ (by first | exact y1 | exact sE | (go_simp; done)) (fun hHeld => ?_)
       clear hK K
       try simp only [Act.put, put1, put2, put3]
       refine tkY 14 (.pointer (some ⟨g, k * 5, none⟩)) 79 rfl rfl (fun w' hw' => ?_) hHeld ?_
       ·go_simp
       try simp only [Act.put, put1, put2, put3]
       refine tkY 15 (.pointer (some ⟨g, k * 5 + 4, none⟩)) 80 rfl rfl (fun w' hw' => ?_) hHeld ?_
       ·go_simp
       try simp only [Act.put, put1, put2, put3]
       refine wpAnyH_ready (rs := [16]) (by kernel_rfl) (by simp) ?_
       refine AllReadyH.cons rfl (fun K hK => ?_) AllReadyH.nil
       go_simp
       refine hK.out _ _ (by first | exact y1 | exact sE | (go_simp; done)) (fun hHeld => ?_)
       clear hK K
       try simp only [Act.put, put1, put2, put3]
       refine wpAnyH_done (by kernel_rfl) ?_ _
       go_wp2_with fail
       go_meet
       exact ⟨rfl, rfl, _, _, H8.out⟩
   by_cases e4 : r = 4
   ·subst e4
    as_aux_lemma =>
     obtain ⟨g9, cap9, cur9, e9, al, ql, hv, hh, hsz, hx, hgc, hR⟩ := h4.body (P := Tryz.prog) hcw hk
     obtain ⟨hv1, hv2⟩ : g = g9 ∧ cap = cap9 := by
      injection hv with hva _ hvq
      injection hva with hva
      injection hva with hva
      exact ⟨hva, hvq⟩
     subst hv1
     subst hv2
     have hlh := (sm_nth hsm hk).2
     have lx : w4.cell? ⟨g, k * 5 + 4, none⟩ = _ := (cell_of_row _ g _ _ _ _ hh).trans hx
     go_upto_region 17 with fail
     refine wp_region_held_drew (S := fun wo => wo.cell? ⟨G, 1, none⟩ = some (.slice (some ⟨g, 0, none⟩) p.rules.length cap)) (by kernel_rfl) (by first | exact y1 | (go_simp; done)) (fun hHeld => ?_)
     refine tkY 0 (.pointer (some ⟨G, 1, none⟩)) 83 rfl rfl (fun w' hw' => ?_) hHeld ?_
     ·go_simp
     try simp only [Act.put, put1, put2, put3]
     refine tkY 1 (.slice (some ⟨g, 0, none⟩) p.rules.length cap) 84 rfl rfl (fun w' hw' => ?_) hHeld ?_
     ·go_simp
     try simp only [Act.put, put1, put2, put3]
     refine tkY 2 (.int .i64 (k : Int)) 85 rfl rfl (fun w' hw' => ?_) hHeld ?_
     ·go_simp
     try simp only [Act.put, put1, put2, put3]
     refine tkY 3 (.pointer (some ⟨G, 1, none⟩)) 86 rfl rfl (fun w' hw' => ?_) hHeld ?_
     ·go_simp
     try simp only [Act.put, put1, put2, put3]
     refine tkY 4 (.slice (some ⟨g, 0, none⟩) p.rules.length cap) 87 rfl rfl (fun w' hw' => ?_) hHeld ?_
     ·go_simp
     try simp only [Act.put, put1, put2, put3]
     refine tkY 5 (.int .i64 (k : Int)) 88 rfl rfl (fun w' hw' => ?_) hHeld ?_
     ·go_simp
     try simp only [Act.put, put1, put2, put3]
     refine tkY 6 (.pointer (some ⟨g, k * 5, none⟩)) 89 rfl rfl (fun w' hw' => ?_) hHeld ?_
     ·go_simp
     try simp only [Act.put, put1, put2, put3]
     refine tkY 7 (.pointer (some ⟨g, k * 5 + 4, none⟩)) 90 rfl rfl (fun w' hw' => ?_) hHeld ?_
     ·go_simp
     try simp only [Act.put, put1, put2, put3]
     refine tkY 9 (.pointer (some ⟨c, 0, none⟩)) 92 rfl rfl (fun w' hw' => ?_) hHeld ?_
     ·go_simp
     try simp only [Act.put, put1, put2, put3]
     refine wpAnyH_ready (rs := [8, 10]) (by kernel_rfl) (by simp) ?_
     refine AllReadyH.cons rfl (fun K hK => ?_) (AllReadyH.cons rfl (fun K hK => ?_) AllReadyH.nil)
     ·skip
      go_simp
      refine hK.out _ _ (by first | exact y1 | exact sE | (go_simp; done)) (fun hHeld => ?_)
      clear hK K
      try simp only [Act.put, put1, put2, put3]
      refine wpAnyH_ready (rs := [10]) (by kernel_rfl) (by simp) ?_
      refine AllReadyH.cons rfl (fun K hK => ?_) AllReadyH.nil
      go_simp
      refine (raw_calls c (N + 5003) w4.drew (h4.cur.kept (Below.refl _ _).drew) (by omega)).mono ?_
      rintro e5 w5 ⟨n, hn, rfl, hc5, hw5⟩
      have hW5 : Wrote c w4 w5 := ((Wrote.refl c _).drewN 1).trans hw5
      have h5 := h4.pick hcw hW5 hc5
      have hg5 := (Cg.wrote (S := fun x => x = c) hW5 rfl).at hh hgc.1
      clear y0 y1 y2 y3 y4 y5 y6 y7 xf lx
      obtain ⟨y0, y1, y2, y3, y4, y5, y6, y7⟩ := cells8 (box_cells h5.box)
      have lx : w5.cell? ⟨g, k * 5 + 4, none⟩ = _ := (cell_of_row _ g _ _ _ _ hg5).trans hx
      refine hK.out _ _ (by first | exact y1 | exact sE | (go_simp; done)) (fun hHeld => ?_)
      clear hK K
      try simp only [Act.put, put1, put2, put3]
      refine tkY 11 (.agg #[.int .i64 1, .int .i64 n]) 94 rfl rfl (fun w' hw' => ?_) hHeld ?_
      ·go_simp
      try simp only [Act.put, put1, put2, put3]
      refine wpAnyH_ready (rs := [12]) (by kernel_rfl) (by simp) ?_
      refine AllReadyH.cons rfl (fun K hK => ?_) AllReadyH.nil
      go_simp
      have hg6 := (Cg.alloc (Cg.refl (fun _ => False) w5) (.cells #[.int .i64 1, .int .i64 n] 94)).at hg5 (fun h => h)
      have h6 := h5.alloc hcw (.cells #[.int .i64 1, .int .i64 n] 94)
      have hC6 : Cg (fun x => x = c) w4 (w5.alloc (.cells #[.int .i64 1, .int .i64 n] 94)) := (Cg.wrote (S := fun x => x = c) hW5 rfl).alloc _
      clear y0 y1 y2 y3 y4 y5 y6 y7 lx
      obtain ⟨y0, y1, y2, y3, y4, y5, y6, y7⟩ := cells8 (box_cells h6.box)
      have lx : World.cell? (w5.alloc (.cells #[.int .i64 1, .int .i64 n] 94)) ⟨g, k * 5 + 4, none⟩ = _ := (cell_of_row _ g _ _ _ _ hg6).trans hx
      refine hK.out _ _ (by first | exact y1 | exact sE | (go_simp; done)) (fun hHeld => ?_)
      clear hK K
      try simp only [Act.put, put1, put2, put3]
      obtain ⟨v8, w8, r8, ⟨a8, q8, rfl⟩, rg, rG, h8⟩ := hR _ _ (1, n) [.int .i64 1, .int .i64 n] w5.heap.size 1 32 32 _ i9 _ 16 Tryz.underlying32 hi9 hz90 hz91 hz92 rfl (by decide) hC6 h6.cur (Cells.new w5 [.int .i64 1, .int .i64 n] 94) ⟨⟨rfl, ⟨by omega, by omega⟩, hn⟩, rfl⟩ (by omega) (by omega)
      clear y0 y1 y2 y3 y4 y5 y6 y7 lx
      obtain ⟨y0, y1, y2, y3, y4, y5, y6, y7⟩ := cells8 (box_cells rG)
      have lx : w8.cell? ⟨g, k * 5 + 4, none⟩ = _ := (cell_of_row _ g _ _ _ _ rg).trans hx
      have xg := fun j => frozen_of_row w8 g j _ _ rg
      have sE := (cells8 (box_cells h8.box)).2.1
      have H8 := Lib.hid (h8.fin (N' := N + 6000) hcw (by omega) (wee_set hsm hpr rfl (by have := sm_nth hsm hk; unfold SmR at this; (try simp only [List.length_append, List.length_singleton]); (try dsimp only); omega)))
      clear h5 h6 h8 rG rg
      refine wpAnyH_ready (rs := [13]) (by kernel_rfl) (by simp) ?_
      refine AllReadyH.cons rfl (fun K hK => ?_) AllReadyH.nil
      refine step_append_of rfl _ _ rfl rfl rfl r8 ?_
      refine hK.out _ _ (by first | exact y1 | exact sE | (go_simp; done)) (fun hHeld => ?_)
      clear hK K
      try simp only [Act.put, put1, put2, put3]
      refine tkY 14 (.pointer (some ⟨g, k * 5, none⟩)) 97 rfl rfl (fun w' hw' => ?_) hHeld ?_
      ·go_simp
      try simp only [Act.put, put1, put2, put3]
      refine tkY 15 (.pointer (some ⟨g, k * 5 + 4, none⟩)) 98 rfl rfl (fun w' hw' => ?_) hHeld ?_
      ·go_simp
      try simp only [Act.put, put1, put2, put3]
      refine wpAnyH_ready (rs := [16]) (by kernel_rfl) (by simp) ?_
      refine AllReadyH.cons rfl (fun K hK => ?_) AllReadyH.nil
      go_simp
      refine hK.out _ _ (by first | exact y1 | exact sE | (go_simp; done)) (fun hHeld => ?_)
      clear hK K
      try simp only [Act.put, put1, put2, put3]
      refine wpAnyH_done (by kernel_rfl) ?_ _
      go_wp2_with fail
      go_meet
      exact ⟨rfl, rfl, _, _, H8.out⟩
     ·skip
      go_simp
      refine (raw_calls c (N + 5003) w4.drew (h4.cur.kept (Below.refl _ _).drew) (by omega)).mono ?_
      rintro e5 w5 ⟨n, hn, rfl, hc5, hw5⟩
      have hW5 : Wrote c w4 w5 := ((Wrote.refl c _).drewN 1).trans hw5
      have h5 := h4.pick hcw hW5 hc5
      have hg5 := (Cg.wrote (S := fun x => x = c) hW5 rfl).at hh hgc.1
      clear y0 y1 y2 y3 y4 y5 y6 y7 xf lx
      obtain ⟨y0, y1, y2, y3, y4, y5, y6, y7⟩ := cells8 (box_cells h5.box)
      have lx : w5.cell? ⟨g, k * 5 + 4, none⟩ = _ := (cell_of_row _ g _ _ _ _ hg5).trans hx
      refine hK.out _ _ (by first | exact y1 | exact sE | (go_simp; done)) (fun hHeld => ?_)
      clear hK K
      try simp only [Act.put, put1, put2, put3]
      refine tkY 11 (.agg #[.int .i64 1, .int .i64 n]) 94 rfl rfl (fun w' hw' => ?_) hHeld ?_
      ·go_simp
      try simp only [Act.put, put1, put2, put3]
      refine wpAnyH_ready (rs := [8, 12]) (by kernel_rfl) (by simp) ?_
      refine AllReadyH.cons rfl (fun K hK => ?_) (AllReadyH.cons rfl (fun K hK => ?_) AllReadyH.nil)
      ·skip
       go_simp
       refine hK.out _ _ (by first | exact y1 | exact sE | (go_simp; done)) (fun hHeld => ?_)
       clear hK K
       try simp only [Act.put, put1, put2, put3]
       refine wpAnyH_ready (rs := [12]) (by kernel_rfl) (by simp) ?_
       refine AllReadyH.cons rfl (fun K hK => ?_) AllReadyH.nil
       go_simp
       have hg6 := (Cg.alloc (Cg.refl (fun _ => False) w5) (.cells #[.int .i64 1, .int .i64 n] 94)).at hg5 (fun h => h)
       have h6 := h5.alloc hcw (.cells #[.int .i64 1, .int .i64 n] 94)
       have hC6 : Cg (fun x => x = c) w4 (w5.alloc (.cells #[.int .i64 1, .int .i64 n] 94)) := (Cg.wrote (S := fun x => x = c) hW5 rfl).alloc _
       clear y0 y1 y2 y3 y4 y5 y6 y7 lx
       obtain ⟨y0, y1, y2, y3, y4, y5, y6, y7⟩ := cells8 (box_cells h6.box)
       have lx : World.cell? (w5.alloc (.cells #[.int .i64 1, .int .i64 n] 94)) ⟨g, k * 5 + 4, none⟩ = _ := (cell_of_row _ g _ _ _ _ hg6).trans hx
       refine hK.out _ _ (by first | exact y1 | exact sE | (go_simp; done)) (fun hHeld => ?_)
       clear hK K
       try simp only [Act.put, put1, put2, put3]
       obtain ⟨v8, w8, r8, ⟨a8, q8, rfl⟩, rg, rG, h8⟩ := hR _ _ (1, n) [.int .i64 1, .int .i64 n] w5.heap.size 1 32 32 _ i9 _ 16 Tryz.underlying32 hi9 hz90 hz91 hz92 rfl (by decide) hC6 h6.cur (Cells.new w5 [.int .i64 1, .int .i64 n] 94) ⟨⟨rfl, ⟨by omega, by omega⟩, hn⟩, rfl⟩ (by omega) (by omega)
       clear y0 y1 y2 y3 y4 y5 y6 y7 lx
       obtain ⟨y0, y1, y2, y3, y4, y5, y6, y7⟩ := cells8 (box_cells rG)
       have lx : w8.cell? ⟨g, k * 5 + 4, none⟩ = _ := (cell_of_row _ g _ _ _ _ rg).trans hx
       have xg := fun j => frozen_of_row w8 g j _ _ rg
       have sE := (cells8 (box_cells h8.box)).2.1
       have H8 := Lib.hid (h8.fin (N' := N + 6000) hcw (by omega) (wee_set hsm hpr rfl (by have := sm_nth hsm hk; unfold SmR at this; (try simp only [List.length_append, List.length_singleton]); (try dsimp only); omega)))
       clear h5 h6 h8 rG rg
       refine wpAnyH_ready (rs := [13]) (by kernel_rfl) (by simp) ?_
       refine AllReadyH.cons rfl (fun K hK => ?_) AllReadyH.nil
       refine step_append_of rfl _ _ rfl rfl rfl r8 ?_
       refine hK.out _ _ (by first | exact y1 | exact sE | (go_simp; done)) (fun hHeld => ?_)
       clear hK K
       try simp only [Act.put, put1, put2, put3]
       refine tkY 14 (.pointer (some ⟨g, k * 5, none⟩)) 97 rfl rfl (fun w' hw' => ?_) hHeld ?_
       ·go_simp
       try simp only [Act.put, put1, put2, put3]
       refine tkY 15 (.pointer (some ⟨g, k * 5 + 4, none⟩)) 98 rfl rfl (fun w' hw' => ?_) hHeld ?_
       ·go_simp
       try simp only [Act.put, put1, put2, put3]
       refine wpAnyH_ready (rs := [16]) (by kernel_rfl) (by simp) ?_
       refine AllReadyH.cons rfl (fun K hK => ?_) AllReadyH.nil
       go_simp
       refine hK.out _ _ (by first | exact y1 | exact sE | (go_simp; done)) (fun hHeld => ?_)
       clear hK K
       try simp only [Act.put, put1, put2, put3]
       refine wpAnyH_done (by kernel_rfl) ?_ _
       go_wp2_with fail
       go_meet
       exact ⟨rfl, rfl, _, _, H8.out⟩
      ·skip
       go_simp
       have hg6 := (Cg.alloc (Cg.refl (fun _ => False) w5) (.cells #[.int .i64 1, .int .i64 n] 94)).at hg5 (fun h => h)
       have h6 := h5.alloc hcw (.cells #[.int .i64 1, .int .i64 n] 94)
       have hC6 : Cg (fun x => x = c) w4 (w5.alloc (.cells #[.int .i64 1, .int .i64 n] 94)) := (Cg.wrote (S := fun x => x = c) hW5 rfl).alloc _
       clear y0 y1 y2 y3 y4 y5 y6 y7 lx
       obtain ⟨y0, y1, y2, y3, y4, y5, y6, y7⟩ := cells8 (box_cells h6.box)
       have lx : World.cell? (w5.alloc (.cells #[.int .i64 1, .int .i64 n] 94)) ⟨g, k * 5 + 4, none⟩ = _ := (cell_of_row _ g _ _ _ _ hg6).trans hx
       refine hK.out _ _ (by first | exact y1 | exact sE | (go_simp; done)) (fun hHeld => ?_)
       clear hK K
       try simp only [Act.put, put1, put2, put3]
       refine wpAnyH_ready (rs := [8]) (by kernel_rfl) (by simp) ?_
       refine AllReadyH.cons rfl (fun K hK => ?_) AllReadyH.nil
       go_simp
       refine hK.out _ _ (by first | exact y1 | exact sE | (go_simp; done)) (fun hHeld => ?_)
       clear hK K
       try simp only [Act.put, put1, put2, put3]
       obtain ⟨v8, w8, r8, ⟨a8, q8, rfl⟩, rg, rG, h8⟩ := hR _ _ (1, n) [.int .i64 1, .int .i64 n] w5.heap.size 1 32 32 _ i9 _ 16 Tryz.underlying32 hi9 hz90 hz91 hz92 rfl (by decide) hC6 h6.cur (Cells.new w5 [.int .i64 1, .int .i64 n] 94) ⟨⟨rfl, ⟨by omega, by omega⟩, hn⟩, rfl⟩ (by omega) (by omega)
       clear y0 y1 y2 y3 y4 y5 y6 y7 lx
       obtain ⟨y0, y1, y2, y3, y4, y5, y6, y7⟩ := cells8 (box_cells rG)
       have lx : w8.cell? ⟨g, k * 5 + 4, none⟩ = _ := (cell_of_row _ g _ _ _ _ rg).trans hx
       have xg := fun j => frozen_of_row w8 g j _ _ rg
       have sE := (cells8 (box_cells h8.box)).2.1
       have H8 := Lib.hid (h8.fin (N' := N + 6000) hcw (by omega) (wee_set hsm hpr rfl (by have := sm_nth hsm hk; unfold SmR at this; (try simp only [List.length_append, List.length_singleton]); (try dsimp only); omega)))
       clear h5 h6 h8 rG rg
       refine wpAnyH_ready (rs := [13]) (by kernel_rfl) (by simp) ?_
       refine AllReadyH.cons rfl (fun K hK => ?_) AllReadyH.nil
       refine step_append_of rfl _ _ rfl rfl rfl r8 ?_
       refine hK.out _ _ (by first | exact y1 | exact sE | (go_simp; done)) (fun hHeld => ?_)
       clear hK K
       try simp only [Act.put, put1, put2, put3]
       refine tkY 14 (.pointer (some ⟨g, k * 5, none⟩)) 97 rfl rfl (fun w' hw' => ?_) hHeld ?_
       ·go_simp
       try simp only [Act.put, put1, put2, put3]
       refine tkY 15 (.pointer (some ⟨g, k * 5 + 4, none⟩)) 98 rfl rfl (fun w' hw' => ?_) hHeld ?_
       ·go_simp
       try simp only [Act.put, put1, put2, put3]
       refine wpAnyH_ready (rs := [16]) (by kernel_rfl) (by simp) ?_
       refine AllReadyH.cons rfl (fun K hK => ?_) AllReadyH.nil
       go_simp
       refine hK.out _ _ (by first | exact y1 | exact sE | (go_simp; done)) (fun hHeld => ?_)
       clear hK K
       try simp only [Act.put, put1, put2, put3]
       refine wpAnyH_done (by kernel_rfl) ?_ _
       go_wp2_with fail
       go_meet
       exact ⟨rfl, rfl, _, _, H8.out⟩
   by_cases e2 : r = 2
   ·subst e2
    as_aux_lemma =>
     obtain ⟨g9, cap9, cur9, e9, hv, hh, hsz, hx, hgc, hR⟩ := h4.bound hcw hk
     obtain ⟨hv1, hv2⟩ : g = g9 ∧ cap = cap9 := by
      injection hv with hva _ hvq
      injection hva with hva
      injection hva with hva
      exact ⟨hva, hvq⟩
     subst hv1
     subst hv2
     have lx : w4.cell? ⟨g, k * 5 + 3, none⟩ = _ := (cell_of_row _ g _ _ _ _ hh).trans hx
     go_upto_region 13 with fail
     refine wp_region_held_drew (S := fun wo => wo.cell? ⟨G, 1, none⟩ = some (.slice (some ⟨g, 0, none⟩) p.rules.length cap)) (by kernel_rfl) (by first | exact y1 | (go_simp; done)) (fun hHeld => ?_)
     refine tkY 0 (.pointer (some ⟨G, 1, none⟩)) 56 rfl rfl (fun w' hw' => ?_) hHeld ?_
     ·go_simp
     try simp only [Act.put, put1, put2, put3]
     refine tkY 1 (.slice (some ⟨g, 0, none⟩) p.rules.length cap) 57 rfl rfl (fun w' hw' => ?_) hHeld ?_
     ·go_simp
     try simp only [Act.put, put1, put2, put3]
     refine tkY 2 (.int .i64 (k : Int)) 58 rfl rfl (fun w' hw' => ?_) hHeld ?_
     ·go_simp
     try simp only [Act.put, put1, put2, put3]
     refine tkY 3 (.pointer (some ⟨c, 0, none⟩)) 59 rfl rfl (fun w' hw' => ?_) hHeld ?_
     ·go_simp
     try simp only [Act.put, put1, put2, put3]
     refine wpAnyH_ready (rs := [4]) (by kernel_rfl) (by simp) ?_
     refine AllReadyH.cons rfl (fun K hK => ?_) AllReadyH.nil
     go_simp
     refine (raw_calls c (N + 5003) w4.drew (h4.cur.kept (Below.refl _ _).drew) (by omega)).mono ?_
     rintro e5 w5 ⟨n, hn, rfl, hc5, hw5⟩
     have hW5 : Wrote c w4 w5 := ((Wrote.refl c _).drewN 1).trans hw5
     have h5 := h4.pick hcw hW5 hc5
     have hg5 := (Cg.wrote (S := fun x => x = c) hW5 rfl).at hh hgc.1
     clear y0 y1 y2 y3 y4 y5 y6 y7 xf lx
     obtain ⟨y0, y1, y2, y3, y4, y5, y6, y7⟩ := cells8 (box_cells h5.box)
     have lx : w5.cell? ⟨g, k * 5 + 3, none⟩ = _ := (cell_of_row _ g _ _ _ _ hg5).trans hx
     refine hK.out _ _ (by first | exact y1 | exact sE | (go_simp; done)) (fun hHeld => ?_)
     clear hK K
     try simp only [Act.put, put1, put2, put3]
     obtain ⟨rg, rG, h8⟩ := hR w5 _ n hn (Cg.wrote (S := fun x => x = c) hW5 rfl) h5.cur
     have xg := fun j => frozen_of_row w5 g j _ _ rg
     have sE := (cells8 (box_cells h8.box)).2.1
     have H8 := Lib.hid (h8.fin (N' := N + 6000) hcw (by omega) (wee_set hsm hpr rfl (by have := sm_nth hsm hk; unfold SmR at this; (try simp only [List.length_append, List.length_singleton]); (try dsimp only); omega)))
     clear h5 h8 rG rg
     refine tkY 5 (.pointer (some ⟨g, k * 5, none⟩)) 61 rfl rfl (fun w' hw' => ?_) hHeld ?_
     ·go_simp
     try simp only [Act.put, put1, put2, put3]
     refine tkY 6 (.pointer (some ⟨g, k * 5 + 3, none⟩)) 62 rfl rfl (fun w' hw' => ?_) hHeld ?_
     ·go_simp
     try simp only [Act.put, put1, put2, put3]
     refine wpAnyH_ready (rs := [7]) (by kernel_rfl) (by simp) ?_
     refine AllReadyH.cons rfl (fun K hK => ?_) AllReadyH.nil
     go_simp
     refine hK.out _ _ (by first | exact y1 | exact sE | (go_simp; done)) (fun hHeld => ?_)
     clear hK K
     try simp only [Act.put, put1, put2, put3]
     refine wpAnyH_done (by kernel_rfl) ?_ _
     go_wp2_with fail
     go_meet
     exact ⟨rfl, rfl, _, _, H8.out⟩
   by_cases e5 : r = 5
   ·subst e5
    as_aux_lemma =>
     obtain ⟨g9, cap9, cur9, e9, hv, hh, hsz, hx, hgc, hR⟩ := h4.choice hcw hk
     obtain ⟨hv1, hv2⟩ : g = g9 ∧ cap = cap9 := by
      injection hv with hva _ hvq
      injection hva with hva
      injection hva with hva
      exact ⟨hva, hvq⟩
     subst hv1
     subst hv2
     rw [Nat.add_zero] at hx
     obtain ⟨rg, rG, h8⟩ := hR w4 _ (!(nth p.rules k).choice) trivial (Cg.refl _ _) h4.cur
     rw [Nat.add_zero] at h8
     have lx : w4.cell? ⟨g, k * 5, none⟩ = _ := (cell_of_row _ g _ _ _ _ hh).trans hx
     have xg := fun j => frozen_of_row w4 g j _ _ rg
     have sE := (cells8 (box_cells h8.box)).2.1
     have H8 := Lib.hid (h8.fin (N' := N + 6000) hcw (by omega) (wee_set hsm hpr rfl (by have := sm_nth hsm hk; unfold SmR at this; (try simp only [List.length_append, List.length_singleton]); (try dsimp only); omega))).drew
     clear h8 rG rg hR
     go_upto_region 19 with fail
     refine wp_region_held_drew (S := fun wo => wo.cell? ⟨G, 1, none⟩ = some (.slice (some ⟨g, 0, none⟩) p.rules.length cap)) (by kernel_rfl) (by first | exact y1 | (go_simp; done)) (fun hHeld => ?_)
     refine tkY 0 (.pointer (some ⟨G, 1, none⟩)) 101 rfl rfl (fun w' hw' => ?_) hHeld ?_
     ·go_simp
     try simp only [Act.put, put1, put2, put3]
     refine tkY 1 (.slice (some ⟨g, 0, none⟩) p.rules.length cap) 102 rfl rfl (fun w' hw' => ?_) hHeld ?_
     ·go_simp
     try simp only [Act.put, put1, put2, put3]
     refine tkY 2 (.int .i64 (k : Int)) 103 rfl rfl (fun w' hw' => ?_) hHeld ?_
     ·go_simp
     try simp only [Act.put, put1, put2, put3]
     refine tkY 3 (.pointer (some ⟨G, 1, none⟩)) 104 rfl rfl (fun w' hw' => ?_) hHeld ?_
     ·go_simp
     try simp only [Act.put, put1, put2, put3]
     refine tkY 4 (.slice (some ⟨g, 0, none⟩) p.rules.length cap) 105 rfl rfl (fun w' hw' => ?_) hHeld ?_
     ·go_simp
     try simp only [Act.put, put1, put2, put3]
     refine tkY 5 (.int .i64 (k : Int)) 106 rfl rfl (fun w' hw' => ?_) hHeld ?_
     ·go_simp
     try simp only [Act.put, put1, put2, put3]
     refine tkY 6 (.pointer (some ⟨g, k * 5, none⟩)) 107 rfl rfl (fun w' hw' => ?_) hHeld ?_
     ·go_simp
     try simp only [Act.put, put1, put2, put3]
     refine tkY 7 (.pointer (some ⟨g, k * 5, none⟩)) 108 rfl rfl (fun w' hw' => ?_) hHeld ?_
     ·go_simp
     try simp only [Act.put, put1, put2, put3]
     refine wpAnyH_ready (rs := [8]) (by kernel_rfl) (by simp) ?_
     refine AllReadyH.cons rfl (fun K hK => ?_) AllReadyH.nil
     go_simp
     refine hK.out _ _ (by first | exact y1 | exact sE | (go_simp; done)) (fun hHeld => ?_)
     clear hK K
     try simp only [Act.put, put1, put2, put3]
     refine tkY 9 (.bool (!(nth p.rules k).choice)) 110 rfl rfl (fun w' hw' => ?_) hHeld ?_
     ·go_simp
     try simp only [Act.put, put1, put2, put3]
     refine tkY 10 (.pointer (some ⟨g, k * 5, none⟩)) 111 rfl rfl (fun w' hw' => ?_) hHeld ?_
     ·go_simp
     try simp only [Act.put, put1, put2, put3]
     refine tkY 11 (.pointer (some ⟨g, k * 5, none⟩)) 112 rfl rfl (fun w' hw' => ?_) hHeld ?_
     ·go_simp
     try simp only [Act.put, put1, put2, put3]
     refine wpAnyH_ready (rs := [12]) (by kernel_rfl) (by simp) ?_
     refine AllReadyH.cons rfl (fun K hK => ?_) AllReadyH.nil
     go_simp
     refine hK.out _ _ (by first | exact y1 | exact sE | (go_simp; done)) (fun hHeld => ?_)
     clear hK K
     try simp only [Act.put, put1, put2, put3]
     refine wpAnyH_done (by kernel_rfl) ?_ _
     go_wp2_with fail
     go_meet
     exact ⟨rfl, rfl, _, _, H8.out⟩
   by_cases e8 : r = 8
   ·subst e8
    as_aux_lemma =>
     go_upto_region 25 with fail
     refine wp_region_held_drew (S := fun _ => True) (by kernel_rfl) trivial (fun hHeld => ?_)
     have h5 : AN w c (N + 5003) G w4.drew _ p := h4.pick hcw ((Wrote.refl c w4).drewN 1) (h4.cur.kept (Below.refl _ _).drew)
     clear h4 y0 y1 y2 y3 y4 y5 y6 y7 xf
     generalize w4.drew = w5 at *
     have xf := fun j => frozen_of_row _ G j _ _ (h5.box)
     obtain ⟨y0, y1, y2, y3, y4, y5, y6, y7⟩ := cells8 (box_cells (h5.box))
     refine tkY 0 (.pointer (some ⟨G, 5, none⟩)) 134 rfl rfl (fun w' hw' => ?_) hHeld ?_
     ·go_simp
     try simp only [Act.put, put1, put2, put3]
     refine tkY 3 (.pointer (some ⟨c, 0, none⟩)) 137 rfl rfl (fun w' hw' => ?_) hHeld ?_
     ·go_simp
     try simp only [Act.put, put1, put2, put3]
     refine wpAnyH_ready (rs := [1, 2, 4]) (by kernel_rfl) (by simp) ?_
     refine AllReadyH.cons rfl (fun K hK => ?_) (AllReadyH.cons rfl (fun K hK => ?_) (AllReadyH.cons rfl (fun K hK => ?_) AllReadyH.nil))
     ·skip
      go_simp
      refine hK.out _ _ (trivial) (fun hHeld => ?_)
      clear hK K
      try simp only [Act.put, put1, put2, put3]
      refine wpAnyH_ready (rs := [2, 4]) (by kernel_rfl) (by simp) ?_
      refine AllReadyH.cons rfl (fun K hK => ?_) (AllReadyH.cons rfl (fun K hK => ?_) AllReadyH.nil)
      ·skip
       go_simp
       generalize hob : Obj.cells _ _ _ = ob
       have tx := tx_new w5 hob (by decide) (by decide) (by decide)
       have h9 := h5.alloc hcw ob
       have hTl : w5.heap.size < (w5.alloc ob).heap.size := by simp
       have hTc : w5.heap.size ≠ c := by have := h5.cg.size; omega
       clear hob h5 y0 y1 y2 y3 y4 y5 y6 y7 xf
       generalize w5.heap.size = T at *
       generalize w5.alloc ob = w5 at *
       have h5 := h9
       clear h9
       have xf := fun j => frozen_of_row _ G j _ _ (h5.box)
       obtain ⟨y0, y1, y2, y3, y4, y5, y6, y7⟩ := cells8 (box_cells (h5.box))
       refine hK.out _ _ (trivial) (fun hHeld => ?_)
       clear hK K
       try simp only [Act.put, put1, put2, put3]
       refine wpAnyH_ready (rs := [4]) (by kernel_rfl) (by simp) ?_
       refine AllReadyH.cons rfl (fun K hK => ?_) AllReadyH.nil
       go_simp
       refine (pick_calls c (N + 5003) 3 _ h5.cur (by omega) ⟨by omega, by omega⟩).mono ?_
       rintro e9 w9 ⟨x, ⟨hx0, hx1, _⟩, rfl, hc9, hw9⟩
       obtain ⟨x, rfl⟩ := Int.eq_ofNat_of_zero_le hx0
       have hx3 : x < 3 := by have := hx1 (by omega); omega
       have hx3i : (x : Int) < 3 := by omega
       have h9 := h5.pick hcw hw9 hc9
       clear y0 y1 y2 y3 y4 y5 y6 y7 xf hx0 hx1 hc9
       have tx := tx_kept hw9 hTl hTc tx
       have hTl := Nat.lt_of_lt_of_le hTl hw9.size
       clear h5
       have h5 := h9
       clear h9 hw9
       generalize w9 = w5 at *
       have xf := fun j => frozen_of_row _ G j _ _ (h5.box)
       obtain ⟨y0, y1, y2, y3, y4, y5, y6, y7⟩ := cells8 (box_cells (h5.box))
       refine hK.out _ _ (trivial) (fun hHeld => ?_)
       clear hK K
       try simp only [Act.put, put1, put2, put3]
       refine tkY 5 (.pointer (some ⟨T, x, none⟩)) 139 rfl rfl (fun w' hw' => ?_) hHeld ?_
       ·go_simp
       try simp only [Act.put, put1, put2, put3]
       obtain ⟨s, hs, hsx⟩ := tx x hx3
       clear tx
       refine wpAnyH_ready (rs := [6]) (by kernel_rfl) (by simp) ?_
       refine AllReadyH.cons rfl (fun K hK => ?_) AllReadyH.nil
       go_simp
       refine hK.out _ _ (trivial) (fun hHeld => ?_)
       clear hK K
       try simp only [Act.put, put1, put2, put3]
       refine tkY 7 (.agg #[.string s, .slice none 0 0]) 141 rfl rfl (fun w' hw' => ?_) hHeld ?_
       ·go_simp
       try simp only [Act.put, put1, put2, put3]
       refine wpAnyH_ready (rs := [8]) (by kernel_rfl) (by simp) ?_
       refine AllReadyH.cons rfl (fun K hK => ?_) AllReadyH.nil
       go_simp
       have h6 := h5.alloc hcw (.cells #[.string s, .slice none 0 0] 185)
       clear y0 y1 y2 y3 y4 y5 y6 y7 xf
       have xf := fun j => frozen_of_row _ G j _ _ (h6.box)
       obtain ⟨y0, y1, y2, y3, y4, y5, y6, y7⟩ := cells8 (box_cells (h6.box))
       refine hK.out _ _ (trivial) (fun hHeld => ?_)
       clear hK K
       try simp only [Act.put, put1, put2, put3]
       obtain ⟨v8, w8, r8, hb8, ⟨a8, q8, rfl⟩, h8⟩ := h6.push (P := Tryz.prog) (t := 27) (ty := 27) (cp := 1) (y := (⟨s, []⟩ : ShowD)) hcw 5 (fun fp h => lens_shows h) (fun v => rfl) i5 _ 40 Tryz.underlying27 hi5 hz50 hz51 hz52 rfl (by decide) (Cells.new w5 [.string s, .slice none 0 0] 185) ⟨.slice none 0 0, rfl, Nat.le_trans hs (by decide), owL_nil⟩ (by omega) (by omega)
       clear y0 y1 y2 y3 y4 y5 y6 y7 xf
       have xf := fun j => frozen_of_row _ G j _ _ (hb8)
       obtain ⟨y0, y1, y2, y3, y4, y5, y6, y7⟩ := cells8 (box_cells (hb8))
       have H8 := Lib.hid (h8.fin (N' := N + 6000) hcw (by omega) (wee_same hsm hpr rfl))
       clear h5 h6 h8 hb8
       refine wpAnyH_ready (rs := [9]) (by kernel_rfl) (by simp) ?_
       refine AllReadyH.cons rfl (fun K hK => ?_) AllReadyH.nil
       refine step_append_of rfl _ _ rfl rfl rfl r8 ?_
       refine hK.out _ _ (trivial) (fun hHeld => ?_)
       clear hK K
       try simp only [Act.put, put1, put2, put3]
       refine takeD (i := 9 + 1) (v := .pointer (some ⟨G, 5, none⟩)) (some 144) rfl rfl (by kernel_rfl) (by kernel_rfl) (by kernel_rfl) (fun _ _ _ h => h) (Or.inl ⟨by rfl, fun w' hw' => ?_⟩) hHeld ?_
       ·go_simp
       try simp only [Act.put, put1, put2, put3]
       refine wpAnyH_ready (rs := [11]) (by kernel_rfl) (by simp) ?_
       refine AllReadyH.cons rfl (fun K hK => ?_) AllReadyH.nil
       go_simp
       refine hK.out _ _ (trivial) (fun hHeld => ?_)
       clear hK K
       try simp only [Act.put, put1, put2, put3]
       refine wpAnyH_done (by kernel_rfl) ?_ _
       go_wp2_with fail
       go_meet
       exact ⟨rfl, rfl, _, _, H8.out⟩
      ·skip
       go_simp
       refine (pick_calls c (N + 5003) 3 _ h5.cur (by omega) ⟨by omega, by omega⟩).mono ?_
       rintro e9 w9 ⟨x, ⟨hx0, hx1, _⟩, rfl, hc9, hw9⟩
       obtain ⟨x, rfl⟩ := Int.eq_ofNat_of_zero_le hx0
       have hx3 : x < 3 := by have := hx1 (by omega); omega
       have hx3i : (x : Int) < 3 := by omega
       have h9 := h5.pick hcw hw9 hc9
       clear y0 y1 y2 y3 y4 y5 y6 y7 xf hx0 hx1 hc9
       clear h5
       have h5 := h9
       clear h9 hw9
       generalize w9 = w5 at *
       have xf := fun j => frozen_of_row _ G j _ _ (h5.box)
       obtain ⟨y0, y1, y2, y3, y4, y5, y6, y7⟩ := cells8 (box_cells (h5.box))
       refine hK.out _ _ (trivial) (fun hHeld => ?_)
       clear hK K
       try simp only [Act.put, put1, put2, put3]
       refine wpAnyH_ready (rs := [2]) (by kernel_rfl) (by simp) ?_
       refine AllReadyH.cons rfl (fun K hK => ?_) AllReadyH.nil
       go_simp
       generalize hob : Obj.cells _ _ _ = ob
       have tx := tx_new w5 hob (by decide) (by decide) (by decide)
       have h9 := h5.alloc hcw ob
       have hTl : w5.heap.size < (w5.alloc ob).heap.size := by simp
       have hTc : w5.heap.size ≠ c := by have := h5.cg.size; omega
       clear hob h5 y0 y1 y2 y3 y4 y5 y6 y7 xf
       generalize w5.heap.size = T at *
       generalize w5.alloc ob = w5 at *
       have h5 := h9
       clear h9
       have xf := fun j => frozen_of_row _ G j _ _ (h5.box)
       obtain ⟨y0, y1, y2, y3, y4, y5, y6, y7⟩ := cells8 (box_cells (h5.box))
       refine hK.out _ _ (trivial) (fun hHeld => ?_)
       clear hK K
       try simp only [Act.put, put1, put2, put3]
       refine tkY 5 (.pointer (some ⟨T, x, none⟩)) 139 rfl rfl (fun w' hw' => ?_) hHeld ?_
       ·go_simp
       try simp only [Act.put, put1, put2, put3]
       obtain ⟨s, hs, hsx⟩ := tx x hx3
       clear tx
       refine wpAnyH_ready (rs := [6]) (by kernel_rfl) (by simp) ?_
       refine AllReadyH.cons rfl (fun K hK => ?_) AllReadyH.nil
       go_simp
       refine hK.out _ _ (trivial) (fun hHeld => ?_)
       clear hK K
       try simp only [Act.put, put1, put2, put3]
       refine tkY 7 (.agg #[.string s, .slice none 0 0]) 141 rfl rfl (fun w' hw' => ?_) hHeld ?_
       ·go_simp
       try simp only [Act.put, put1, put2, put3]
       refine wpAnyH_ready (rs := [8]) (by kernel_rfl) (by simp) ?_
       refine AllReadyH.cons rfl (fun K hK => ?_) AllReadyH.nil
       go_simp
       have h6 := h5.alloc hcw (.cells #[.string s, .slice none 0 0] 185)
       clear y0 y1 y2 y3 y4 y5 y6 y7 xf
       have xf := fun j => frozen_of_row _ G j _ _ (h6.box)
       obtain ⟨y0, y1, y2, y3, y4, y5, y6, y7⟩ := cells8 (box_cells (h6.box))
       refine hK.out _ _ (trivial) (fun hHeld => ?_)
       clear hK K
       try simp only [Act.put, put1, put2, put3]
       obtain ⟨v8, w8, r8, hb8, ⟨a8, q8, rfl⟩, h8⟩ := h6.push (P := Tryz.prog) (t := 27) (ty := 27) (cp := 1) (y := (⟨s, []⟩ : ShowD)) hcw 5 (fun fp h => lens_shows h) (fun v => rfl) i5 _ 40 Tryz.underlying27 hi5 hz50 hz51 hz52 rfl (by decide) (Cells.new w5 [.string s, .slice none 0 0] 185) ⟨.slice none 0 0, rfl, Nat.le_trans hs (by decide), owL_nil⟩ (by omega) (by omega)
       clear y0 y1 y2 y3 y4 y5 y6 y7 xf
       have xf := fun j => frozen_of_row _ G j _ _ (hb8)
       obtain ⟨y0, y1, y2, y3, y4, y5, y6, y7⟩ := cells8 (box_cells (hb8))
       have H8 := Lib.hid (h8.fin (N' := N + 6000) hcw (by omega) (wee_same hsm hpr rfl))
       clear h5 h6 h8 hb8
       refine wpAnyH_ready (rs := [9]) (by kernel_rfl) (by simp) ?_
       refine AllReadyH.cons rfl (fun K hK => ?_) AllReadyH.nil
       refine step_append_of rfl _ _ rfl rfl rfl r8 ?_
       refine hK.out _ _ (trivial) (fun hHeld => ?_)
       clear hK K
       try simp only [Act.put, put1, put2, put3]
       refine takeD (i := 9 + 1) (v := .pointer (some ⟨G, 5, none⟩)) (some 144) rfl rfl (by kernel_rfl) (by kernel_rfl) (by kernel_rfl) (fun _ _ _ h => h) (Or.inl ⟨by rfl, fun w' hw' => ?_⟩) hHeld ?_
       ·go_simp
       try simp only [Act.put, put1, put2, put3]
       refine wpAnyH_ready (rs := [11]) (by kernel_rfl) (by simp) ?_
       refine AllReadyH.cons rfl (fun K hK => ?_) AllReadyH.nil
       go_simp
       refine hK.out _ _ (trivial) (fun hHeld => ?_)
       clear hK K
       try simp only [Act.put, put1, put2, put3]
       refine wpAnyH_done (by kernel_rfl) ?_ _
       go_wp2_with fail
       go_meet
       exact ⟨rfl, rfl, _, _, H8.out⟩
     ·skip
      go_simp
      generalize hob : Obj.cells _ _ _ = ob
      have tx := tx_new w5 hob (by decide) (by decide) (by decide)
      have h9 := h5.alloc hcw ob
      have hTl : w5.heap.size < (w5.alloc ob).heap.size := by simp
      have hTc : w5.heap.size ≠ c := by have := h5.cg.size; omega
      clear hob h5 y0 y1 y2 y3 y4 y5 y6 y7 xf
      generalize w5.heap.size = T at *
      generalize w5.alloc ob = w5 at *
      have h5 := h9
      clear h9
      have xf := fun j => frozen_of_row _ G j _ _ (h5.box)
      obtain ⟨y0, y1, y2, y3, y4, y5, y6, y7⟩ := cells8 (box_cells (h5.box))
      refine hK.out _ _ (trivial) (fun hHeld => ?_)
      clear hK K
      try simp only [Act.put, put1, put2, put3]
      refine wpAnyH_ready (rs := [1, 4]) (by kernel_rfl) (by simp) ?_
      refine AllReadyH.cons rfl (fun K hK => ?_) (AllReadyH.cons rfl (fun K hK => ?_) AllReadyH.nil)
      ·skip
       go_simp
       refine hK.out _ _ (trivial) (fun hHeld => ?_)
       clear hK K
       try simp only [Act.put, put1, put2, put3]
       refine wpAnyH_ready (rs := [4]) (by kernel_rfl) (by simp) ?_
       refine AllReadyH.cons rfl (fun K hK => ?_) AllReadyH.nil
       go_simp
       refine (pick_calls c (N + 5003) 3 _ h5.cur (by omega) ⟨by omega, by omega⟩).mono ?_
       rintro e9 w9 ⟨x, ⟨hx0, hx1, _⟩, rfl, hc9, hw9⟩
       obtain ⟨x, rfl⟩ := Int.eq_ofNat_of_zero_le hx0
       have hx3 : x < 3 := by have := hx1 (by omega); omega
       have hx3i : (x : Int) < 3 := by omega
       have h9 := h5.pick hcw hw9 hc9
       clear y0 y1 y2 y3 y4 y5 y6 y7 xf hx0 hx1 hc9
       have tx := tx_kept hw9 hTl hTc tx
       have hTl := Nat.lt_of_lt_of_le hTl hw9.size
       clear h5
       have h5 := h9
       clear h9 hw9
       generalize w9 = w5 at *
       have xf := fun j => frozen_of_row _ G j _ _ (h5.box)
       obtain ⟨y0, y1, y2, y3, y4, y5, y6, y7⟩ := cells8 (box_cells (h5.box))
       refine hK.out _ _ (trivial) (fun hHeld => ?_)
       clear hK K
       try simp only [Act.put, put1, put2, put3]
       refine tkY 5 (.pointer (some ⟨T, x, none⟩)) 139 rfl rfl (fun w' hw' => ?_) hHeld ?_
       ·go_simp
       try simp only [Act.put, put1, put2, put3]
       obtain ⟨s, hs, hsx⟩ := tx x hx3
       clear tx
       refine wpAnyH_ready (rs := [6]) (by kernel_rfl) (by simp) ?_
       refine AllReadyH.cons rfl (fun K hK => ?_) AllReadyH.nil
       go_simp
       refine hK.out _ _ (trivial) (fun hHeld => ?_)
       clear hK K
       try simp only [Act.put, put1, put2, put3]
       refine tkY 7 (.agg #[.string s, .slice none 0 0]) 141 rfl rfl (fun w' hw' => ?_) hHeld ?_
       ·go_simp
       try simp only [Act.put, put1, put2, put3]
       refine wpAnyH_ready (rs := [8]) (by kernel_rfl) (by simp) ?_
       refine AllReadyH.cons rfl (fun K hK => ?_) AllReadyH.nil
       go_simp
       have h6 := h5.alloc hcw (.cells #[.string s, .slice none 0 0] 185)
       clear y0 y1 y2 y3 y4 y5 y6 y7 xf
       have xf := fun j => frozen_of_row _ G j _ _ (h6.box)
       obtain ⟨y0, y1, y2, y3, y4, y5, y6, y7⟩ := cells8 (box_cells (h6.box))
       refine hK.out _ _ (trivial) (fun hHeld => ?_)
       clear hK K
       try simp only [Act.put, put1, put2, put3]
       obtain ⟨v8, w8, r8, hb8, ⟨a8, q8, rfl⟩, h8⟩ := h6.push (P := Tryz.prog) (t := 27) (ty := 27) (cp := 1) (y := (⟨s, []⟩ : ShowD)) hcw 5 (fun fp h => lens_shows h) (fun v => rfl) i5 _ 40 Tryz.underlying27 hi5 hz50 hz51 hz52 rfl (by decide) (Cells.new w5 [.string s, .slice none 0 0] 185) ⟨.slice none 0 0, rfl, Nat.le_trans hs (by decide), owL_nil⟩ (by omega) (by omega)
       clear y0 y1 y2 y3 y4 y5 y6 y7 xf
       have xf := fun j => frozen_of_row _ G j _ _ (hb8)
       obtain ⟨y0, y1, y2, y3, y4, y5, y6, y7⟩ := cells8 (box_cells (hb8))
       have H8 := Lib.hid (h8.fin (N' := N + 6000) hcw (by omega) (wee_same hsm hpr rfl))
       clear h5 h6 h8 hb8
       refine wpAnyH_ready (rs := [9]) (by kernel_rfl) (by simp) ?_
       refine AllReadyH.cons rfl (fun K hK => ?_) AllReadyH.nil
       refine step_append_of rfl _ _ rfl rfl rfl r8 ?_
       refine hK.out _ _ (trivial) (fun hHeld => ?_)
       clear hK K
       try simp only [Act.put, put1, put2, put3]
       refine takeD (i := 9 + 1) (v := .pointer (some ⟨G, 5, none⟩)) (some 144) rfl rfl (by kernel_rfl) (by kernel_rfl) (by kernel_rfl) (fun _ _ _ h => h) (Or.inl ⟨by rfl, fun w' hw' => ?_⟩) hHeld ?_
       ·go_simp
       try simp only [Act.put, put1, put2, put3]
       refine wpAnyH_ready (rs := [11]) (by kernel_rfl) (by simp) ?_
       refine AllReadyH.cons rfl (fun K hK => ?_) AllReadyH.nil
       go_simp
       refine hK.out _ _ (trivial) (fun hHeld => ?_)
       clear hK K
       try simp only [Act.put, put1, put2, put3]
       refine wpAnyH_done (by kernel_rfl) ?_ _
       go_wp2_with fail
       go_meet
       exact ⟨rfl, rfl, _, _, H8.out⟩
      ·skip
       go_simp
       refine (pick_calls c (N + 5003) 3 _ h5.cur (by omega) ⟨by omega, by omega⟩).mono ?_
       rintro e9 w9 ⟨x, ⟨hx0, hx1, _⟩, rfl, hc9, hw9⟩
       obtain ⟨x, rfl⟩ := Int.eq_ofNat_of_zero_le hx0
       have hx3 : x < 3 := by have := hx1 (by omega); omega
       have hx3i : (x : Int) < 3 := by omega
       have h9 := h5.pick hcw hw9 hc9
       clear y0 y1 y2 y3 y4 y5 y6 y7 xf hx0 hx1 hc9
       have tx := tx_kept hw9 hTl hTc tx
       have hTl := Nat.lt_of_lt_of_le hTl hw9.size
       clear h5
       have h5 := h9
       clear h9 hw9
       generalize w9 = w5 at *
       have xf := fun j => frozen_of_row _ G j _ _ (h5.box)
       obtain ⟨y0, y1, y2, y3, y4, y5, y6, y7⟩ := cells8 (box_cells (h5.box))
       refine hK.out _ _ (trivial) (fun hHeld => ?_)
       clear hK K
       try simp only [Act.put, put1, put2, put3]
       refine tkY 5 (.pointer (some ⟨T, x, none⟩)) 139 rfl rfl (fun w' hw' => ?_) hHeld ?_
       ·go_simp
       try simp only [Act.put, put1, put2, put3]
       obtain ⟨s, hs, hsx⟩ := tx x hx3
       clear tx
       refine wpAnyH_ready (rs := [1, 6]) (by kernel_rfl) (by simp) ?_
       refine AllReadyH.cons rfl (fun K hK => ?_) (AllReadyH.cons rfl (fun K hK => ?_) AllReadyH.nil)
       ·skip
        go_simp
        refine hK.out _ _ (trivial) (fun hHeld => ?_)
        clear hK K
        try simp only [Act.put, put1, put2, put3]
        refine wpAnyH_ready (rs := [6]) (by kernel_rfl) (by simp) ?_
        refine AllReadyH.cons rfl (fun K hK => ?_) AllReadyH.nil
        go_simp
        refine hK.out _ _ (trivial) (fun hHeld => ?_)
        clear hK K
        try simp only [Act.put, put1, put2, put3]
        refine tkY 7 (.agg #[.string s, .slice none 0 0]) 141 rfl rfl (fun w' hw' => ?_) hHeld ?_
        ·go_simp
        try simp only [Act.put, put1, put2, put3]
        refine wpAnyH_ready (rs := [8]) (by kernel_rfl) (by simp) ?_
        refine AllReadyH.cons rfl (fun K hK => ?_) AllReadyH.nil
        go_simp
        have h6 := h5.alloc hcw (.cells #[.string s, .slice none 0 0] 185)
        clear y0 y1 y2 y3 y4 y5 y6 y7 xf
        have xf := fun j => frozen_of_row _ G j _ _ (h6.box)
        obtain ⟨y0, y1, y2, y3, y4, y5, y6, y7⟩ := cells8 (box_cells (h6.box))
        refine hK.out _ _ (trivial) (fun hHeld => ?_)
        clear hK K
        try simp only [Act.put, put1, put2, put3]
        obtain ⟨v8, w8, r8, hb8, ⟨a8, q8, rfl⟩, h8⟩ := h6.push (P := Tryz.prog) (t := 27) (ty := 27) (cp := 1) (y := (⟨s, []⟩ : ShowD)) hcw 5 (fun fp h => lens_shows h) (fun v => rfl) i5 _ 40 Tryz.underlying27 hi5 hz50 hz51 hz52 rfl (by decide) (Cells.new w5 [.string s, .slice none 0 0] 185) ⟨.slice none 0 0, rfl, Nat.le_trans hs (by decide), owL_nil⟩ (by omega) (by omega)
        clear y0 y1 y2 y3 y4 y5 y6 y7 xf
        have xf := fun j => frozen_of_row _ G j _ _ (hb8)
        obtain ⟨y0, y1, y2, y3, y4, y5, y6, y7⟩ := cells8 (box_cells (hb8))
        have H8 := Lib.hid (h8.fin (N' := N + 6000) hcw (by omega) (wee_same hsm hpr rfl))
        clear h5 h6 h8 hb8
        refine wpAnyH_ready (rs := [9]) (by kernel_rfl) (by simp) ?_
        refine AllReadyH.cons rfl (fun K hK => ?_) AllReadyH.nil
        refine step_append_of rfl _ _ rfl rfl rfl r8 ?_
        refine hK.out _ _ (trivial) (fun hHeld => ?_)
        clear hK K
        try simp only [Act.put, put1, put2, put3]
        refine takeD (i := 9 + 1) (v := .pointer (some ⟨G, 5, none⟩)) (some 144) rfl rfl (by kernel_rfl) (by kernel_rfl) (by kernel_rfl) (fun _ _ _ h => h) (Or.inl ⟨by rfl, fun w' hw' => ?_⟩) hHeld ?_
        ·go_simp
        try simp only [Act.put, put1, put2, put3]
        refine wpAnyH_ready (rs := [11]) (by kernel_rfl) (by simp) ?_
        refine AllReadyH.cons rfl (fun K hK => ?_) AllReadyH.nil
        go_simp
        refine hK.out _ _ (trivial) (fun hHeld => ?_)
        clear hK K
        try simp only [Act.put, put1, put2, put3]
        refine wpAnyH_done (by kernel_rfl) ?_ _
        go_wp2_with fail
        go_meet
        exact ⟨rfl, rfl, _, _, H8.out⟩
       ·skip
        go_simp
        refine hK.out _ _ (trivial) (fun hHeld => ?_)
        clear hK K
        try simp only [Act.put, put1, put2, put3]
        refine tkY 7 (.agg #[.string s, .slice none 0 0]) 141 rfl rfl (fun w' hw' => ?_) hHeld ?_
        ·go_simp
        try simp only [Act.put, put1, put2, put3]
        refine wpAnyH_ready (rs := [1, 8]) (by kernel_rfl) (by simp) ?_
        refine AllReadyH.cons rfl (fun K hK => ?_) (AllReadyH.cons rfl (fun K hK => ?_) AllReadyH.nil)
        ·skip
         go_simp
         refine hK.out _ _ (trivial) (fun hHeld => ?_)
         clear hK K
         try simp only [Act.put, put1, put2, put3]
         refine wpAnyH_ready (rs := [8]) (by kernel_rfl) (by simp) ?_
         refine AllReadyH.cons rfl (fun K hK => ?_) AllReadyH.nil
         go_simp
         have h6 := h5.alloc hcw (.cells #[.string s, .slice none 0 0] 185)
         clear y0 y1 y2 y3 y4 y5 y6 y7 xf
         have xf := fun j => frozen_of_row _ G j _ _ (h6.box)
         obtain ⟨y0, y1, y2, y3, y4, y5, y6, y7⟩ := cells8 (box_cells (h6.box))
         refine hK.out _ _ (trivial) (fun hHeld => ?_)
         clear hK K
         try simp only [Act.put, put1, put2, put3]
         obtain ⟨v8, w8, r8, hb8, ⟨a8, q8, rfl⟩, h8⟩ := h6.push (P := Tryz.prog) (t := 27) (ty := 27) (cp := 1) (y := (⟨s, []⟩ : ShowD)) hcw 5 (fun fp h => lens_shows h) (fun v => rfl) i5 _ 40 Tryz.underlying27 hi5 hz50 hz51 hz52 rfl (by decide) (Cells.new w5 [.string s, .slice none 0 0] 185) ⟨.slice none 0 0, rfl, Nat.le_trans hs (by decide), owL_nil⟩ (by omega) (by omega)
         clear y0 y1 y2 y3 y4 y5 y6 y7 xf
         have xf := fun j => frozen_of_row _ G j _ _ (hb8)
         obtain ⟨y0, y1, y2, y3, y4, y5, y6, y7⟩ := cells8 (box_cells (hb8))
         have H8 := Lib.hid (h8.fin (N' := N + 6000) hcw (by omega) (wee_same hsm hpr rfl))
         clear h5 h6 h8 hb8
         refine wpAnyH_ready (rs := [9]) (by kernel_rfl) (by simp) ?_
         refine AllReadyH.cons rfl (fun K hK => ?_) AllReadyH.nil
         refine step_append_of rfl _ _ rfl rfl rfl r8 ?_
         refine hK.out _ _ (trivial) (fun hHeld => ?_)
         clear hK K
         try simp only [Act.put, put1, put2, put3]
         refine takeD (i := 9 + 1) (v := .pointer (some ⟨G, 5, none⟩)) (some 144) rfl rfl (by kernel_rfl) (by kernel_rfl) (by kernel_rfl) (fun _ _ _ h => h) (Or.inl ⟨by rfl, fun w' hw' => ?_⟩) hHeld ?_
         ·go_simp
         try simp only [Act.put, put1, put2, put3]
         refine wpAnyH_ready (rs := [11]) (by kernel_rfl) (by simp) ?_
         refine AllReadyH.cons rfl (fun K hK => ?_) AllReadyH.nil
         go_simp
         refine hK.out _ _ (trivial) (fun hHeld => ?_)
         clear hK K
         try simp only [Act.put, put1, put2, put3]
         refine wpAnyH_done (by kernel_rfl) ?_ _
         go_wp2_with fail
         go_meet
         exact ⟨rfl, rfl, _, _, H8.out⟩
        ·skip
         go_simp
         have h6 := h5.alloc hcw (.cells #[.string s, .slice none 0 0] 185)
         clear y0 y1 y2 y3 y4 y5 y6 y7 xf
         have xf := fun j => frozen_of_row _ G j _ _ (h6.box)
         obtain ⟨y0, y1, y2, y3, y4, y5, y6, y7⟩ := cells8 (box_cells (h6.box))
         refine hK.out _ _ (trivial) (fun hHeld => ?_)
         clear hK K
         try simp only [Act.put, put1, put2, put3]
         refine wpAnyH_ready (rs := [1]) (by kernel_rfl) (by simp) ?_
         refine AllReadyH.cons rfl (fun K hK => ?_) AllReadyH.nil
         go_simp
         refine hK.out _ _ (trivial) (fun hHeld => ?_)
         clear hK K
         try simp only [Act.put, put1, put2, put3]
         obtain ⟨v8, w8, r8, hb8, ⟨a8, q8, rfl⟩, h8⟩ := h6.push (P := Tryz.prog) (t := 27) (ty := 27) (cp := 1) (y := (⟨s, []⟩ : ShowD)) hcw 5 (fun fp h => lens_shows h) (fun v => rfl) i5 _ 40 Tryz.underlying27 hi5 hz50 hz51 hz52 rfl (by decide) (Cells.new w5 [.string s, .slice none 0 0] 185) ⟨.slice none 0 0, rfl, Nat.le_trans hs (by decide), owL_nil⟩ (by omega) (by omega)
         clear y0 y1 y2 y3 y4 y5 y6 y7 xf
         have xf := fun j => frozen_of_row _ G j _ _ (hb8)
         obtain ⟨y0, y1, y2, y3, y4, y5, y6, y7⟩ := cells8 (box_cells (hb8))
         have H8 := Lib.hid (h8.fin (N' := N + 6000) hcw (by omega) (wee_same hsm hpr rfl))
         clear h5 h6 h8 hb8
         refine wpAnyH_ready (rs := [9]) (by kernel_rfl) (by simp) ?_
         refine AllReadyH.cons rfl (fun K hK => ?_) AllReadyH.nil
         refine step_append_of rfl _ _ rfl rfl rfl r8 ?_
         refine hK.out _ _ (trivial) (fun hHeld => ?_)
         clear hK K
         try simp only [Act.put, put1, put2, put3]
         refine takeD (i := 9 + 1) (v := .pointer (some ⟨G, 5, none⟩)) (some 144) rfl rfl (by kernel_rfl) (by kernel_rfl) (by kernel_rfl) (fun _ _ _ h => h) (Or.inl ⟨by rfl, fun w' hw' => ?_⟩) hHeld ?_
         ·go_simp
         try simp only [Act.put, put1, put2, put3]
         refine wpAnyH_ready (rs := [11]) (by kernel_rfl) (by simp) ?_
         refine AllReadyH.cons rfl (fun K hK => ?_) AllReadyH.nil
         go_simp
         refine hK.out _ _ (trivial) (fun hHeld => ?_)
         clear hK K
         try simp only [Act.put, put1, put2, put3]
         refine wpAnyH_done (by kernel_rfl) ?_ _
         go_wp2_with fail
         go_meet
         exact ⟨rfl, rfl, _, _, H8.out⟩
     ·skip
      go_simp
      refine (pick_calls c (N + 5003) 3 _ h5.cur (by omega) ⟨by omega, by omega⟩).mono ?_
      rintro e9 w9 ⟨x, ⟨hx0, hx1, _⟩, rfl, hc9, hw9⟩
      obtain ⟨x, rfl⟩ := Int.eq_ofNat_of_zero_le hx0
      have hx3 : x < 3 := by have := hx1 (by omega); omega
      have hx3i : (x : Int) < 3 := by omega
      have h9 := h5.pick hcw hw9 hc9
      clear y0 y1 y2 y3 y4 y5 y6 y7 xf hx0 hx1 hc9
      clear h5
      have h5 := h9
      clear h9 hw9
      generalize w9 = w5 at *
      have xf := fun j => frozen_of_row _ G j _ _ (h5.box)
      obtain ⟨y0, y1, y2, y3, y4, y5, y6, y7⟩ := cells8 (box_cells (h5.box))
      refine hK.out _ _ (trivial) (fun hHeld => ?_)
      clear hK K
      try simp only [Act.put, put1, put2, put3]
      refine wpAnyH_ready (rs := [1, 2]) (by kernel_rfl) (by simp) ?_
      refine AllReadyH.cons rfl (fun K hK => ?_) (AllReadyH.cons rfl (fun K hK => ?_) AllReadyH.nil)
      ·skip
       go_simp
       refine hK.out _ _ (trivial) (fun hHeld => ?_)
       clear hK K
       try simp only [Act.put, put1, put2, put3]
       refine wpAnyH_ready (rs := [2]) (by kernel_rfl) (by simp) ?_
       refine AllReadyH.cons rfl (fun K hK => ?_) AllReadyH.nil
       go_simp
       generalize hob : Obj.cells _ _ _ = ob
       have tx := tx_new w5 hob (by decide) (by decide) (by decide)
       have h9 := h5.alloc hcw ob
       have hTl : w5.heap.size < (w5.alloc ob).heap.size := by simp
       have hTc : w5.heap.size ≠ c := by have := h5.cg.size; omega
       clear hob h5 y0 y1 y2 y3 y4 y5 y6 y7 xf
       generalize w5.heap.size = T at *
       generalize w5.alloc ob = w5 at *
       have h5 := h9
       clear h9
       have xf := fun j => frozen_of_row _ G j _ _ (h5.box)
       obtain ⟨y0, y1, y2, y3, y4, y5, y6, y7⟩ := cells8 (box_cells (h5.box))
       refine hK.out _ _ (trivial) (fun hHeld => ?_)
       clear hK K
       try simp only [Act.put, put1, put2, put3]
       refine tkY 5 (.pointer (some ⟨T, x, none⟩)) 139 rfl rfl (fun w' hw' => ?_) hHeld ?_
       ·go_simp
       try simp only [Act.put, put1, put2, put3]
       obtain ⟨s, hs, hsx⟩ := tx x hx3
       clear tx
       refine wpAnyH_ready (rs := [6]) (by kernel_rfl) (by simp) ?_
       refine AllReadyH.cons rfl (fun K hK => ?_) AllReadyH.nil
       go_simp
       refine hK.out _ _ (trivial) (fun hHeld => ?_)
       clear hK K
       try simp only [Act.put, put1, put2, put3]
       refine tkY 7 (.agg #[.string s, .slice none 0 0]) 141 rfl rfl (fun w' hw' => ?_) hHeld ?_
       ·go_simp
       try simp only [Act.put, put1, put2, put3]
       refine wpAnyH_ready (rs := [8]) (by kernel_rfl) (by simp) ?_
       refine AllReadyH.cons rfl (fun K hK => ?_) AllReadyH.nil
       go_simp
       have h6 := h5.alloc hcw (.cells #[.string s, .slice none 0 0] 185)
       clear y0 y1 y2 y3 y4 y5 y6 y7 xf
       have xf := fun j => frozen_of_row _ G j _ _ (h6.box)
       obtain ⟨y0, y1, y2, y3, y4, y5, y6, y7⟩ := cells8 (box_cells (h6.box))
       refine hK.out _ _ (trivial) (fun hHeld => ?_)
       clear hK K
       try simp only [Act.put, put1, put2, put3]
       obtain ⟨v8, w8, r8, hb8, ⟨a8, q8, rfl⟩, h8⟩ := h6.push (P := Tryz.prog) (t := 27) (ty := 27) (cp := 1) (y := (⟨s, []⟩ : ShowD)) hcw 5 (fun fp h => lens_shows h) (fun v => rfl) i5 _ 40 Tryz.underlying27 hi5 hz50 hz51 hz52 rfl (by decide) (Cells.new w5 [.string s, .slice none 0 0] 185) ⟨.slice none 0 0, rfl, Nat.le_trans hs (by decide), owL_nil⟩ (by omega) (by omega)
       clear y0 y1 y2 y3 y4 y5 y6 y7 xf
       have xf := fun j => frozen_of_row _ G j _ _ (hb8)
       obtain ⟨y0, y1, y2, y3, y4, y5, y6, y7⟩ := cells8 (box_cells (hb8))
       have H8 := Lib.hid (h8.fin (N' := N + 6000) hcw (by omega) (wee_same hsm hpr rfl))
       clear h5 h6 h8 hb8
       refine wpAnyH_ready (rs := [9]) (by kernel_rfl) (by simp) ?_
       refine AllReadyH.cons rfl (fun K hK => ?_) AllReadyH.nil
       refine step_append_of rfl _ _ rfl rfl rfl r8 ?_
       refine hK.out _ _ (trivial) (fun hHeld => ?_)
       clear hK K
       try simp only [Act.put, put1, put2, put3]
       refine takeD (i := 9 + 1) (v := .pointer (some ⟨G, 5, none⟩)) (some 144) rfl rfl (by kernel_rfl) (by kernel_rfl) (by kernel_rfl) (fun _ _ _ h => h) (Or.inl ⟨by rfl, fun w' hw' => ?_⟩) hHeld ?_
       ·go_simp
       try simp only [Act.put, put1, put2, put3]
       refine wpAnyH_ready (rs := [11]) (by kernel_rfl) (by simp) ?_
       refine AllReadyH.cons rfl (fun K hK => ?_) AllReadyH.nil
       go_simp
       refine hK.out _ _ (trivial) (fun hHeld => ?_)
       clear hK K
       try simp only [Act.put, put1, put2, put3]
       refine wpAnyH_done (by kernel_rfl) ?_ _
       go_wp2_with fail
       go_meet
       exact ⟨rfl, rfl, _, _, H8.out⟩
      ·skip
       go_simp
       generalize hob : Obj.cells _ _ _ = ob
       have tx := tx_new w5 hob (by decide) (by decide) (by decide)
       have h9 := h5.alloc hcw ob
       have hTl : w5.heap.size < (w5.alloc ob).heap.size := by simp
       have hTc : w5.heap.size ≠ c := by have := h5.cg.size; omega
       clear hob h5 y0 y1 y2 y3 y4 y5 y6 y7 xf
       generalize w5.heap.size = T at *
       generalize w5.alloc ob = w5 at *
       have h5 := h9
       clear h9
       have xf := fun j => frozen_of_row _ G j _ _ (h5.box)
       obtain ⟨y0, y1, y2, y3, y4, y5, y6, y7⟩ := cells8 (box_cells (h5.box))
       refine hK.out _ _ (trivial) (fun hHeld => ?_)
       clear hK K
       try simp only [Act.put, put1, put2, put3]
       refine tkY 5 (.pointer (some ⟨T, x, none⟩)) 139 rfl rfl (fun w' hw' => ?_) hHeld ?_
       ·go_simp
       try simp only [Act.put, put1, put2, put3]
       obtain ⟨s, hs, hsx⟩ := tx x hx3
       clear tx
       refine wpAnyH_ready (rs := [1, 6]) (by kernel_rfl) (by simp) ?_
       refine AllReadyH.cons rfl (fun K hK => ?_) (AllReadyH.cons rfl (fun K hK => ?_) AllReadyH.nil)
       ·skip
        go_simp
        refine hK.out _ _ (trivial) (fun hHeld => ?_)
        clear hK K
        try simp only [Act.put, put1, put2, put3]
        refine wpAnyH_ready (rs := [6]) (by kernel_rfl) (by simp) ?_
        refine AllReadyH.cons rfl (fun K hK => ?_) AllReadyH.nil
        go_simp
        refine hK.out _ _ (trivial) (fun hHeld => ?_)
        clear hK K
        try simp only [Act.put, put1, put2, put3]
        refine tkY 7 (.agg #[.string s, .slice none 0 0]) 141 rfl rfl (fun w' hw' => ?_) hHeld ?_
        ·go_simp
        try simp only [Act.put, put1, put2, put3]
        refine wpAnyH_ready (rs := [8]) (by kernel_rfl) (by simp) ?_
        refine AllReadyH.cons rfl (fun K hK => ?_) AllReadyH.nil
        go_simp
        have h6 := h5.alloc hcw (.cells #[.string s, .slice none 0 0] 185)
        clear y0 y1 y2 y3 y4 y5 y6 y7 xf
        have xf := fun j => frozen_of_row _ G j _ _ (h6.box)
        obtain ⟨y0, y1, y2, y3, y4, y5, y6, y7⟩ := cells8 (box_cells (h6.box))
        refine hK.out _ _ (trivial) (fun hHeld => ?_)
        clear hK K
        try simp only [Act.put, put1, put2, put3]
        obtain ⟨v8, w8, r8, hb8, ⟨a8, q8, rfl⟩, h8⟩ := h6.push (P := Tryz.prog) (t := 27) (ty := 27) (cp := 1) (y := (⟨s, []⟩ : ShowD)) hcw 5 (fun fp h => lens_shows h) (fun v => rfl) i5 _ 40 Tryz.underlying27 hi5 hz50 hz51 hz52 rfl (by decide) (Cells.new w5 [.string s, .slice none 0 0] 185) ⟨.slice none 0 0, rfl, Nat.le_trans hs (by decide), owL_nil⟩ (by omega) (by omega)
        clear y0 y1 y2 y3 y4 y5 y6 y7 xf
        have xf := fun j => frozen_of_row _ G j _ _ (hb8)
        obtain ⟨y0, y1, y2, y3, y4, y5, y6, y7⟩ := cells8 (box_cells (hb8))
        have H8 := Lib.hid (h8.fin (N' := N + 6000) hcw (by omega) (wee_same hsm hpr rfl))
        clear h5 h6 h8 hb8
        refine wpAnyH_ready (rs := [9]) (by kernel_rfl) (by simp) ?_
        refine AllReadyH.cons rfl (fun K hK => ?_) AllReadyH.nil
        refine step_append_of rfl _ _ rfl rfl rfl r8 ?_
        refine hK.out _ _ (trivial) (fun hHeld => ?_)
        clear hK K
        try simp only [Act.put, put1, put2, put3]
        refine takeD (i := 9 + 1) (v := .pointer (some ⟨G, 5, none⟩)) (some 144) rfl rfl (by kernel_rfl) (by kernel_rfl) (by kernel_rfl) (fun _ _ _ h => h) (Or.inl ⟨by rfl, fun w' hw' => ?_⟩) hHeld ?_
        ·go_simp
        try simp only [Act.put, put1, put2, put3]
        refine wpAnyH_ready (rs := [11]) (by kernel_rfl) (by simp) ?_
        refine AllReadyH.cons rfl (fun K hK => ?_) AllReadyH.nil
        go_simp
        refine hK.out _ _ (trivial) (fun hHeld => ?_)
        clear hK K
        try simp only [Act.put, put1, put2, put3]
        refine wpAnyH_done (by kernel_rfl) ?_ _
        go_wp2_with fail
        go_meet
        exact ⟨rfl, rfl, _, _, H8.out⟩
       ·skip
        go_simp
        refine hK.out _ _ (trivial) (fun hHeld => ?_)
        clear hK K
        try simp only [Act.put, put1, put2, put3]
        refine tkY 7 (.agg #[.string s, .slice none 0 0]) 141 rfl rfl (fun w' hw' => ?_) hHeld ?_
        ·go_simp
        try simp only [Act.put, put1, put2, put3]
        refine wpAnyH_ready (rs := [1, 8]) (by kernel_rfl) (by simp) ?_
        refine AllReadyH.cons rfl (fun K hK => ?_) (AllReadyH.cons rfl (fun K hK => ?_) AllReadyH.nil)
        ·skip
         go_simp
         refine hK.out _ _ (trivial) (fun hHeld => ?_)
         clear hK K
         try simp only [Act.put, put1, put2, put3]
         refine wpAnyH_ready (rs := [8]) (by kernel_rfl) (by simp) ?_
         refine AllReadyH.cons rfl (fun K hK => ?_) AllReadyH.nil
         go_simp
         have h6 := h5.alloc hcw (.cells #[.string s, .slice none 0 0] 185)
         clear y0 y1 y2 y3 y4 y5 y6 y7 xf
         have xf := fun j => frozen_of_row _ G j _ _ (h6.box)
         obtain ⟨y0, y1, y2, y3, y4, y5, y6, y7⟩ := cells8 (box_cells (h6.box))
         refine hK.out _ _ (trivial) (fun hHeld => ?_)
         clear hK K
         try simp only [Act.put, put1, put2, put3]
         obtain ⟨v8, w8, r8, hb8, ⟨a8, q8, rfl⟩, h8⟩ := h6.push (P := Tryz.prog) (t := 27) (ty := 27) (cp := 1) (y := (⟨s, []⟩ : ShowD)) hcw 5 (fun fp h => lens_shows h) (fun v => rfl) i5 _ 40 Tryz.underlying27 hi5 hz50 hz51 hz52 rfl (by decide) (Cells.new w5 [.string s, .slice none 0 0] 185) ⟨.slice none 0 0, rfl, Nat.le_trans hs (by decide), owL_nil⟩ (by omega) (by omega)
         clear y0 y1 y2 y3 y4 y5 y6 y7 xf
         have xf := fun j => frozen_of_row _ G j _ _ (hb8)
         obtain ⟨y0, y1, y2, y3, y4, y5, y6, y7⟩ := cells8 (box_cells (hb8))
         have H8 := Lib.hid (h8.fin (N' := N + 6000) hcw (by omega) (wee_same hsm hpr rfl))
         clear h5 h6 h8 hb8
         refine wpAnyH_ready (rs := [9]) (by kernel_rfl) (by simp) ?_
         refine AllReadyH.cons rfl (fun K hK => ?_) AllReadyH.nil
         refine step_append_of rfl _ _ rfl rfl rfl r8 ?_
         refine hK.out _ _ (trivial) (fun hHeld => ?_)
         clear hK K
         try simp only [Act.put, put1, put2, put3]
         refine takeD (i := 9 + 1) (v := .pointer (some ⟨G, 5, none⟩)) (some 144) rfl rfl (by kernel_rfl) (by kernel_rfl) (by kernel_rfl) (fun _ _ _ h => h) (Or.inl ⟨by rfl, fun w' hw' => ?_⟩) hHeld ?_
         ·go_simp
         try simp only [Act.put, put1, put2, put3]
         refine wpAnyH_ready (rs := [11]) (by kernel_rfl) (by simp) ?_
         refine AllReadyH.cons rfl (fun K hK => ?_) AllReadyH.nil
         go_simp
         refine hK.out _ _ (trivial) (fun hHeld => ?_)
         clear hK K
         try simp only [Act.put, put1, put2, put3]
         refine wpAnyH_done (by kernel_rfl) ?_ _
         go_wp2_with fail
         go_meet
         exact ⟨rfl, rfl, _, _, H8.out⟩
        ·skip
         go_simp
         have h6 := h5.alloc hcw (.cells #[.string s, .slice none 0 0] 185)
         clear y0 y1 y2 y3 y4 y5 y6 y7 xf
         have xf := fun j => frozen_of_row _ G j _ _ (h6.box)
         obtain ⟨y0, y1, y2, y3, y4, y5, y6, y7⟩ := cells8 (box_cells (h6.box))
         refine hK.out _ _ (trivial) (fun hHeld => ?_)
         clear hK K
         try simp only [Act.put, put1, put2, put3]
         refine wpAnyH_ready (rs := [1]) (by kernel_rfl) (by simp) ?_
         refine AllReadyH.cons rfl (fun K hK => ?_) AllReadyH.nil
         go_simp
         refine hK.out _ _ (trivial) (fun hHeld => ?_)
         clear hK K
         try simp only [Act.put, put1, put2, put3]
         obtain ⟨v8, w8, r8, hb8, ⟨a8, q8, rfl⟩, h8⟩ := h6.push (P := Tryz.prog) (t := 27) (ty := 27) (cp := 1) (y := (⟨s, []⟩ : ShowD)) hcw 5 (fun fp h => lens_shows h) (fun v => rfl) i5 _ 40 Tryz.underlying27 hi5 hz50 hz51 hz52 rfl (by decide) (Cells.new w5 [.string s, .slice none 0 0] 185) ⟨.slice none 0 0, rfl, Nat.le_trans hs (by decide), owL_nil⟩ (by omega) (by omega)
         clear y0 y1 y2 y3 y4 y5 y6 y7 xf
         have xf := fun j => frozen_of_row _ G j _ _ (hb8)
         obtain ⟨y0, y1, y2, y3, y4, y5, y6, y7⟩ := cells8 (box_cells (hb8))
         have H8 := Lib.hid (h8.fin (N' := N + 6000) hcw (by omega) (wee_same hsm hpr rfl))
         clear h5 h6 h8 hb8
         refine wpAnyH_ready (rs := [9]) (by kernel_rfl) (by simp) ?_
         refine AllReadyH.cons rfl (fun K hK => ?_) AllReadyH.nil
         refine step_append_of rfl _ _ rfl rfl rfl r8 ?_
         refine hK.out _ _ (trivial) (fun hHeld => ?_)
         clear hK K
         try simp only [Act.put, put1, put2, put3]
         refine takeD (i := 9 + 1) (v := .pointer (some ⟨G, 5, none⟩)) (some 144) rfl rfl (by kernel_rfl) (by kernel_rfl) (by kernel_rfl) (fun _ _ _ h => h) (Or.inl ⟨by rfl, fun w' hw' => ?_⟩) hHeld ?_
         ·go_simp
         try simp only [Act.put, put1, put2, put3]
         refine wpAnyH_ready (rs := [11]) (by kernel_rfl) (by simp) ?_
         refine AllReadyH.cons rfl (fun K hK => ?_) AllReadyH.nil
         go_simp
         refine hK.out _ _ (trivial) (fun hHeld => ?_)
         clear hK K
         try simp only [Act.put, put1, put2, put3]
         refine wpAnyH_done (by kernel_rfl) ?_ _
         go_wp2_with fail
         go_meet
         exact ⟨rfl, rfl, _, _, H8.out⟩
   obtain rfl : r = 11 := by omega
   as_aux_lemma =>
    have hA := Lib.hid (h4.fin (N' := N + 6000) hcw (by omega) (wee_same hsm hpr rfl))
    clear h4 hsm hpr y0 y1 y2 y3 y4 y5 y6 y7 xf m1 m2 m4 m5 m6 m7 hlen
    go_wp2_with fail
    generalize hr11 : ((11 : Nat) : Int) = r11
    replace hr11 := Lib.hid hr11
    go_loopw [21] (fun _ wr => ∃ bx q, AF w c (N + 6000) G wr bx q ∧ k < q.rules.length) (fun _ wr => 61 - lenAt wr G)
    case atStart => exact ⟨_, _, hA.out, hk⟩
    case round =>
     obtain ⟨bx, q, hF, hkq⟩ := hrel
     obtain ⟨bx0, bx1, bx2, bx3, bx4, bx5, bx6, bx7, rfl⟩ := list8 (Rd.len hF.rd)
     obtain ⟨gq, capq, curq, eq, feq, rfl, hL⟩ := hF.lent.at
     obtain ⟨x0, x1, x2, x3, x4, fx, ⟨u0, u1, u2, u3, u4⟩, hsz, hone, hO, hfx⟩ := hL.rule hkq
     have hml : lenAt wr G = q.rules.length := lenAt_box hF.box
     clear hA
     obtain ⟨y0, y1, y2, y3, y4, y5, y6, y7⟩ := cells8 (box_cells hF.box)
     have xf := fun j => frozen_of_row wr G j _ _ hF.box
     by_cases hlt : q.rules.length ≤ 60
     ·have hgl := block_lt hL.row
      have hGl := block_lt hF.box
      have hgG : gq ≠ G := fun e => hL.gne.2 (.inr e)
      obtain ⟨ir, hir, hzr0, hzr1, hzr2⟩ := info_parts info_rule
      go_upto_region 7 with fail
      have k6 : Cg (fun _ => False) wr (wr.drew.alloc (.cells #[x0, x1, x2, x3, x4] 34)) := ((Cg.refl _ wr).drew).alloc _
      obtain ⟨g8, cap8, w8, r8, hb8, h8⟩ := hF.push (P := Tryz.prog) (t := 24) (ty := 24) (cp := 1) hL hcw ir _ 72 Tryz.underlying24 hir hzr0 hzr1 hzr2 rfl hkq hO hfx k6 (Cells.new wr.drew [x0, x1, x2, x3, x4] 34) hlt (by omega)
      have hb6 := k6.at hF.box (fun h => h)
      have hM : 61 - lenAt (w8.setCell ⟨G, 1, none⟩ (.slice (some ⟨g8, 0, none⟩) (q.rules.length + 1) cap8)) G < 61 - lenAt wr G := by rw [hml, lenAt_box h8.box]; omega
      have H8 := Lib.hid h8
      refine wp_region_held_drew (S := fun _ => True) (by kernel_rfl) trivial (fun hHeld => ?_)
      refine tkY 0 (.pointer (some ⟨G, 1, none⟩)) 22 rfl rfl (fun w' hw' => ?_) hHeld ?_
      ·go_simp
      try simp only [Act.put, put1, put2, put3]
      refine tkY 2 (.pointer (some ⟨G, 1, none⟩)) 24 rfl rfl (fun w' hw' => ?_) hHeld ?_
      ·go_simp
      try simp only [Act.put, put1, put2, put3]
      refine tkY 4 (.int .i64 (k : Int)) 26 rfl rfl (fun w' hw' => ?_) hHeld ?_
      ·go_simp
      try simp only [Act.put, put1, put2, put3]
      refine wpAnyH_ready (rs := [1, 3]) (by kernel_rfl) (by simp) ?_
      refine AllReadyH.cons rfl (fun K hK => ?_) (AllReadyH.cons rfl (fun K hK => ?_) AllReadyH.nil)
      ·skip
       go_simp
       refine hK.out _ _ (trivial) (fun hHeld => ?_)
       clear hK K
       try simp only [Act.put, put1, put2, put3]
       refine wpAnyH_ready (rs := [3]) (by kernel_rfl) (by simp) ?_
       refine AllReadyH.cons rfl (fun K hK => ?_) AllReadyH.nil
       go_simp
       refine hK.out _ _ (trivial) (fun hHeld => ?_)
       clear hK K
       try simp only [Act.put, put1, put2, put3]
       refine tkY 5 (.pointer (some ⟨gq, k * 5, none⟩)) 27 rfl rfl (fun w' hw' => ?_) hHeld ?_
       ·go_simp
       try simp only [Act.put, put1, put2, put3]
       refine wpAnyH_ready (rs := [6]) (by kernel_rfl) (by simp) ?_
       refine AllReadyH.cons rfl (fun K hK => ?_) AllReadyH.nil
       go_simp
       refine hK.out _ _ (trivial) (fun hHeld => ?_)
       clear hK K
       try simp only [Act.put, put1, put2, put3]
       refine wpAnyH_ready (rs := [7]) (by kernel_rfl) (by simp) ?_
       refine AllReadyH.cons rfl (fun K hK => ?_) AllReadyH.nil
       go_simp
       refine hK.out _ _ (trivial) (fun hHeld => ?_)
       clear hK K
       try simp only [Act.put, put1, put2, put3]
       clear y0 y1 y2 y3 y4 y5 y6 y7 xf
       have xf := fun j => frozen_of_row _ G j _ _ (hb8)
       obtain ⟨y0, y1, y2, y3, y4, y5, y6, y7⟩ := cells8 (box_cells (hb8))
       refine wpAnyH_ready (rs := [8]) (by kernel_rfl) (by simp) ?_
       refine AllReadyH.cons rfl (fun K hK => ?_) AllReadyH.nil
       refine step_append_of rfl _ _ rfl rfl rfl r8 ?_
       refine hK.out _ _ (trivial) (fun hHeld => ?_)
       clear hK K
       try simp only [Act.put, put1, put2, put3]
       refine tkY 9 (.pointer (some ⟨G, 1, none⟩)) 31 rfl rfl (fun w' hw' => ?_) hHeld ?_
       ·go_simp
       try simp only [Act.put, put1, put2, put3]
       refine wpAnyH_ready (rs := [10]) (by kernel_rfl) (by simp) ?_
       refine AllReadyH.cons rfl (fun K hK => ?_) AllReadyH.nil
       go_simp
       refine hK.out _ _ (trivial) (fun hHeld => ?_)
       clear hK K
       try simp only [Act.put, put1, put2, put3]
       refine wpAnyH_done (by kernel_rfl) ?_ _
       go_wp2_with fail
       go_roundw
       case rel => exact ⟨_, _, H8.out, by simp; omega⟩
       case measure => exact hM
      ·skip
       go_simp
       refine hK.out _ _ (trivial) (fun hHeld => ?_)
       clear hK K
       try simp only [Act.put, put1, put2, put3]
       refine tkY 5 (.pointer (some ⟨gq, k * 5, none⟩)) 27 rfl rfl (fun w' hw' => ?_) hHeld ?_
       ·go_simp
       try simp only [Act.put, put1, put2, put3]
       refine wpAnyH_ready (rs := [1, 6]) (by kernel_rfl) (by simp) ?_
       refine AllReadyH.cons rfl (fun K hK => ?_) (AllReadyH.cons rfl (fun K hK => ?_) AllReadyH.nil)
       ·skip
        go_simp
        refine hK.out _ _ (trivial) (fun hHeld => ?_)
        clear hK K
        try simp only [Act.put, put1, put2, put3]
        refine wpAnyH_ready (rs := [6]) (by kernel_rfl) (by simp) ?_
        refine AllReadyH.cons rfl (fun K hK => ?_) AllReadyH.nil
        go_simp
        refine hK.out _ _ (trivial) (fun hHeld => ?_)
        clear hK K
        try simp only [Act.put, put1, put2, put3]
        refine wpAnyH_ready (rs := [7]) (by kernel_rfl) (by simp) ?_
        refine AllReadyH.cons rfl (fun K hK => ?_) AllReadyH.nil
        go_simp
        refine hK.out _ _ (trivial) (fun hHeld => ?_)
        clear hK K
        try simp only [Act.put, put1, put2, put3]
        clear y0 y1 y2 y3 y4 y5 y6 y7 xf
        have xf := fun j => frozen_of_row _ G j _ _ (hb8)
        obtain ⟨y0, y1, y2, y3, y4, y5, y6, y7⟩ := cells8 (box_cells (hb8))
        refine wpAnyH_ready (rs := [8]) (by kernel_rfl) (by simp) ?_
        refine AllReadyH.cons rfl (fun K hK => ?_) AllReadyH.nil
        refine step_append_of rfl _ _ rfl rfl rfl r8 ?_
        refine hK.out _ _ (trivial) (fun hHeld => ?_)
        clear hK K
        try simp only [Act.put, put1, put2, put3]
        refine tkY 9 (.pointer (some ⟨G, 1, none⟩)) 31 rfl rfl (fun w' hw' => ?_) hHeld ?_
        ·go_simp
        try simp only [Act.put, put1, put2, put3]
        refine wpAnyH_ready (rs := [10]) (by kernel_rfl) (by simp) ?_
        refine AllReadyH.cons rfl (fun K hK => ?_) AllReadyH.nil
        go_simp
        refine hK.out _ _ (trivial) (fun hHeld => ?_)
        clear hK K
        try simp only [Act.put, put1, put2, put3]
        refine wpAnyH_done (by kernel_rfl) ?_ _
        go_wp2_with fail
        go_roundw
        case rel => exact ⟨_, _, H8.out, by simp; omega⟩
        case measure => exact hM
       ·skip
        go_simp
        refine hK.out _ _ (trivial) (fun hHeld => ?_)
        clear hK K
        try simp only [Act.put, put1, put2, put3]
        refine wpAnyH_ready (rs := [1, 7]) (by kernel_rfl) (by simp) ?_
        refine AllReadyH.cons rfl (fun K hK => ?_) (AllReadyH.cons rfl (fun K hK => ?_) AllReadyH.nil)
        ·skip
         go_simp
         refine hK.out _ _ (trivial) (fun hHeld => ?_)
         clear hK K
         try simp only [Act.put, put1, put2, put3]
         refine wpAnyH_ready (rs := [7]) (by kernel_rfl) (by simp) ?_
         refine AllReadyH.cons rfl (fun K hK => ?_) AllReadyH.nil
         go_simp
         refine hK.out _ _ (trivial) (fun hHeld => ?_)
         clear hK K
         try simp only [Act.put, put1, put2, put3]
         clear y0 y1 y2 y3 y4 y5 y6 y7 xf
         have xf := fun j => frozen_of_row _ G j _ _ (hb8)
         obtain ⟨y0, y1, y2, y3, y4, y5, y6, y7⟩ := cells8 (box_cells (hb8))
         refine wpAnyH_ready (rs := [8]) (by kernel_rfl) (by simp) ?_
         refine AllReadyH.cons rfl (fun K hK => ?_) AllReadyH.nil
         refine step_append_of rfl _ _ rfl rfl rfl r8 ?_
         refine hK.out _ _ (trivial) (fun hHeld => ?_)
         clear hK K
         try simp only [Act.put, put1, put2, put3]
         refine tkY 9 (.pointer (some ⟨G, 1, none⟩)) 31 rfl rfl (fun w' hw' => ?_) hHeld ?_
         ·go_simp
         try simp only [Act.put, put1, put2, put3]
         refine wpAnyH_ready (rs := [10]) (by kernel_rfl) (by simp) ?_
         refine AllReadyH.cons rfl (fun K hK => ?_) AllReadyH.nil
         go_simp
         refine hK.out _ _ (trivial) (fun hHeld => ?_)
         clear hK K
         try simp only [Act.put, put1, put2, put3]
         refine wpAnyH_done (by kernel_rfl) ?_ _
         go_wp2_with fail
         go_roundw
         case rel => exact ⟨_, _, H8.out, by simp; omega⟩
         case measure => exact hM
        ·skip
         go_simp
         refine hK.out _ _ (trivial) (fun hHeld => ?_)
         clear hK K
         try simp only [Act.put, put1, put2, put3]
         refine wpAnyH_ready (rs := [1]) (by kernel_rfl) (by simp) ?_
         refine AllReadyH.cons rfl (fun K hK => ?_) AllReadyH.nil
         go_simp
         refine hK.out _ _ (trivial) (fun hHeld => ?_)
         clear hK K
         try simp only [Act.put, put1, put2, put3]
         clear y0 y1 y2 y3 y4 y5 y6 y7 xf
         have xf := fun j => frozen_of_row _ G j _ _ (hb8)
         obtain ⟨y0, y1, y2, y3, y4, y5, y6, y7⟩ := cells8 (box_cells (hb8))
         refine wpAnyH_ready (rs := [8]) (by kernel_rfl) (by simp) ?_
         refine AllReadyH.cons rfl (fun K hK => ?_) AllReadyH.nil
         refine step_append_of rfl _ _ rfl rfl rfl r8 ?_
         refine hK.out _ _ (trivial) (fun hHeld => ?_)
         clear hK K
         try simp only [Act.put, put1, put2, put3]
         refine tkY 9 (.pointer (some ⟨G, 1, none⟩)) 31 rfl rfl (fun w' hw' => ?_) hHeld ?_
         ·go_simp
         try simp only [Act.put, put1, put2, put3]
         refine wpAnyH_ready (rs := [10]) (by kernel_rfl) (by simp) ?_
         refine AllReadyH.cons rfl (fun K hK => ?_) AllReadyH.nil
         go_simp
         refine hK.out _ _ (trivial) (fun hHeld => ?_)
         clear hK K
         try simp only [Act.put, put1, put2, put3]
         refine wpAnyH_done (by kernel_rfl) ?_ _
         go_wp2_with fail
         go_roundw
         case rel => exact ⟨_, _, H8.out, by simp; omega⟩
         case measure => exact hM
     ·go_wp2_with fail
      have er11 := hr11.out
      subst er11
      go_meet
      exact ⟨rfl, rfl, _, _, hF⟩
  case rest =>
   obtain ⟨rfl, rfl, bx, p2, h3⟩ := hcut
   clear h4 hsm hpr
   have hRd0 := (h3).rd
   obtain ⟨b0, b1, b2, b3, b4, b5, b6, b7, rfl⟩ := list8 (Rd.len hRd0)
   have l1 := Rd.one hRd0
   obtain ⟨x0, x1, x2, x3, x4, x5, x6, x7⟩ := cells8 (box_cells (h3).res)
   obtain ⟨y0, y1, y2, y3, y4, y5, y6, y7⟩ := cells8 (box_cells (h3).box)
   have xf := fun j => frozen_of_row wc w.heap.size j _ _ (h3).res
   have st0 := sto Tryz.prog (l1 b0 (by simp))
   have st1 := sto Tryz.prog (l1 b1 (by simp))
   have st2 := sto Tryz.prog (l1 b2 (by simp))
   have st3 := sto Tryz.prog (l1 b3 (by simp))
   have st4 := sto Tryz.prog (l1 b4 (by simp))
   have st5 := sto Tryz.prog (l1 b5 (by simp))
   have st6 := sto Tryz.prog (l1 b6 (by simp))
   have st7 := sto Tryz.prog (l1 b7 (by simp))
   have hk := fun u0 u1 u2 u3 u4 u5 u6 u7 => res_cg8 wc w.heap.size u0 u1 u2 u3 u4 u5 u6 u7
   have hlG := (h3).lt
   have hln : (w.heap.size : Nat) < (wc).heap.size := block_lt (h3).res
   have hC := (h3).cur
   have hG := (h3).cg
   have hRD := (h3).lent
   have hWE := (h3).wee
   go_wp2
   exact bodyPost_ret (v := .agg #[b0, b1, b2, b3, b4, b5, b6, b7]) (by first | (simp [results, Tryz.results61, go_sem, x0, x1, x2, x3, x4, x5, x6, x7]; done) | (simp [results, Tryz.results61, go_sem, x0, x1, x2, x3, x4, x5, x6, x7]; omega)) rfl
    ⟨[b0, b1, b2, b3, b4, b5, b6, b7], _, rfl, (hRD.cg ((hk _ _ _ _ _ _ _ _).more fun g _ hg => .inl (Nat.le_of_eq hg))).weak (Nat.le_succ _) (fun x e => .inl (Nat.le_of_lt e)), hWE, (hC.cg ((hk _ _ _ _ _ _ _ _).more fun g _ hg => by omega)).mono (by omega), (hG.trans ((hk _ _ _ _ _ _ _ _).more fun g _ hg => .inr (by omega))).toWrote⟩

end Go.Proofs.YthikhkeofcjdfaaGreat
