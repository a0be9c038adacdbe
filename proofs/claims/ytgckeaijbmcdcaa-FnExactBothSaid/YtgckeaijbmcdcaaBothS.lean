/-
  spec.Both: what it answers. No condition of its own.
-/
import Derived.Test.YtgckeaijbmcdcaaCopyM
import Derived.Test.YtgckeaijbmcdcaaSpecProg
import Derived.Test.YtgckeaijbmcdcaaBothI
namespace Go.Proofs.Ytgckeaijbmcdcaa
open Go.RowKit
set_option maxRecDepth 100000

set_option maxHeartbeats 4000000 in
theorem specBoth_calls {cs ds : List Value} {p q : ProgD} {w : World} (h : Rd.R w cs p) (g : Rd.R w ds q) :
    Calls Try.prog 6 #[.agg cs.toArray, .agg ds.toArray] w fun e w' => ∃ cs', e = .returned (.tuple #[.agg cs'.toArray, .bool (bothB p q)]) ∧ Own w.heap.size w' cs' (bothR p q) ∧ Below w.heap.size w w' := by
  obtain ⟨p0, p1, p2, p3, p4, p5, p6, p7, rfl⟩ := list8 (Rd.len h)
  obtain ⟨q0, q1, q2, q3, q4, q5, q6, q7, rfl⟩ := list8 (Rd.len g)
  have t0 : Below w.heap.size w (((w.alloc (.cells #[p0, p1, p2, p3, p4, p5, p6, p7] 35)).alloc (.cells #[q0, q1, q2, q3, q4, q5, q6, q7] 35)).alloc (.cells #[.int .i64 0, .slice none 0 0, .slice none 0 0, .bool false, .slice none 0 0, .slice none 0 0, .slice none 0 0, .slice none 0 0] 35)) :=
    (((Below.refl _ _).alloc (by simp) _).alloc (by simp) _).alloc (by simp; omega) _
  have CP := ((Cells.new w [p0, p1, p2, p3, p4, p5, p6, p7] 35).alloc (.cells #[q0, q1, q2, q3, q4, q5, q6, q7] 35)).alloc (.cells #[.int .i64 0, .slice none 0 0, .slice none 0 0, .bool false, .slice none 0 0, .slice none 0 0, .slice none 0 0, .slice none 0 0] 35)
  have CQ := (Cells.new (w.alloc (.cells #[p0, p1, p2, p3, p4, p5, p6, p7] 35)) [q0, q1, q2, q3, q4, q5, q6, q7] 35).alloc (.cells #[.int .i64 0, .slice none 0 0, .slice none 0 0, .bool false, .slice none 0 0, .slice none 0 0, .slice none 0 0, .slice none 0 0] 35)
  have CR := Cells.new ((w.alloc (.cells #[p0, p1, p2, p3, p4, p5, p6, p7] 35)).alloc (.cells #[q0, q1, q2, q3, q4, q5, q6, q7] 35)) [.int .i64 0, .slice none 0 0, .slice none 0 0, .bool false, .slice none 0 0, .slice none 0 0, .slice none 0 0, .slice none 0 0] 35
  have hb0 := alloc_block ((w.alloc (.cells #[p0, p1, p2, p3, p4, p5, p6, p7] 35)).alloc (.cells #[q0, q1, q2, q3, q4, q5, q6, q7] 35)) #[.int .i64 0, .slice none 0 0, .slice none 0 0, .bool false, .slice none 0 0, .slice none 0 0, .slice none 0 0, .slice none 0 0] 35
  rw [World.size_alloc, World.size_alloc] at hb0
  rw [World.size_alloc] at CQ CR
  rw [World.size_alloc] at CR
  cases hp : progOkB p
  · have hb := bothB_A (q := q) hp
    have hr := Lib.hid (bothR_no hb)
    have hb := Lib.hid hb
    go_enter Try.func6, Try.ntmps6
    go_wp2_with fail
    refine (specProgOk_calls (Rd.mono t0 h)).mono ?_
    rintro e w1 ⟨he, b1⟩
    rw [hp] at he
    subst he
    have CR1 := CR.later b1
    obtain ⟨z0, z1, z2, z3, z4, z5, z6, z7⟩ := cells8 CR1
    obtain ⟨hcA, hf1⟩ := bcell b1
    clear hcA
    have hz1 : w.heap.size + 1 + 1 < w1.heap.size := by have := b1.size; simp at this; omega
    have t1 := t0.step b1
    clear CP CQ CR CR1
    go_wp2
    exact bodyPost_ret (v := .tuple #[.agg #[.int .i64 0, .slice none 0 0, .slice none 0 0, .bool false, .slice none 0 0, .slice none 0 0, .slice none 0 0, .slice none 0 0], .bool false])
      (by simp [results, Try.results6, go_sem, z0, z1, z2, z3, z4, z5, z6, z7]) rfl ⟨_, by rw [hb.out], by rw [hr.out]; exact own_zero _ _, by
      repeat (refine Below.setCell ?_ (by simp; try omega) _)
      exact t1⟩
  cases hq : progOkB q
  · have hb := bothB_B (p := p) hq
    have hr := Lib.hid (bothR_no hb)
    have hb := Lib.hid hb
    go_enter Try.func6, Try.ntmps6
    go_wp2_with fail
    refine (specProgOk_calls (Rd.mono t0 h)).mono ?_
    rintro e w1 ⟨he, b1⟩
    rw [hp] at he
    subst he
    have CQ1 := CQ.later b1
    obtain ⟨y0, y1, y2, y3, y4, y5, y6, y7⟩ := cells8 CQ1
    have t1 := t0.step b1
    have hs1 : w.heap.size + 1 + 1 + 1 ≤ w1.heap.size := by have := b1.size; simpa using this
    go_wp2_with fail
    refine (specProgOk_calls (Rd.mono t1 g)).mono ?_
    rintro e w2 ⟨he, b2⟩
    rw [hq] at he
    subst he
    clear y0 y1 y2 y3 y4 y5 y6 y7
    have b12 := b1.step b2
    have CR1 := CR.later b12
    obtain ⟨z0, z1, z2, z3, z4, z5, z6, z7⟩ := cells8 CR1
    obtain ⟨hcA, hf1⟩ := bcell b12
    clear hcA
    have hz1 : w.heap.size + 1 + 1 < w2.heap.size := by have := b2.size; omega
    have t2 := t1.step b2
    clear CP CQ CR CR1 CQ1
    go_wp2
    exact bodyPost_ret (v := .tuple #[.agg #[.int .i64 0, .slice none 0 0, .slice none 0 0, .bool false, .slice none 0 0, .slice none 0 0, .slice none 0 0, .slice none 0 0], .bool false])
      (by simp [results, Try.results6, go_sem, z0, z1, z2, z3, z4, z5, z6, z7]) rfl ⟨_, by rw [hb.out], by rw [hr.out]; exact own_zero _ _, by
      repeat (refine Below.setCell ?_ (by simp; try omega) _)
      exact t2⟩
  -- both are ok
  have sp := szP_ok hp
  have sq := szP_ok hq
  have ap := progOk_atoms hp
  have aq := progOk_atoms hq
  have nr := (progOk_rules hp).1
  have nq := (progOk_rules hq).1
  obtain ⟨i3, hi3, hz30, hz31, hz32⟩ := info_parts info_copiesRule
  have HB : Hid (bothB p q = decide (p.rules.length + q.rules.length ≤ 60)) := by show _ = _; simp only [bothB, hp, hq, Bool.true_and]
  have gg := g
  obtain ⟨d1, d2, d4, d5, d6, d7, he, hfq, gq1, _⟩ := gg
  simp only [List.cons.injEq, and_true] at he
  obtain ⟨rfl, rfl, rfl, rfl, rfl, rfl, rfl, rfl⟩ := he
  have hh := h
  obtain ⟨d1, d2, d4, d5, d6, d7, he, hfp, gp1, _⟩ := hh
  simp only [List.cons.injEq, and_true] at he
  obtain ⟨rfl, rfl, rfl, rfl, rfl, rfl, rfl, rfl⟩ := he
  obtain ⟨ap1, kp1, rfl, _, _⟩ := gp1.sl
  obtain ⟨aq1, kq1, rfl, _, hrow⟩ := gq1.sl
  go_enter Try.func6, Try.ntmps6
  go_wp2_with fail
  refine (specProgOk_calls (Rd.mono t0 h)).mono ?_
  rintro e w1 ⟨he, b1⟩
  rw [hp] at he
  subst he
  have CQ1 := CQ.later b1
  obtain ⟨y0, y1, y2, y3, y4, y5, y6, y7⟩ := cells8 CQ1
  have t1 := t0.step b1
  have hs1 : w.heap.size + 1 + 1 + 1 ≤ w1.heap.size := by have := b1.size; simpa using this
  go_wp2_with fail
  refine (specProgOk_calls (Rd.mono t1 g)).mono ?_
  rintro e w2 ⟨he, b2⟩
  rw [hq] at he
  subst he
  clear y0 y1 y2 y3 y4 y5 y6 y7
  have b12 := b1.step b2
  have CP2 := CP.later b12
  have CQ2 := CQ.later b12
  have hs2 : w1.heap.size ≤ w2.heap.size := b2.size
  obtain ⟨y0, y1, y2, y3, y4, y5, y6, y7⟩ := cells8 CP2
  obtain ⟨x0, x1, x2, x3, x4, x5, x6, x7⟩ := cells8 CQ2
  have t2 := t1.step b2
  by_cases hlen : 60 < p.rules.length + q.rules.length
  · have hb : Hid (bothB p q = false) := by show _ = _; rw [HB.out]; exact decide_eq_false (by omega)
    have hr := Lib.hid (bothR_no hb.out)
    have hl1 : (60 : Int) < (p.rules.length : Int) + (q.rules.length : Int) := by omega
    have CR1 := CR.later b12
    obtain ⟨z0, z1, z2, z3, z4, z5, z6, z7⟩ := cells8 CR1
    obtain ⟨hcA, hf1⟩ := bcell b12
    clear hcA
    have hz1 : w.heap.size + 1 + 1 < w2.heap.size := by omega
    clear CP CQ CR CR1 CQ1 CP2 CQ2 hlen
    go_wp2
    exact bodyPost_ret (v := .tuple #[.agg #[.int .i64 0, .slice none 0 0, .slice none 0 0, .bool false, .slice none 0 0, .slice none 0 0, .slice none 0 0, .slice none 0 0], .bool false])
      (by simp [results, Try.results6, go_sem, z0, z1, z2, z3, z4, z5, z6, z7]) rfl ⟨_, by rw [hb.out], by rw [hr.out]; exact own_zero _ _, by
      repeat (refine Below.setCell ?_ (by simp; try omega) _)
      exact t2⟩
  have hb' : Hid (bothB p q = true) := by show _ = _; rw [HB.out]; exact decide_eq_true (by omega)
  have hr := Lib.hid (bothR_yes hb'.out)
  have hl1 : (p.rules.length : Int) + (q.rules.length : Int) ≤ 60 := by omega
  clear hlen
  go_wp2_with fail
  refine (l02Copy_calls (Rd.mono t2 h) sp).mono ?_
  rintro e w3 ⟨c1, c2, c4, c5, c6, c7, D0, rfl, hP0, hD0, b3⟩
  clear y0 y1 y2 y3 y4 y5 y6 y7 x0 x1 x2 x3 x4 x5 x6 x7
  have hs3 : w2.heap.size ≤ w3.heap.size := b3.size
  have b13 := b12.step b3
  have t3 := t2.step b3
  have one := Rd.one hP0.own.rd
  have st1 := sto Try.prog (one c1 (by simp))
  have st2 := sto Try.prog (one c2 (by simp))
  have st4 := sto Try.prog (one c4 (by simp))
  have st5 := sto Try.prog (one c5 (by simp))
  have st6 := sto Try.prog (one c6 (by simp))
  have st7 := sto Try.prog (one c7 (by simp))
  have CP3 := CP.later b13
  have CQ3 := CQ.later b13
  obtain ⟨y0, y1, y2, y3, y4, y5, y6, y7⟩ := cells8 CQ3
  have hl2 : w.heap.size + 1 < w3.heap.size := by omega
  have hm := hrow.1
  go_wp2
  clear y0 y1 y2 y3 y4 y5 y6 y7
  have b34 := (Below.refl w3.heap.size w3).alloc (Nat.le_refl _) (.cells #[.int .i64 p.atoms, c1, c2, .bool p.projOn, c4, c5, c6, c7] 35)
  have t4 := t3.alloc t3.size (.cells #[.int .i64 p.atoms, c1, c2, .bool p.projOn, c4, c5, c6, c7] 35)
  have hPa := hP0.later b34
  have hGa := alloc_block w3 #[.int .i64 p.atoms, c1, c2, .bool p.projOn, c4, c5, c6, c7] 35
  have CP4 := CP3.later b34
  have CQ4 := CQ3.later b34
  have hbr4 := ((b34.block (w.heap.size + 1 + 1) (by omega)).trans (b13.block _ (by simp; try omega))).trans hb0
  have hza := World.size_alloc w3 (.cells #[.int .i64 p.atoms, c1, c2, .bool p.projOn, c4, c5, c6, c7] 35)
  generalize w3.alloc (.cells #[.int .i64 p.atoms, c1, c2, .bool p.projOn, c4, c5, c6, c7] 35) = wa at b34 t4 hPa hGa CP4 CQ4 hbr4 hza ⊢
  obtain ⟨hb, hhb⟩ : ∃ hb, hb = w3.heap.size := ⟨_, rfl⟩
  obtain ⟨lo, hlo⟩ : ∃ lo, lo = w2.heap.size := ⟨_, rfl⟩
  obtain ⟨hi, hhi'⟩ : ∃ hi, hi = w3.heap.size := ⟨_, rfl⟩
  rw [← hlo, ← hhi'] at hPa
  rw [← hhb] at hGa hza hD0 ⊢
  have hhi : hi ≤ hb := by omega
  have hlb : lo ≤ hb := by omega
  have hDb0 : ∀ f, D0 f → f ≠ hb := fun f hf => by have := hD0 f hf; omega
  have hD0' : ∀ f, D0 f → f < wa.heap.size := fun f hf => by have := hD0 f hf; omega
  have hlw : w.heap.size + 1 + 1 < lo := by omega
  have hloa : lo ≤ wa.heap.size := by omega
  have hPa : OwnPR lo hi D0 wa c1 c2 c4 c5 c6 c7 { p with rules := p.rules ++ q.rules.take 0 } := by rw [List.take_zero, List.append_nil]; exact hPa
  have hhb2 : hb < wa.heap.size := by omega
  have HLO := Lib.hid hlo
  clear hhb hlo hhi' hza
  have cellR : ∀ {W : World} {x0 x1 x2 x3 x4 x5 x6 x7 : Value}, W.heap[hb]? = some (.cells #[x0, x1, x2, x3, x4, x5, x6, x7] 35 (0, 0)) → W.cell? ⟨hb, 1, none⟩ = some x1 := fun {W} _ _ _ _ _ _ _ _ hh => by rw [cell_of_row W hb 1 _ _ _ hh]; rfl
  go_loopw [7] (fun i wr => ∃ (k : Nat) (v1 : Value) (D : Nat → Prop), k ≤ q.rules.length ∧ i = .int .i64 k ∧ OwnPR lo hi D wr v1 c2 c4 c5 c6 c7 { p with rules := p.rules ++ q.rules.take k } ∧ (∀ f, D f → f < wr.heap.size) ∧ (∀ f, D f → f ≠ hb) ∧ wr.heap[hb]? = some (.cells #[.int .i64 p.atoms, v1, c2, .bool p.projOn, c4, c5, c6, c7] 35 (0, 0)) ∧ Below lo wa wr) (fun i _ => q.rules.length - (intOf i).toNat)
  case atStart => exact ⟨0, _, D0, Nat.zero_le _, rfl, hPa, hD0', hDb0, hGa, Below.refl _ _⟩
  case round =>
    obtain ⟨k, v1, D, hk, rfl, hP, hD, hDb, hG, hbw⟩ := hrel
    clear hPa hD0' hDb0 hGa
    have hcq := CQ4.blw hbw (by omega)
    obtain ⟨y0, y1, y2, y3, y4, y5, y6, y7⟩ := cells8 hcq
    have hsz := hbw.size
    by_cases hlt : k < q.rules.length
    · obtain ⟨b, off, rfl, hc⟩ := hrow.base (by omega)
      obtain ⟨ecs, hC0, hRd⟩ := hc k hlt
      have hCw := hC0
      have hwW : Below w.heap.size w wr := t4.trans (hbw.mono (by omega))
      have hRd := Rd.mono hwW hRd
      obtain ⟨e0, e1, e2, e3, e4, rfl⟩ := list5 (Rd.len hRd)
      have hbl : b < w.heap.size := hC0.lt
      rw [show Rd.k RuleD = 5 from rfl] at hC0
      have hC1 := hC0.later t4
      have keep1 : ∀ w', Below lo wa w' → (w'.cell? ⟨w.heap.size + 1, 1, none⟩ = some (.slice (some ⟨b, off, none⟩) q.rules.length kq1) ∧ w'.cell? ⟨b, off + k * 5, none⟩ = some e0 ∧ w'.cell? ⟨b, off + k * 5 + 1, none⟩ = some e1 ∧ w'.cell? ⟨b, off + k * 5 + 2, none⟩ = some e2 ∧ w'.cell? ⟨b, off + k * 5 + 3, none⟩ = some e3 ∧ w'.cell? ⟨b, off + k * 5 + 4, none⟩ = some e4) := fun w' hb' => by
        obtain ⟨_, q1, _⟩ := cells8 (CQ4.blw hb' (by omega))
        have C := hC1.blw hb' (by omega)
        exact ⟨q1, C.c0, C.c1, C.c2, C.c3, C.c4⟩
      have hsm := sq.1.2 _ (nth_mem hlt)
      have htk := Lib.hid (take_nth hlt)
      have htl : (q.rules.take k).length = k := by rw [List.length_take]; omega
      have hkn : (0 : Int) ≤ (k : Int) := by omega
      have hkl : (k : Int) < (q.rules.length : Int) := by omega
      have B0 := hbw.drew
      have hRd' := Rd.mono (Below.refl _ _).drew hRd
      have hls : lo ≤ wr.heap.size := by omega
      have f2 := cellR hG
      clear hC0 hc hRd hCw
      go_wp2
      refine wp_region_held_drew (S := fun w' => w'.cell? ⟨w.heap.size + 1, 1, none⟩ = some (.slice (some ⟨b, off, none⟩) q.rules.length kq1) ∧ w'.cell? ⟨b, off + k * 5, none⟩ = some e0 ∧ w'.cell? ⟨b, off + k * 5 + 1, none⟩ = some e1 ∧ w'.cell? ⟨b, off + k * 5 + 2, none⟩ = some e2 ∧ w'.cell? ⟨b, off + k * 5 + 3, none⟩ = some e3 ∧ w'.cell? ⟨b, off + k * 5 + 4, none⟩ = some e4) (by kernel_rfl) (keep1 _ B0) (fun hHeld => ?_)
      refine takeD (i := 0) (v := .pointer (some ⟨hb, 1, none⟩)) (some 36) rfl rfl (by kernel_rfl) (by kernel_rfl) (by kernel_rfl) (fun _ _ _ h => h) (Or.inl ⟨by rfl, fun w' hw' => ?_⟩) hHeld ?_
      · first | (go_simp; done) | (obtain ⟨s0, s1, s2, s3, s4, s5⟩ := hw'; go_simp)
      try simp only [Act.put, List.setIfInBounds_toArray, List.set_cons_zero, List.set_cons_succ]
      refine takeD (i := 2) (v := .pointer (some ⟨w.heap.size + 1, 1, none⟩)) (some 38) rfl rfl (by kernel_rfl) (by kernel_rfl) (by kernel_rfl) (fun _ _ _ h => h) (Or.inl ⟨by rfl, fun w' hw' => ?_⟩) hHeld ?_
      · first | (go_simp; done) | (obtain ⟨s0, s1, s2, s3, s4, s5⟩ := hw'; go_simp)
      try simp only [Act.put, List.setIfInBounds_toArray, List.set_cons_zero, List.set_cons_succ]
      refine takeD (i := 3) (v := .slice (some ⟨b, off, none⟩) q.rules.length kq1) (some 39) rfl rfl (by kernel_rfl) (by kernel_rfl) (by kernel_rfl) (fun _ _ _ h => h) (Or.inl ⟨by rfl, fun w' hw' => ?_⟩) hHeld ?_
      · first | (go_simp; done) | (obtain ⟨s0, s1, s2, s3, s4, s5⟩ := hw'; go_simp)
      try simp only [Act.put, List.setIfInBounds_toArray, List.set_cons_zero, List.set_cons_succ]
      refine takeD (i := 4) (v := .int .i64 k) (some 40) rfl rfl (by kernel_rfl) (by kernel_rfl) (by kernel_rfl) (fun _ _ _ h => h) (Or.inl ⟨by rfl, fun w' hw' => ?_⟩) hHeld ?_
      · first | (go_simp; done) | (obtain ⟨s0, s1, s2, s3, s4, s5⟩ := hw'; go_simp)
      try simp only [Act.put, List.setIfInBounds_toArray, List.set_cons_zero, List.set_cons_succ]
      refine takeD (i := 5) (v := .pointer (some ⟨b, off + k * 5, none⟩)) (some 41) rfl rfl (by kernel_rfl) (by kernel_rfl) (by kernel_rfl) (fun _ _ _ h => h) (Or.inl ⟨by rfl, fun w' hw' => ?_⟩) hHeld ?_
      · first | (go_simp; done) | (obtain ⟨s0, s1, s2, s3, s4, s5⟩ := hw'; go_simp)
      try simp only [Act.put, List.setIfInBounds_toArray, List.set_cons_zero, List.set_cons_succ]
      refine takeD (i := 6) (v := .agg #[e0, e1, e2, e3, e4]) (some 42) rfl rfl (by kernel_rfl) (by kernel_rfl) (by kernel_rfl) (fun _ _ _ h => h) (Or.inl ⟨by rfl, fun w' hw' => ?_⟩) hHeld ?_
      · first | (go_simp; done) | (obtain ⟨s0, s1, s2, s3, s4, s5⟩ := hw'; go_simp)
      try simp only [Act.put, List.setIfInBounds_toArray, List.set_cons_zero, List.set_cons_succ]
      refine wpAnyH_ready (rs := [1, 7]) (by kernel_rfl) (by simp) ?_
      refine AllReadyH.cons rfl (fun K hK => ?_) (AllReadyH.cons rfl (fun K hK => ?_) AllReadyH.nil)
      · go_simp
        refine hK.out _ _ (keep1 _ B0) (fun hHeld => ?_)
        clear hK K
        try simp only [Act.put, List.setIfInBounds_toArray, List.set_cons_zero, List.set_cons_succ]
        refine wpAnyH_ready (rs := [7]) (by kernel_rfl) (by simp) ?_
        refine AllReadyH.cons rfl (fun K hK => ?_) AllReadyH.nil
        go_simp
        refine (l02Rule_calls hRd' hsm.1 hsm.2).mono ?_
        rintro e wc ⟨cs', rfl, o2, b2⟩
        obtain ⟨t0, t1, t2, t3, t4, rfl⟩ := list5 (Rd.len o2.rd)
        have z2 := b2.size
        have z2' : wr.heap.size ≤ wc.heap.size := z2
        have B2 := B0.trans (b2.mono hls)
        have hG2 := (b2.block hb (by show hb < wr.heap.size; omega)).trans hG
        have f2 := cellR hG2
        refine hK.out _ _ (keep1 _ B2) (fun hHeld => ?_)
        clear hK K
        try simp only [Act.put, List.setIfInBounds_toArray, List.set_cons_zero, List.set_cons_succ]
        refine wpAnyH_ready (rs := [8]) (by kernel_rfl) (by simp) ?_
        refine AllReadyH.cons rfl (fun K hK => ?_) AllReadyH.nil
        go_simp
        have o3 := o2.alloc (.cells #[t0, t1, t2, t3, t4] 48)
        have bA := (Below.refl wr.drew.heap.size wr.drew).step b2
        have b3 := bA.alloc b2.size (.cells #[t0, t1, t2, t3, t4] 48)
        have B3 := B2.alloc (show lo ≤ wc.heap.size by omega) (.cells #[t0, t1, t2, t3, t4] 48)
        have C3 := Cells.new wc [t0, t1, t2, t3, t4] 48
        have hG3 := (Below.heap_alloc wc (.cells #[t0, t1, t2, t3, t4] 48) hb (by omega)).trans hG2
        have f2 := cellR hG3
        refine hK.out _ _ (keep1 _ B3) (fun hHeld => ?_)
        clear hK K
        try simp only [Act.put, List.setIfInBounds_toArray, List.set_cons_zero, List.set_cons_succ]
        obtain ⟨fp, of, hfp⟩ := o3
        obtain ⟨v4, w4, r4, hP4, b4, hk4, a4, n4, rfl⟩ := hP.append_run (P := Try.prog) (zs := [nth q.rules k]) (t := 30) (ty := 30) (ad := ⟨wc.heap.size, 0, none⟩) (c := 1) (fps2 := [fp]) i3 _ 72 Try.underlying30 hi3 hz30 hz31 hz32 rfl ((Below.refl wr.heap.size wr).drew.trans b3) hD hls ⟨wc.heap.size, 0, rfl, rfl, by simpa using Ow.nodup of, fun j hj => by
            have : j = 0 := by simp at hj; omega
            subst this
            exact ⟨_, by rw [Nat.zero_mul]; exact C3, of⟩⟩ (fun f hf => by simp at hf; exact hfp f hf) (by show ((p.rules ++ q.rules.take k).length + 1) * 72 ≤ _; rw [List.length_append, htl]; omega) (by show (p.rules ++ q.rules.take k).length + 1 ≤ _; rw [List.length_append, htl]; omega)
        have hzC : (wc.alloc (.cells #[t0, t1, t2, t3, t4] 48)).heap.size = wc.heap.size + 1 := World.size_alloc _ _
        have B4 := B3.trans b4
        have hG4 := (hk4 hb (by omega) (fun hd => hDb hb hd rfl)).trans hG3
        have f4 := cellR hG4
        have z4 := frozen_of_row w4 hb 1 _ _ hG4
        have zz4 := b4.size
        have hln : (({ p with rules := p.rules ++ q.rules.take k } : ProgD).rules ++ [nth q.rules k]).length = p.rules.length + (k + 1) := by show ((p.rules ++ q.rules.take k) ++ [nth q.rules k]).length = _; rw [List.length_append, List.length_append, htl]; simp; omega
        rw [hln] at r4 hP4
        have hP4' : OwnPR lo hi (fun f => (D f ∨ wr.heap.size ≤ f) ∧ f < w4.heap.size) w4 (.slice a4 (p.rules.length + (k + 1)) n4) c2 c4 c5 c6 c7 { p with rules := p.rules ++ q.rules.take (k + 1) } := by
          have e : p.rules ++ q.rules.take (k + 1) = (p.rules ++ q.rules.take k) ++ [nth q.rules k] := by rw [htk.out, List.append_assoc]
          rw [e]; exact hP4
        refine wpAnyH_ready (rs := [9]) (by kernel_rfl) (by simp) ?_
        refine AllReadyH.cons rfl (fun K hK => ?_) AllReadyH.nil
        refine step_append_of rfl _ _ rfl rfl rfl r4 ?_
        refine hK.out _ _ (keep1 _ B4) (fun hHeld => ?_)
        clear hK K
        try simp only [Act.put, List.setIfInBounds_toArray, List.set_cons_zero, List.set_cons_succ]
        refine takeD (i := 10) (v := .pointer (some ⟨hb, 1, none⟩)) (some 46) rfl rfl (by kernel_rfl) (by kernel_rfl) (by kernel_rfl) (fun _ _ _ h => h) (Or.inl ⟨by rfl, fun w' hw' => ?_⟩) hHeld ?_
        · first | (go_simp; done) | (obtain ⟨s0, s1, s2, s3, s4, s5⟩ := hw'; go_simp)
        try simp only [Act.put, List.setIfInBounds_toArray, List.set_cons_zero, List.set_cons_succ]
        refine wpAnyH_ready (rs := [11]) (by kernel_rfl) (by simp) ?_
        refine AllReadyH.cons rfl (fun K hK => ?_) AllReadyH.nil
        have P5 := hP4'.far (q := ⟨hb, 1, none⟩) (fun hd => by rcases hd.1 with hd | hd; exact hDb hb hd rfl; have hd : wr.heap.size ≤ hb := hd; omega) (.inr hhi) (.slice a4 (p.rules.length + (k + 1)) n4)
        have G5 := heap_setCell_same w4 hb 1 _ _ (.slice a4 (p.rules.length + (k + 1)) n4) hG4
        have B5 := Below.setCell B4 (p := ⟨hb, 1, none⟩) hlb (.slice a4 (p.rules.length + (k + 1)) n4)
        have hD5 : ∀ f, ((D f ∨ wr.heap.size ≤ f) ∧ f < w4.heap.size) → f < (w4.setCell ⟨hb, 1, none⟩ (.slice a4 (p.rules.length + (k + 1)) n4)).heap.size := fun f hf => by simp [World.setCell]; exact hf.2
        have hDb5 : ∀ f, ((D f ∨ wr.heap.size ≤ f) ∧ f < w4.heap.size) → f ≠ hb := fun f hf e => by rcases hf.1 with hd | hd; exact hDb f hd e; omega
        go_simp
        refine hK.out _ (w4.setCell ⟨hb, 1, none⟩ (.slice a4 (p.rules.length + (k + 1)) n4)) (keep1 _ B5) (fun hHeld => ?_)
        clear hK K
        have P5 := Lib.hid P5
        have G5 := Lib.hid G5
        have B5 := Lib.hid B5
        have hD5 := Lib.hid hD5
        have hDb5 := Lib.hid hDb5
        have Hk := Lib.hid (show k + 1 ≤ q.rules.length by omega)
        clear r4 hP4 hP4' b4 hk4 hG4 f4 z4 C3 of hfp b3 hG3 f2 o2 b2 B0 B2 B3 B4 hRd' hP hG hG2 hHeld keep1 bA hln
        refine wpAnyH_done (by kernel_rfl) ?_ _
        go_wp2
        go_roundw
        case rel => exact ⟨k + 1, _, _, Hk.out, by go_num, P5.out, hD5.out, hDb5.out, G5.out, B5.out⟩
        case measure => simp [intOf]; omega
      · go_simp
        refine (l02Rule_calls hRd' hsm.1 hsm.2).mono ?_
        rintro e wc ⟨cs', rfl, o2, b2⟩
        obtain ⟨t0, t1, t2, t3, t4, rfl⟩ := list5 (Rd.len o2.rd)
        have z2 := b2.size
        have z2' : wr.heap.size ≤ wc.heap.size := z2
        have B2 := B0.trans (b2.mono hls)
        have hG2 := (b2.block hb (by show hb < wr.heap.size; omega)).trans hG
        have f2 := cellR hG2
        refine hK.out _ _ (keep1 _ B2) (fun hHeld => ?_)
        clear hK K
        try simp only [Act.put, List.setIfInBounds_toArray, List.set_cons_zero, List.set_cons_succ]
        refine wpAnyH_ready (rs := [1, 8]) (by kernel_rfl) (by simp) ?_
        refine AllReadyH.cons rfl (fun K hK => ?_) (AllReadyH.cons rfl (fun K hK => ?_) AllReadyH.nil)
        · go_simp
          refine hK.out _ _ (keep1 _ B2) (fun hHeld => ?_)
          clear hK K
          try simp only [Act.put, List.setIfInBounds_toArray, List.set_cons_zero, List.set_cons_succ]
          refine wpAnyH_ready (rs := [8]) (by kernel_rfl) (by simp) ?_
          refine AllReadyH.cons rfl (fun K hK => ?_) AllReadyH.nil
          go_simp
          have o3 := o2.alloc (.cells #[t0, t1, t2, t3, t4] 48)
          have bA := (Below.refl wr.drew.heap.size wr.drew).step b2
          have b3 := bA.alloc b2.size (.cells #[t0, t1, t2, t3, t4] 48)
          have B3 := B2.alloc (show lo ≤ wc.heap.size by omega) (.cells #[t0, t1, t2, t3, t4] 48)
          have C3 := Cells.new wc [t0, t1, t2, t3, t4] 48
          have hG3 := (Below.heap_alloc wc (.cells #[t0, t1, t2, t3, t4] 48) hb (by omega)).trans hG2
          have f2 := cellR hG3
          refine hK.out _ _ (keep1 _ B3) (fun hHeld => ?_)
          clear hK K
          try simp only [Act.put, List.setIfInBounds_toArray, List.set_cons_zero, List.set_cons_succ]
          obtain ⟨fp, of, hfp⟩ := o3
          obtain ⟨v4, w4, r4, hP4, b4, hk4, a4, n4, rfl⟩ := hP.append_run (P := Try.prog) (zs := [nth q.rules k]) (t := 30) (ty := 30) (ad := ⟨wc.heap.size, 0, none⟩) (c := 1) (fps2 := [fp]) i3 _ 72 Try.underlying30 hi3 hz30 hz31 hz32 rfl ((Below.refl wr.heap.size wr).drew.trans b3) hD hls ⟨wc.heap.size, 0, rfl, rfl, by simpa using Ow.nodup of, fun j hj => by
              have : j = 0 := by simp at hj; omega
              subst this
              exact ⟨_, by rw [Nat.zero_mul]; exact C3, of⟩⟩ (fun f hf => by simp at hf; exact hfp f hf) (by show ((p.rules ++ q.rules.take k).length + 1) * 72 ≤ _; rw [List.length_append, htl]; omega) (by show (p.rules ++ q.rules.take k).length + 1 ≤ _; rw [List.length_append, htl]; omega)
          have hzC : (wc.alloc (.cells #[t0, t1, t2, t3, t4] 48)).heap.size = wc.heap.size + 1 := World.size_alloc _ _
          have B4 := B3.trans b4
          have hG4 := (hk4 hb (by omega) (fun hd => hDb hb hd rfl)).trans hG3
          have f4 := cellR hG4
          have z4 := frozen_of_row w4 hb 1 _ _ hG4
          have zz4 := b4.size
          have hln : (({ p with rules := p.rules ++ q.rules.take k } : ProgD).rules ++ [nth q.rules k]).length = p.rules.length + (k + 1) := by show ((p.rules ++ q.rules.take k) ++ [nth q.rules k]).length = _; rw [List.length_append, List.length_append, htl]; simp; omega
          rw [hln] at r4 hP4
          have hP4' : OwnPR lo hi (fun f => (D f ∨ wr.heap.size ≤ f) ∧ f < w4.heap.size) w4 (.slice a4 (p.rules.length + (k + 1)) n4) c2 c4 c5 c6 c7 { p with rules := p.rules ++ q.rules.take (k + 1) } := by
            have e : p.rules ++ q.rules.take (k + 1) = (p.rules ++ q.rules.take k) ++ [nth q.rules k] := by rw [htk.out, List.append_assoc]
            rw [e]; exact hP4
          refine wpAnyH_ready (rs := [9]) (by kernel_rfl) (by simp) ?_
          refine AllReadyH.cons rfl (fun K hK => ?_) AllReadyH.nil
          refine step_append_of rfl _ _ rfl rfl rfl r4 ?_
          refine hK.out _ _ (keep1 _ B4) (fun hHeld => ?_)
          clear hK K
          try simp only [Act.put, List.setIfInBounds_toArray, List.set_cons_zero, List.set_cons_succ]
          refine takeD (i := 10) (v := .pointer (some ⟨hb, 1, none⟩)) (some 46) rfl rfl (by kernel_rfl) (by kernel_rfl) (by kernel_rfl) (fun _ _ _ h => h) (Or.inl ⟨by rfl, fun w' hw' => ?_⟩) hHeld ?_
          · first | (go_simp; done) | (obtain ⟨s0, s1, s2, s3, s4, s5⟩ := hw'; go_simp)
          try simp only [Act.put, List.setIfInBounds_toArray, List.set_cons_zero, List.set_cons_succ]
          refine wpAnyH_ready (rs := [11]) (by kernel_rfl) (by simp) ?_
          refine AllReadyH.cons rfl (fun K hK => ?_) AllReadyH.nil
          have P5 := hP4'.far (q := ⟨hb, 1, none⟩) (fun hd => by rcases hd.1 with hd | hd; exact hDb hb hd rfl; have hd : wr.heap.size ≤ hb := hd; omega) (.inr hhi) (.slice a4 (p.rules.length + (k + 1)) n4)
          have G5 := heap_setCell_same w4 hb 1 _ _ (.slice a4 (p.rules.length + (k + 1)) n4) hG4
          have B5 := Below.setCell B4 (p := ⟨hb, 1, none⟩) hlb (.slice a4 (p.rules.length + (k + 1)) n4)
          have hD5 : ∀ f, ((D f ∨ wr.heap.size ≤ f) ∧ f < w4.heap.size) → f < (w4.setCell ⟨hb, 1, none⟩ (.slice a4 (p.rules.length + (k + 1)) n4)).heap.size := fun f hf => by simp [World.setCell]; exact hf.2
          have hDb5 : ∀ f, ((D f ∨ wr.heap.size ≤ f) ∧ f < w4.heap.size) → f ≠ hb := fun f hf e => by rcases hf.1 with hd | hd; exact hDb f hd e; omega
          go_simp
          refine hK.out _ (w4.setCell ⟨hb, 1, none⟩ (.slice a4 (p.rules.length + (k + 1)) n4)) (keep1 _ B5) (fun hHeld => ?_)
          clear hK K
          have P5 := Lib.hid P5
          have G5 := Lib.hid G5
          have B5 := Lib.hid B5
          have hD5 := Lib.hid hD5
          have hDb5 := Lib.hid hDb5
          have Hk := Lib.hid (show k + 1 ≤ q.rules.length by omega)
          clear r4 hP4 hP4' b4 hk4 hG4 f4 z4 C3 of hfp b3 hG3 f2 o2 b2 B0 B2 B3 B4 hRd' hP hG hG2 hHeld keep1 bA hln
          refine wpAnyH_done (by kernel_rfl) ?_ _
          go_wp2
          go_roundw
          case rel => exact ⟨k + 1, _, _, Hk.out, by go_num, P5.out, hD5.out, hDb5.out, G5.out, B5.out⟩
          case measure => simp [intOf]; omega
        · go_simp
          have o3 := o2.alloc (.cells #[t0, t1, t2, t3, t4] 48)
          have bA := (Below.refl wr.drew.heap.size wr.drew).step b2
          have b3 := bA.alloc b2.size (.cells #[t0, t1, t2, t3, t4] 48)
          have B3 := B2.alloc (show lo ≤ wc.heap.size by omega) (.cells #[t0, t1, t2, t3, t4] 48)
          have C3 := Cells.new wc [t0, t1, t2, t3, t4] 48
          have hG3 := (Below.heap_alloc wc (.cells #[t0, t1, t2, t3, t4] 48) hb (by omega)).trans hG2
          have f2 := cellR hG3
          refine hK.out _ _ (keep1 _ B3) (fun hHeld => ?_)
          clear hK K
          try simp only [Act.put, List.setIfInBounds_toArray, List.set_cons_zero, List.set_cons_succ]
          refine wpAnyH_ready (rs := [1]) (by kernel_rfl) (by simp) ?_
          refine AllReadyH.cons rfl (fun K hK => ?_) AllReadyH.nil
          go_simp
          refine hK.out _ _ (keep1 _ B3) (fun hHeld => ?_)
          clear hK K
          try simp only [Act.put, List.setIfInBounds_toArray, List.set_cons_zero, List.set_cons_succ]
          obtain ⟨fp, of, hfp⟩ := o3
          obtain ⟨v4, w4, r4, hP4, b4, hk4, a4, n4, rfl⟩ := hP.append_run (P := Try.prog) (zs := [nth q.rules k]) (t := 30) (ty := 30) (ad := ⟨wc.heap.size, 0, none⟩) (c := 1) (fps2 := [fp]) i3 _ 72 Try.underlying30 hi3 hz30 hz31 hz32 rfl ((Below.refl wr.heap.size wr).drew.trans b3) hD hls ⟨wc.heap.size, 0, rfl, rfl, by simpa using Ow.nodup of, fun j hj => by
              have : j = 0 := by simp at hj; omega
              subst this
              exact ⟨_, by rw [Nat.zero_mul]; exact C3, of⟩⟩ (fun f hf => by simp at hf; exact hfp f hf) (by show ((p.rules ++ q.rules.take k).length + 1) * 72 ≤ _; rw [List.length_append, htl]; omega) (by show (p.rules ++ q.rules.take k).length + 1 ≤ _; rw [List.length_append, htl]; omega)
          have hzC : (wc.alloc (.cells #[t0, t1, t2, t3, t4] 48)).heap.size = wc.heap.size + 1 := World.size_alloc _ _
          have B4 := B3.trans b4
          have hG4 := (hk4 hb (by omega) (fun hd => hDb hb hd rfl)).trans hG3
          have f4 := cellR hG4
          have z4 := frozen_of_row w4 hb 1 _ _ hG4
          have zz4 := b4.size
          have hln : (({ p with rules := p.rules ++ q.rules.take k } : ProgD).rules ++ [nth q.rules k]).length = p.rules.length + (k + 1) := by show ((p.rules ++ q.rules.take k) ++ [nth q.rules k]).length = _; rw [List.length_append, List.length_append, htl]; simp; omega
          rw [hln] at r4 hP4
          have hP4' : OwnPR lo hi (fun f => (D f ∨ wr.heap.size ≤ f) ∧ f < w4.heap.size) w4 (.slice a4 (p.rules.length + (k + 1)) n4) c2 c4 c5 c6 c7 { p with rules := p.rules ++ q.rules.take (k + 1) } := by
            have e : p.rules ++ q.rules.take (k + 1) = (p.rules ++ q.rules.take k) ++ [nth q.rules k] := by rw [htk.out, List.append_assoc]
            rw [e]; exact hP4
          refine wpAnyH_ready (rs := [9]) (by kernel_rfl) (by simp) ?_
          refine AllReadyH.cons rfl (fun K hK => ?_) AllReadyH.nil
          refine step_append_of rfl _ _ rfl rfl rfl r4 ?_
          refine hK.out _ _ (keep1 _ B4) (fun hHeld => ?_)
          clear hK K
          try simp only [Act.put, List.setIfInBounds_toArray, List.set_cons_zero, List.set_cons_succ]
          refine takeD (i := 10) (v := .pointer (some ⟨hb, 1, none⟩)) (some 46) rfl rfl (by kernel_rfl) (by kernel_rfl) (by kernel_rfl) (fun _ _ _ h => h) (Or.inl ⟨by rfl, fun w' hw' => ?_⟩) hHeld ?_
          · first | (go_simp; done) | (obtain ⟨s0, s1, s2, s3, s4, s5⟩ := hw'; go_simp)
          try simp only [Act.put, List.setIfInBounds_toArray, List.set_cons_zero, List.set_cons_succ]
          refine wpAnyH_ready (rs := [11]) (by kernel_rfl) (by simp) ?_
          refine AllReadyH.cons rfl (fun K hK => ?_) AllReadyH.nil
          have P5 := hP4'.far (q := ⟨hb, 1, none⟩) (fun hd => by rcases hd.1 with hd | hd; exact hDb hb hd rfl; have hd : wr.heap.size ≤ hb := hd; omega) (.inr hhi) (.slice a4 (p.rules.length + (k + 1)) n4)
          have G5 := heap_setCell_same w4 hb 1 _ _ (.slice a4 (p.rules.length + (k + 1)) n4) hG4
          have B5 := Below.setCell B4 (p := ⟨hb, 1, none⟩) hlb (.slice a4 (p.rules.length + (k + 1)) n4)
          have hD5 : ∀ f, ((D f ∨ wr.heap.size ≤ f) ∧ f < w4.heap.size) → f < (w4.setCell ⟨hb, 1, none⟩ (.slice a4 (p.rules.length + (k + 1)) n4)).heap.size := fun f hf => by simp [World.setCell]; exact hf.2
          have hDb5 : ∀ f, ((D f ∨ wr.heap.size ≤ f) ∧ f < w4.heap.size) → f ≠ hb := fun f hf e => by rcases hf.1 with hd | hd; exact hDb f hd e; omega
          go_simp
          refine hK.out _ (w4.setCell ⟨hb, 1, none⟩ (.slice a4 (p.rules.length + (k + 1)) n4)) (keep1 _ B5) (fun hHeld => ?_)
          clear hK K
          have P5 := Lib.hid P5
          have G5 := Lib.hid G5
          have B5 := Lib.hid B5
          have hD5 := Lib.hid hD5
          have hDb5 := Lib.hid hDb5
          have Hk := Lib.hid (show k + 1 ≤ q.rules.length by omega)
          clear r4 hP4 hP4' b4 hk4 hG4 f4 z4 C3 of hfp b3 hG3 f2 o2 b2 B0 B2 B3 B4 hRd' hP hG hG2 hHeld keep1 bA hln
          refine wpAnyH_done (by kernel_rfl) ?_ _
          go_wp2
          go_roundw
          case rel => exact ⟨k + 1, _, _, Hk.out, by go_num, P5.out, hD5.out, hDb5.out, G5.out, B5.out⟩
          case measure => simp [intOf]; omega
    · have hkx : q.rules.take k = q.rules := List.take_of_length_le (by omega)
      rw [hkx] at hP
      clear hkx
      by_cases hm2 : p.atoms < q.atoms
      · have hmx : Hid (max p.atoms q.atoms = q.atoms) := by show _ = _; omega
        have hbr := (hbw.block (w.heap.size + 1 + 1) hlw).trans hbr4
        have hfz := fun j => frozen_of_row wr (w.heap.size + 1 + 1) j _ _ hbr
        have hfb := fun j => frozen_of_row wr hb j _ _ hG
        have CZ : Cells wr (w.heap.size + 1 + 1) 0 [.int .i64 0, .slice none 0 0, .slice none 0 0, .bool false, .slice none 0 0, .slice none 0 0, .slice none 0 0, .slice none 0 0] := fun j v hv => by
          rw [Nat.zero_add, cell_of_row wr (w.heap.size + 1 + 1) j _ _ _ hbr]; simpa using hv
        have CG : Cells wr hb 0 [.int .i64 p.atoms, v1, c2, .bool p.projOn, c4, c5, c6, c7] := fun j v hv => by
          rw [Nat.zero_add, cell_of_row wr hb j _ _ _ hG]; simpa using hv
        have CP5 := CP4.blw hbw (by omega)
        obtain ⟨p0, p1', p2', p3', p4', p5', p6', p7'⟩ := cells8 CP5
        obtain ⟨x0, x1, x2, x3, x4, x5, x6, x7⟩ := cells8 CG
        obtain ⟨z0, z1, z2, z3, z4, z5, z6, z7⟩ := cells8 CZ
        have one1 := Rd.one hP.own.rd
        have st1' := sto Try.prog (one1 v1 (by simp))
        have hFm : Fits (max p.atoms q.atoms) := by unfold Fits; omega
        have hPm : OwnPR lo hi D wr v1 c2 c4 c5 c6 c7 (bothD p q) := hP.atoms hFm
        have tF : Below w.heap.size w wr := t4.trans (hbw.mono (by omega))
        have hnr : w.heap.size + 1 + 1 ≠ hb := by omega
        have hnD : ¬ D (w.heap.size + 1 + 1) := fun hd => by
          obtain ⟨_, _, _, _, _, hlo5⟩ := hP
          have := hlo5 _ hd
          omega
        have hn1 := hDb
        clear hcq CP4 CQ4 CP5 CG CZ hG hbr hbw hP one1
        go_wp2
        refine bodyPost_ret (v := .tuple #[.agg #[.int .i64 q.atoms, v1, c2, .bool p.projOn, c4, c5, c6, c7], .bool true])
          (by simp [results, Try.results6, go_sem, z0, z1, z2, z3, z4, z5, z6, z7]) rfl ⟨_, by rw [hb'.out], ?_, ?_⟩
        · rw [hr.out]
          have e1 := hPm.far (q := ⟨hb, 0, none⟩) (fun hd => hn1 _ hd rfl) (.inr hhi) (.int .i64 q.atoms)
          have e2 := e1.chg (put_chg (w.heap.size + 1 + 1) [.int .i64 q.atoms, v1, c2, .bool p.projOn, c4, c5, c6, c7] (wr.setCell ⟨hb, 0, none⟩ (.int .i64 q.atoms)) 0) hnD (.inl hlw)
          have e3 := e2.own
          rw [show (bothD p q).atoms = q.atoms from hmx.out] at e3
          exact e3.mono (by omega)
        · exact (Below.setCell tF (p := ⟨hb, 0, none⟩) (by show w.heap.size ≤ hb; omega) (.int .i64 q.atoms)).trans ((put_chg (w.heap.size + 1 + 1) [.int .i64 q.atoms, v1, c2, .bool p.projOn, c4, c5, c6, c7] (wr.setCell ⟨hb, 0, none⟩ (.int .i64 q.atoms)) 0).below fun g hg => by simp at hg; omega)
      · have hmx : Hid (max p.atoms q.atoms = p.atoms) := by show _ = _; omega
        have hm3 : q.atoms ≤ p.atoms := by omega
        have hbr := (hbw.block (w.heap.size + 1 + 1) hlw).trans hbr4
        have hfz := fun j => frozen_of_row wr (w.heap.size + 1 + 1) j _ _ hbr
        have hfb := fun j => frozen_of_row wr hb j _ _ hG
        have CZ : Cells wr (w.heap.size + 1 + 1) 0 [.int .i64 0, .slice none 0 0, .slice none 0 0, .bool false, .slice none 0 0, .slice none 0 0, .slice none 0 0, .slice none 0 0] := fun j v hv => by
          rw [Nat.zero_add, cell_of_row wr (w.heap.size + 1 + 1) j _ _ _ hbr]; simpa using hv
        have CG : Cells wr hb 0 [.int .i64 p.atoms, v1, c2, .bool p.projOn, c4, c5, c6, c7] := fun j v hv => by
          rw [Nat.zero_add, cell_of_row wr hb j _ _ _ hG]; simpa using hv
        have CP5 := CP4.blw hbw (by omega)
        obtain ⟨p0, p1', p2', p3', p4', p5', p6', p7'⟩ := cells8 CP5
        obtain ⟨x0, x1, x2, x3, x4, x5, x6, x7⟩ := cells8 CG
        obtain ⟨z0, z1, z2, z3, z4, z5, z6, z7⟩ := cells8 CZ
        have one1 := Rd.one hP.own.rd
        have st1' := sto Try.prog (one1 v1 (by simp))
        have hFm : Fits (max p.atoms q.atoms) := by unfold Fits; omega
        have hPm : OwnPR lo hi D wr v1 c2 c4 c5 c6 c7 (bothD p q) := hP.atoms hFm
        have tF : Below w.heap.size w wr := t4.trans (hbw.mono (by omega))
        have hnr : w.heap.size + 1 + 1 ≠ hb := by omega
        have hnD : ¬ D (w.heap.size + 1 + 1) := fun hd => by
          obtain ⟨_, _, _, _, _, hlo5⟩ := hP
          have := hlo5 _ hd
          omega
        have hn1 := hDb
        clear hcq CP4 CQ4 CP5 CG CZ hG hbr hbw hP one1
        go_wp2
        refine bodyPost_ret (v := .tuple #[.agg #[.int .i64 p.atoms, v1, c2, .bool p.projOn, c4, c5, c6, c7], .bool true])
          (by simp [results, Try.results6, go_sem, z0, z1, z2, z3, z4, z5, z6, z7]) rfl ⟨_, by rw [hb'.out], ?_, ?_⟩
        · rw [hr.out]
          have e1 := hPm.far (q := ⟨hb, 0, none⟩) (fun hd => hn1 _ hd rfl) (.inr hhi) (.int .i64 p.atoms)
          have e2 := e1.chg (put_chg (w.heap.size + 1 + 1) [.int .i64 p.atoms, v1, c2, .bool p.projOn, c4, c5, c6, c7] (wr.setCell ⟨hb, 0, none⟩ (.int .i64 p.atoms)) 0) hnD (.inl hlw)
          have e3 := e2.own
          rw [show (bothD p q).atoms = p.atoms from hmx.out] at e3
          exact e3.mono (by omega)
        · exact (Below.setCell tF (p := ⟨hb, 0, none⟩) (by show w.heap.size ≤ hb; omega) (.int .i64 p.atoms)).trans ((put_chg (w.heap.size + 1 + 1) [.int .i64 p.atoms, v1, c2, .bool p.projOn, c4, c5, c6, c7] (wr.setCell ⟨hb, 0, none⟩ (.int .i64 p.atoms)) 0).below fun g hg => by simp at hg; omega)

end Go.Proofs.Ytgckeaijbmcdcaa
