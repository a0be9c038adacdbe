/-
 impl.Both: what it answers. No condition of its own.
-/
import Derived.Test.YthikhkeofcjdfaaGreatBothI
import Derived.Test.YthikhkeofcjdfaaGreatCopyProg
import Derived.Test.YthikhkeofcjdfaaGreatImplProg
import Derived.Test.YthikhkeofcjdfaaGreatModel
namespace Go.Proofs.YthikhkeofcjdfaaGreat
set_option linter.unusedVariables false
set_option linter.unusedSimpArgs false
open Go.RowKit
set_option maxRecDepth 100000


theorem bothB_A {p q : ProgD} (h : progOkB p = false) : bothB p q = false := by simp only [bothB, h, Bool.false_and]
theorem bothB_B {p q : ProgD} (h : progOkB q = false) : bothB p q = false := by simp only [bothB, h, Bool.false_and, Bool.and_false]
theorem bothR_no {p q : ProgD} (h : bothB p q = false) : bothR p q = default := by simp [bothR, h]
theorem bothR_yes {p q : ProgD} (h : bothB p q = true) : bothR p q = bothD p q := by simp [bothR, h]
theorem litsB_mono {xs : List Int} {n m : Int} (h : litsB xs n = true) (h1 : n ≤ m) : litsB xs m = true := by
 simp only [litsB, Bool.and_eq_true, List.all_eq_true] at h ⊢
 exact ⟨h.1, fun l hl => litB_mono (h.2 l hl) h1⟩
theorem progOkB_mono {p : ProgD} {m : Int} (h : progOkB p = true) (h1 : p.atoms ≤ m) (h2 : m ≤ 12) : progOkB { p with atoms := m } = true := by
 simp only [progOkB, Bool.and_eq_true, rulesB, levelsB, projB, showsB, extsB, List.all_eq_true] at h ⊢
 obtain ⟨a0, ⟨a1, a2⟩, ⟨a3, a4⟩, ⟨a5, a6⟩, ⟨a7, a8⟩, ⟨a9, a10⟩, a11⟩ := h
 refine ⟨?_, ⟨a1, fun r hr => ruleOkB_mono (a2 r hr) h1 h2⟩, ⟨a3, toB_mono (fun i hi h => ?_) a4⟩, ⟨setOkB_mono a5 h1 h2, a6⟩, ⟨a7, fun s hs => ?_⟩, ⟨a9, toB_mono (fun i hi h => ?_) a10⟩, litsB_mono a11 h1⟩
 ·simp only [btwB, decide_eq_true_eq] at a0 ⊢; omega
 ·simp only [levelB, Bool.and_eq_true, List.all_eq_true, levLitB] at h ⊢
  exact ⟨h.1, h.2.1, fun q hq => ⟨litB_mono (h.2.2 q hq).1 h1, (h.2.2 q hq).2⟩⟩
 ·have := a8 s hs
  simp only [showB, Bool.and_eq_true] at this ⊢
  exact ⟨this.1, litsB_mono this.2 h1⟩
 ·simp only [extB, Bool.and_eq_true, btwB, decide_eq_true_eq] at h ⊢
  omega
theorem bothD_ok {p q : ProgD} (hp : progOkB p = true) (hq : progOkB q = true) : progOkB (bothD p q) = decide (p.rules.length + q.rules.length ≤ 60) := by
 have ap := progOk_atoms hp
 have aq := progOk_atoms hq
 have h1 := progOkB_mono hp (m := max p.atoms q.atoms) (by omega) (by omega)
 have h2 := progOkB_mono hq (m := max p.atoms q.atoms) (by omega) (by omega)
 have r1 := (progOk_rules h1).2
 have r2 := (progOk_rules h2).2
 have hall : (p.rules ++ q.rules).all (fun r => ruleOkB r (max p.atoms q.atoms)) = true := by
  rw [List.all_eq_true]; intro r hr
  exact (List.mem_append.1 hr).elim (r1 r) (r2 r)
 unfold progOkB at h1 ⊢
 simp only [Bool.and_eq_true] at h1
 obtain ⟨b0, b1, b2, b3, b4, b5, b6⟩ := h1
 show (btwB (max p.atoms q.atoms) 0 12 && (rulesB (p.rules ++ q.rules) (max p.atoms q.atoms) && (levelsB p.levels (max p.atoms q.atoms) && (projB (bothD p q) && (showsB p.shows (max p.atoms q.atoms) && (extsB p.exts (max p.atoms q.atoms) && litsB p.assume (max p.atoms q.atoms))))))) = _
 have b3' : projB (bothD p q) = true := b3
 rw [b0, b2, b3', b4, b5, b6]
 simp only [rulesB, hall, Bool.and_true, Bool.true_and, List.length_append]
theorem bothB_C {p q : ProgD} (hp : progOkB p = true) (hq : progOkB q = true) : bothB p q = progOkB (bothD p q) := by
 rw [bothD_ok hp hq]; simp only [bothB, hp, hq, Bool.true_and]
theorem Cells.c1' {w : World} {b : Nat} {v0 v : Value} {r : List Value} (h : Cells w b 0 (v0 :: v :: r)) : w.cell? ⟨b, 1, none⟩ = some v := h 1 v rfl
set_option maxHeartbeats 4000000 in
theorem implBoth_calls {cs ds : List Value} {p q : ProgD} {w : World} (h : Rd.R w cs p) (g : Rd.R w ds q) :
  Calls Tryz.prog 16 #[.agg cs.toArray, .agg ds.toArray] w fun e w' => ∃ cs', e = .returned (.tuple #[.agg cs'.toArray, .bool (bothB p q)]) ∧ Own w.heap.size w' cs' (bothR p q) ∧ Below w.heap.size w w' := by
 obtain ⟨p0, p1, p2, p3, p4, p5, p6, p7, rfl⟩ := list8 (Rd.len h)
 obtain ⟨q0, q1, q2, q3, q4, q5, q6, q7, rfl⟩ := list8 (Rd.len g)
 have t0 : Below w.heap.size w (((w.alloc (.cells #[p0, p1, p2, p3, p4, p5, p6, p7] 30)).alloc (.cells #[q0, q1, q2, q3, q4, q5, q6, q7] 30)).alloc (.cells #[.int .i64 0, .slice none 0 0, .slice none 0 0, .bool false, .slice none 0 0, .slice none 0 0, .slice none 0 0, .slice none 0 0] 30)) :=
  (((Below.refl _ _).alloc (by simp) _).alloc (by simp) _).alloc (by simp; omega) _
 have CP := ((Cells.new w [p0, p1, p2, p3, p4, p5, p6, p7] 30).alloc (.cells #[q0, q1, q2, q3, q4, q5, q6, q7] 30)).alloc (.cells #[.int .i64 0, .slice none 0 0, .slice none 0 0, .bool false, .slice none 0 0, .slice none 0 0, .slice none 0 0, .slice none 0 0] 30)
 have CQ := (Cells.new (w.alloc (.cells #[p0, p1, p2, p3, p4, p5, p6, p7] 30)) [q0, q1, q2, q3, q4, q5, q6, q7] 30).alloc (.cells #[.int .i64 0, .slice none 0 0, .slice none 0 0, .bool false, .slice none 0 0, .slice none 0 0, .slice none 0 0, .slice none 0 0] 30)
 have CR := Cells.new ((w.alloc (.cells #[p0, p1, p2, p3, p4, p5, p6, p7] 30)).alloc (.cells #[q0, q1, q2, q3, q4, q5, q6, q7] 30)) [.int .i64 0, .slice none 0 0, .slice none 0 0, .bool false, .slice none 0 0, .slice none 0 0, .slice none 0 0, .slice none 0 0] 30
 have hb0 := alloc_block ((w.alloc (.cells #[p0, p1, p2, p3, p4, p5, p6, p7] 30)).alloc (.cells #[q0, q1, q2, q3, q4, q5, q6, q7] 30)) #[.int .i64 0, .slice none 0 0, .slice none 0 0, .bool false, .slice none 0 0, .slice none 0 0, .slice none 0 0, .slice none 0 0] 30
 rw [World.size_alloc, World.size_alloc] at hb0
 rw [World.size_alloc] at CQ CR
 rw [World.size_alloc] at CR
 cases hp : progOkB p
 ·have hb := bothB_A (q := q) hp
  have hr := Lib.hid (bothR_no hb)
  have hb := Lib.hid hb
  go_enter Tryz.func16, Tryz.ntmps16
  go_wp2_with fail
  refine (implProgOk_calls (Rd.mono t0 h)).mono ?_
  rintro e w1 ⟨he, b1⟩
  rw [hp] at he
  subst he
  have CR1 := CR.later b1
  obtain ⟨z0, z1, z2, z3, z4, z5, z6, z7⟩ := cells8 CR1
  obtain ⟨hcA, hf1⟩ := bcell b1
  clear hcA
  have hz1 : w.heap.size + 1 + 1 < w1.heap.size := by have := b1.size; simp at this; omega
  have t1 := t0.step b1
  clear CP CQ CR CR1
  go_wp2
  exact bodyPost_ret (v := .tuple #[.agg #[.int .i64 0, .slice none 0 0, .slice none 0 0, .bool false, .slice none 0 0, .slice none 0 0, .slice none 0 0, .slice none 0 0], .bool false])
   (by simp [results, Tryz.results16, go_sem, z0, z1, z2, z3, z4, z5, z6, z7]) rfl ⟨_, by rw [hb.out], by rw [hr.out]; exact own_zero _ _, by
   repeat (refine Below.setCell ?_ (by simp; try omega) _)
   exact t1⟩
 cases hq : progOkB q
 ·have hb := bothB_B (p := p) hq
  have hr := Lib.hid (bothR_no hb)
  have hb := Lib.hid hb
  go_enter Tryz.func16, Tryz.ntmps16
  go_wp2_with fail
  refine (implProgOk_calls (Rd.mono t0 h)).mono ?_
  rintro e w1 ⟨he, b1⟩
  rw [hp] at he
  subst he
  have CQ1 := CQ.later b1
  obtain ⟨y0, y1, y2, y3, y4, y5, y6, y7⟩ := cells8 CQ1
  have t1 := t0.step b1
  have hs1 : w.heap.size + 1 + 1 + 1 ≤ w1.heap.size := by have := b1.size; simpa using this
  go_wp2_with fail
  refine (implProgOk_calls (Rd.mono t1 g)).mono ?_
  rintro e w2 ⟨he, b2⟩
  rw [hq] at he
  subst he
  clear y0 y1 y2 y3 y4 y5 y6 y7
  have b12 := b1.step b2
  have CR1 := CR.later b12
  obtain ⟨z0, z1, z2, z3, z4, z5, z6, z7⟩ := cells8 CR1
  obtain ⟨hcA, hf1⟩ := bcell b12
  clear hcA
  have hz1 : w.heap.size + 1 + 1 < w2.heap.size := by have := b2.size; omega
  have t2 := t1.step b2
  clear CP CQ CR CR1 CQ1
  go_wp2
  exact bodyPost_ret (v := .tuple #[.agg #[.int .i64 0, .slice none 0 0, .slice none 0 0, .bool false, .slice none 0 0, .slice none 0 0, .slice none 0 0, .slice none 0 0], .bool false])
   (by simp [results, Tryz.results16, go_sem, z0, z1, z2, z3, z4, z5, z6, z7]) rfl ⟨_, by rw [hb.out], by rw [hr.out]; exact own_zero _ _, by
   repeat (refine Below.setCell ?_ (by simp; try omega) _)
   exact t2⟩
 -- both are ok
 obtain ⟨i0, hi, hz0, hz1, hz2⟩ := info_parts info_copiesRule
 have HB := Lib.hid (bothB_C hp hq)
 have sp := szP_ok hp
 have sq := szP_ok hq
 have ap := progOk_atoms hp
 have aq := progOk_atoms hq
 have nr := (progOk_rules hp).1
 have nq := (progOk_rules hq).1
 have gg := g
 obtain ⟨d1, d2, d4, d5, d6, d7, he, hfq, gq1, _⟩ := gg
 simp only [List.cons.injEq, and_true] at he
 obtain ⟨rfl, rfl, rfl, rfl, rfl, rfl, rfl, rfl⟩ := he
 have hh := h
 obtain ⟨d1, d2, d4, d5, d6, d7, he, hfp, gp1, _⟩ := hh
 simp only [List.cons.injEq, and_true] at he
 obtain ⟨rfl, rfl, rfl, rfl, rfl, rfl, rfl, rfl⟩ := he
 go_enter Tryz.func16, Tryz.ntmps16
 go_wp2_with fail
 refine (implProgOk_calls (Rd.mono t0 h)).mono ?_
 rintro e w1 ⟨he, b1⟩
 rw [hp] at he
 subst he
 have CQ1 := CQ.later b1
 obtain ⟨y0, y1, y2, y3, y4, y5, y6, y7⟩ := cells8 CQ1
 have t1 := t0.step b1
 have hs1 : w.heap.size + 1 + 1 + 1 ≤ w1.heap.size := by have := b1.size; simpa using this
 go_wp2_with fail
 refine (implProgOk_calls (Rd.mono t1 g)).mono ?_
 rintro e w2 ⟨he, b2⟩
 rw [hq] at he
 subst he
 clear y0 y1 y2 y3 y4 y5 y6 y7
 have b12 := b1.step b2
 have CP2 := CP.later b12
 obtain ⟨y0, y1, y2, y3, y4, y5, y6, y7⟩ := cells8 CP2
 have t2 := t1.step b2
 go_wp2_with fail
 refine (progCopied_calls (Rd.mono t2 h) sp).mono ?_
 rintro e w3 ⟨c1, c2, c4, c5, c6, c7, D, rfl, hP, hD, b3⟩
 clear y0 y1 y2 y3 y4 y5 y6 y7
 have hs2 : w1.heap.size ≤ w2.heap.size := b2.size
 have hs3 : w2.heap.size ≤ w3.heap.size := b3.size
 have b13 := b12.step b3
 have t3 := t2.step b3
 have one := Rd.one hP.own.rd
 have st1 := sto Tryz.prog (one c1 (by simp))
 have st2 := sto Tryz.prog (one c2 (by simp))
 have st4 := sto Tryz.prog (one c4 (by simp))
 have st5 := sto Tryz.prog (one c5 (by simp))
 have st6 := sto Tryz.prog (one c6 (by simp))
 have st7 := sto Tryz.prog (one c7 (by simp))
 have CP3 := CP.later b13
 have CQ3 := CQ.later b13
 obtain ⟨y0, y1, y2, y3, y4, y5, y6, y7⟩ := cells8 CP3
 obtain ⟨x0, x1, x2, x3, x4, x5, x6, x7⟩ := cells8 CQ3
 have hl0 : w.heap.size < w3.heap.size := by omega
 have hl1 : w.heap.size + 1 < w3.heap.size := by omega
 have hl2 : w.heap.size + 1 + 1 < w3.heap.size := by omega
 by_cases hm : p.atoms < q.atoms
 ·have hmx : Hid (max p.atoms q.atoms = q.atoms) := by show _ = _; omega
  go_wp2
  have b34 := (Below.refl w3.heap.size w3).alloc (Nat.le_refl _) (.cells #[.int .i64 q.atoms, c1, c2, .bool p.projOn, c4, c5, c6, c7] 30)
  have t4 := t3.alloc t3.size (.cells #[.int .i64 q.atoms, c1, c2, .bool p.projOn, c4, c5, c6, c7] 30)
  have hP4 := hP.later b34
  have CB4 := Cells.new w3 [.int .i64 q.atoms, c1, c2, .bool p.projOn, c4, c5, c6, c7] 30
  have CR4 := (CR.later b13).later b34
  have CQ4 := CQ3.later b34
  have hza := World.size_alloc w3 (.cells #[.int .i64 q.atoms, c1, c2, .bool p.projOn, c4, c5, c6, c7] 30)
  have hbb := frozen_of_row (w3.alloc (.cells #[.int .i64 q.atoms, c1, c2, .bool p.projOn, c4, c5, c6, c7] 30)) w3.heap.size 1 #[.int .i64 q.atoms, c1, c2, .bool p.projOn, c4, c5, c6, c7] 30 (alloc_block _ _ _)
  generalize w3.alloc (.cells #[.int .i64 q.atoms, c1, c2, .bool p.projOn, c4, c5, c6, c7] 30) = wa at b34 t4 hP4 CB4 CR4 CQ4 hza hbb ⊢
  clear y0 y1 y2 y3 y4 y5 y6 y7 x0 x1 x2 x3 x4 x5 x6 x7
  obtain ⟨y0, y1, y2, y3, y4, y5, y6, y7⟩ := cells8 CB4
  obtain ⟨x0, x1, x2, x3, x4, x5, x6, x7⟩ := cells8 CQ4
  refine wp_region_held_drew (S := fun w' => w'.cell? ⟨w.heap.size + 1, 1, none⟩ = some q1) (by kernel_rfl) x1 (fun hHeld => ?_)
  refine tkY 0 (.pointer (some ⟨w3.heap.size, 1, none⟩)) 24 rfl rfl (fun w' hw' => ?_) hHeld ?_
  ·first | (go_simp; done) | (obtain ⟨s0, s1, s2, s3, s4⟩ := hw'; go_simp)
  try simp only [Act.put, put1, put2, put3]
  refine tkY 2 (.pointer (some ⟨w.heap.size + 1, 1, none⟩)) 26 rfl rfl (fun w' hw' => ?_) hHeld ?_
  ·first | (go_simp; done) | (obtain ⟨s0, s1, s2, s3, s4⟩ := hw'; go_simp)
  try simp only [Act.put, put1, put2, put3]
  refine tkY 3 (q1) 27 rfl rfl (fun w' hw' => ?_) hHeld ?_
  ·first | (go_simp; done) | (obtain ⟨s0, s1, s2, s3, s4⟩ := hw'; go_simp)
  try simp only [Act.put, put1, put2, put3]
  refine wpAnyH_ready (rs := [1, 4]) (by kernel_rfl) (by simp) ?_
  refine AllReadyH.cons rfl (fun K hK => ?_) (AllReadyH.cons rfl (fun K hK => ?_) AllReadyH.nil)
  ·go_simp
   refine hK.out _ _ x1 (fun hHeld => ?_)
   clear hK K
   try simp only [Act.put, put1, put2, put3]
   refine wpAnyH_ready (rs := [4]) (by kernel_rfl) (by simp) ?_
   refine AllReadyH.cons rfl (fun K hK => ?_) AllReadyH.nil
   go_simp
   refine (copiesRule_calls (Rd.mono (α := List RuleD) t4.drew gq1) sq.1.1 sq.1.2).mono ?_
   rintro e w5 ⟨v5, rfl, r5, hp5, b5⟩
   obtain ⟨g5, n5, fps5, rfl, hsrc, hin⟩ := r5.src hp5
   have b45 := (Below.refl wa.heap.size wa).drew.step b5
   have CB5 := CB4.later b45
   have CQ5 := CQ4.later b45
   clear y0 y1 y2 y3 y4 y5 y6 y7 x0 x1 x2 x3 x4 x5 x6 x7
   obtain ⟨y0, y1, y2, y3, y4, y5, y6, y7⟩ := cells8 CB5
   refine hK.out _ _ CQ5.c1' (fun hHeld => ?_)
   clear hK K
   try simp only [Act.put, put1, put2, put3]
   have hz5 := b45.size
   obtain ⟨v6, w6, run6, hP6, b6, hk6, a6, n6, rfl⟩ := hP4.append_run (P := Tryz.prog) (t := 24) (ty := 24) (c := n5) i0 _ 72 Tryz.underlying24 hi hz0 hz1 hz2 rfl b45 (fun f hf => by have := hD f hf; omega) (by omega) hsrc (fun f hf => (hin f hf).1) (by omega) (by omega)
   have hnD : ∀ k, (k < w2.heap.size ∨ w3.heap.size ≤ k) → ¬ D k := fun k hk hd => by
    obtain ⟨_, _, _, _, _, hlo⟩ := hP4
    have := hlo k hd
    have := hD k hd
    omega
   have hblk : w6.heap[w3.heap.size]? = wa.heap[w3.heap.size]? := (hk6 _ (by omega) (hnD _ (.inr (Nat.le_refl _)))).trans (b45.block _ (by omega))
   have hblr : w6.heap[w.heap.size + 1 + 1]? = wa.heap[w.heap.size + 1 + 1]? := (hk6 _ (by omega) (hnD _ (.inl (by omega)))).trans (b45.block _ (by omega))
   have hfz : w6.frozen? ⟨w3.heap.size, 1, none⟩ = false := (World.frozen?_of_block (a := ⟨w3.heap.size, 1, none⟩) hblk).trans hbb
   have CB6 := CB4.kept hblk
   have hblq : w6.heap[w.heap.size + 1]? = wa.heap[w.heap.size + 1]? := (hk6 _ (by omega) (hnD _ (.inl (by omega)))).trans (b45.block _ (by omega))
   have CQ6 := CQ4.kept hblq
   have CR6 := CR4.kept hblr
   have t6 : Below w.heap.size w w6 := (t4.drew.step b5).trans (b6.mono (by omega))
   have hz6 := b6.size
   have hbr : w6.heap[w.heap.size + 1 + 1]? = some (.cells #[.int .i64 0, .slice none 0 0, .slice none 0 0, .bool false, .slice none 0 0, .slice none 0 0, .slice none 0 0, .slice none 0 0] 30 (0, 0)) :=
    hblr.trans ((b34.block _ (by omega)).trans ((b13.block _ (by simp; try omega)).trans hb0))
   have hFm : Fits (max p.atoms q.atoms) := by unfold Fits; omega
   have hlo3 : ∀ k, (k < w2.heap.size ∨ k = w3.heap.size) → ¬ ((D k ∨ wa.heap.size ≤ k) ∧ k < w6.heap.size) := fun k hk hd => by
    rcases hd.1 with hd | hd
    ·exact hnD k (by omega) hd
    ·omega
   have hP7 := (hP6.far (q := ⟨w3.heap.size, 1, none⟩) (hlo3 _ (.inr rfl)) (.inr (Nat.le_refl _)) (.slice a6 (p.rules ++ q.rules).length n6)).atoms hFm
   have hP7' : OwnPR w2.heap.size w3.heap.size _ _ _ c2 c4 c5 c6 c7 (bothD p q) := hP7
   have CB7 := CB6.set (i := 1) (v := .slice a6 (p.rules ++ q.rules).length n6) (by simp)
   have hrd7 : Rd.R (w6.setCell ⟨w3.heap.size, 1, none⟩ (.slice a6 (p.rules ++ q.rules).length n6)) [.int .i64 q.atoms, .slice a6 (p.rules ++ q.rules).length n6, c2, .bool p.projOn, c4, c5, c6, c7] (bothD p q) := by
    have := hP7'.own.rd
    rw [show (bothD p q).atoms = q.atoms from hmx.out] at this
    exact this
   have t7 : Below w.heap.size w (w6.setCell ⟨w3.heap.size, 1, none⟩ (.slice a6 (p.rules ++ q.rules).length n6)) := Below.setCell t6 (by show w.heap.size ≤ w3.heap.size; omega) _
   rw [List.length_append] at hP7 hP7' CB7 hrd7 t7
   clear y0 y1 y2 y3 y4 y5 y6 y7 CR4 hbb hP4 hP6 hk6 hin hsrc
   obtain ⟨y0, y1, y2, y3, y4, y5, y6, y7⟩ := cells8 CB6
   refine wpAnyH_ready (rs := [5]) (by kernel_rfl) (by simp) ?_
   refine AllReadyH.cons rfl (fun K hK => ?_) AllReadyH.nil
   refine step_append_of rfl _ _ rfl rfl rfl run6 ?_
   refine hK.out _ _ CQ6.c1' (fun hHeld => ?_)
   clear hK K
   try simp only [Act.put, put1, put2, put3]
   refine tkY 6 (.pointer (some ⟨w3.heap.size, 1, none⟩)) 30 rfl rfl (fun w' hw' => ?_) hHeld ?_
   ·first | (go_simp; done) | (obtain ⟨s0, s1, s2, s3, s4⟩ := hw'; go_simp)
   try simp only [Act.put, put1, put2, put3]
   refine wpAnyH_ready (rs := [7]) (by kernel_rfl) (by simp) ?_
   refine AllReadyH.cons rfl (fun K hK => ?_) AllReadyH.nil
   go_simp
   refine hK.out _ _ (Cells.c1' (CQ6.kept (Below.heap_setCell _ _ _ _ (by show _ ≠ w3.heap.size; omega)))) (fun hHeld => ?_)
   clear hK K
   try simp only [Act.put, put1, put2, put3]
   refine wpAnyH_done (by kernel_rfl) ?_ _
   go_wp2_with fail
   clear y0 y1 y2 y3 y4 y5 y6 y7 run6
   refine (implProgOk_calls hrd7).mono ?_
   rintro e w8 ⟨he, b8⟩
   have hbr8 := (b8.block (w.heap.size + 1 + 1) (by simp; omega)).trans ((Below.heap_setCell _ _ _ _ (by show _ ≠ w3.heap.size; omega)).trans hbr)
   have hfz8 := fun j => frozen_of_row w8 (w.heap.size + 1 + 1) j _ _ hbr8
   have CB8 := CB7.later b8
   have hP8 := hP7'.later b8
   have t8 := t7.step b8
   have hz8 : w.heap.size + 1 + 1 < w8.heap.size := by have := b8.size; simp at this; omega
   have CR8 := (CR6.kept (w' := w6.setCell ⟨w3.heap.size, 1, none⟩ (.slice a6 (p.rules.length + q.rules.length) n6)) (Below.heap_setCell _ _ _ _ (by show _ ≠ w3.heap.size; omega))).later b8
   clear CR6 CB6 CQ6 CB5 CQ5 CQ4 CB4 CP CQ CR CP2 CP3 CQ3 CQ1
   obtain ⟨z0, z1, z2, z3, z4, z5, z6, z7⟩ := cells8 CR8
   cases hB : progOkB (bothD p q)
   ·rw [hB] at he
    subst he
    have hb := Lib.hid (HB.out.trans hB)
    have hr := Lib.hid (bothR_no (HB.out.trans hB))
    clear hB CB8
    go_wp2
    exact bodyPost_ret (v := .tuple #[.agg #[.int .i64 0, .slice none 0 0, .slice none 0 0, .bool false, .slice none 0 0, .slice none 0 0, .slice none 0 0, .slice none 0 0], .bool false])
     (by simp [results, Tryz.results16, go_sem, z0, z1, z2, z3, z4, z5, z6, z7]) rfl ⟨_, by rw [hb.out], by rw [hr.out]; exact own_zero _ _, by
     repeat (refine Below.setCell ?_ (by simp; try omega) _)
     exact t8⟩
   ·rw [hB] at he
    subst he
    have hb := Lib.hid (HB.out.trans hB)
    have hr := Lib.hid (bothR_yes (HB.out.trans hB))
    clear hB
    obtain ⟨y0, y1, y2, y3, y4, y5, y6, y7⟩ := cells8 CB8
    go_wp2
    refine bodyPost_ret (v := .tuple #[.agg #[.int .i64 q.atoms, .slice a6 (p.rules.length + q.rules.length) n6, c2, .bool p.projOn, c4, c5, c6, c7], .bool true])
     (by simp [results, Tryz.results16, go_sem, z0, z1, z2, z3, z4, z5, z6, z7]) rfl ⟨_, by rw [hb.out], ?_, ?_⟩
    ·rw [hr.out]
     have hfin := fun (W : World) (hW : OwnPR w2.heap.size w3.heap.size (fun k => (D k ∨ wa.heap.size ≤ k) ∧ k < w6.heap.size) W (.slice a6 (p.rules.length + q.rules.length) n6) c2 c4 c5 c6 c7 (bothD p q)) => hW.own
     rw [show (bothD p q).atoms = q.atoms from hmx.out] at hfin
     refine (hfin _ ?_).mono (by omega)
     repeat (refine OwnPR.far ?_ (hlo3 _ (.inl (by show w.heap.size + 1 + 1 < _; omega))) (.inl (by show w.heap.size + 1 + 1 < _; omega)) _)
     exact hP8
    ·repeat (refine Below.setCell ?_ (by simp; try omega) _)
     exact t8
  ·go_simp
   refine (copiesRule_calls (Rd.mono (α := List RuleD) t4.drew gq1) sq.1.1 sq.1.2).mono ?_
   rintro e w5 ⟨v5, rfl, r5, hp5, b5⟩
   obtain ⟨g5, n5, fps5, rfl, hsrc, hin⟩ := r5.src hp5
   have b45 := (Below.refl wa.heap.size wa).drew.step b5
   have CB5 := CB4.later b45
   have CQ5 := CQ4.later b45
   clear y0 y1 y2 y3 y4 y5 y6 y7 x0 x1 x2 x3 x4 x5 x6 x7
   obtain ⟨y0, y1, y2, y3, y4, y5, y6, y7⟩ := cells8 CB5
   refine hK.out _ _ CQ5.c1' (fun hHeld => ?_)
   clear hK K
   try simp only [Act.put, put1, put2, put3]
   refine wpAnyH_ready (rs := [1]) (by kernel_rfl) (by simp) ?_
   refine AllReadyH.cons rfl (fun K hK => ?_) AllReadyH.nil
   go_simp
   refine hK.out _ _ CQ5.c1' (fun hHeld => ?_)
   clear hK K
   try simp only [Act.put, put1, put2, put3]
   have hz5 := b45.size
   obtain ⟨v6, w6, run6, hP6, b6, hk6, a6, n6, rfl⟩ := hP4.append_run (P := Tryz.prog) (t := 24) (ty := 24) (c := n5) i0 _ 72 Tryz.underlying24 hi hz0 hz1 hz2 rfl b45 (fun f hf => by have := hD f hf; omega) (by omega) hsrc (fun f hf => (hin f hf).1) (by omega) (by omega)
   have hnD : ∀ k, (k < w2.heap.size ∨ w3.heap.size ≤ k) → ¬ D k := fun k hk hd => by
    obtain ⟨_, _, _, _, _, hlo⟩ := hP4
    have := hlo k hd
    have := hD k hd
    omega
   have hblk : w6.heap[w3.heap.size]? = wa.heap[w3.heap.size]? := (hk6 _ (by omega) (hnD _ (.inr (Nat.le_refl _)))).trans (b45.block _ (by omega))
   have hblr : w6.heap[w.heap.size + 1 + 1]? = wa.heap[w.heap.size + 1 + 1]? := (hk6 _ (by omega) (hnD _ (.inl (by omega)))).trans (b45.block _ (by omega))
   have hfz : w6.frozen? ⟨w3.heap.size, 1, none⟩ = false := (World.frozen?_of_block (a := ⟨w3.heap.size, 1, none⟩) hblk).trans hbb
   have CB6 := CB4.kept hblk
   have hblq : w6.heap[w.heap.size + 1]? = wa.heap[w.heap.size + 1]? := (hk6 _ (by omega) (hnD _ (.inl (by omega)))).trans (b45.block _ (by omega))
   have CQ6 := CQ4.kept hblq
   have CR6 := CR4.kept hblr
   have t6 : Below w.heap.size w w6 := (t4.drew.step b5).trans (b6.mono (by omega))
   have hz6 := b6.size
   have hbr : w6.heap[w.heap.size + 1 + 1]? = some (.cells #[.int .i64 0, .slice none 0 0, .slice none 0 0, .bool false, .slice none 0 0, .slice none 0 0, .slice none 0 0, .slice none 0 0] 30 (0, 0)) :=
    hblr.trans ((b34.block _ (by omega)).trans ((b13.block _ (by simp; try omega)).trans hb0))
   have hFm : Fits (max p.atoms q.atoms) := by unfold Fits; omega
   have hlo3 : ∀ k, (k < w2.heap.size ∨ k = w3.heap.size) → ¬ ((D k ∨ wa.heap.size ≤ k) ∧ k < w6.heap.size) := fun k hk hd => by
    rcases hd.1 with hd | hd
    ·exact hnD k (by omega) hd
    ·omega
   have hP7 := (hP6.far (q := ⟨w3.heap.size, 1, none⟩) (hlo3 _ (.inr rfl)) (.inr (Nat.le_refl _)) (.slice a6 (p.rules ++ q.rules).length n6)).atoms hFm
   have hP7' : OwnPR w2.heap.size w3.heap.size _ _ _ c2 c4 c5 c6 c7 (bothD p q) := hP7
   have CB7 := CB6.set (i := 1) (v := .slice a6 (p.rules ++ q.rules).length n6) (by simp)
   have hrd7 : Rd.R (w6.setCell ⟨w3.heap.size, 1, none⟩ (.slice a6 (p.rules ++ q.rules).length n6)) [.int .i64 q.atoms, .slice a6 (p.rules ++ q.rules).length n6, c2, .bool p.projOn, c4, c5, c6, c7] (bothD p q) := by
    have := hP7'.own.rd
    rw [show (bothD p q).atoms = q.atoms from hmx.out] at this
    exact this
   have t7 : Below w.heap.size w (w6.setCell ⟨w3.heap.size, 1, none⟩ (.slice a6 (p.rules ++ q.rules).length n6)) := Below.setCell t6 (by show w.heap.size ≤ w3.heap.size; omega) _
   rw [List.length_append] at hP7 hP7' CB7 hrd7 t7
   clear y0 y1 y2 y3 y4 y5 y6 y7 CR4 hbb hP4 hP6 hk6 hin hsrc
   obtain ⟨y0, y1, y2, y3, y4, y5, y6, y7⟩ := cells8 CB6
   refine wpAnyH_ready (rs := [5]) (by kernel_rfl) (by simp) ?_
   refine AllReadyH.cons rfl (fun K hK => ?_) AllReadyH.nil
   refine step_append_of rfl _ _ rfl rfl rfl run6 ?_
   refine hK.out _ _ CQ6.c1' (fun hHeld => ?_)
   clear hK K
   try simp only [Act.put, put1, put2, put3]
   refine tkY 6 (.pointer (some ⟨w3.heap.size, 1, none⟩)) 30 rfl rfl (fun w' hw' => ?_) hHeld ?_
   ·first | (go_simp; done) | (obtain ⟨s0, s1, s2, s3, s4⟩ := hw'; go_simp)
   try simp only [Act.put, put1, put2, put3]
   refine wpAnyH_ready (rs := [7]) (by kernel_rfl) (by simp) ?_
   refine AllReadyH.cons rfl (fun K hK => ?_) AllReadyH.nil
   go_simp
   refine hK.out _ _ (Cells.c1' (CQ6.kept (Below.heap_setCell _ _ _ _ (by show _ ≠ w3.heap.size; omega)))) (fun hHeld => ?_)
   clear hK K
   try simp only [Act.put, put1, put2, put3]
   refine wpAnyH_done (by kernel_rfl) ?_ _
   go_wp2_with fail
   clear y0 y1 y2 y3 y4 y5 y6 y7 run6
   refine (implProgOk_calls hrd7).mono ?_
   rintro e w8 ⟨he, b8⟩
   have hbr8 := (b8.block (w.heap.size + 1 + 1) (by simp; omega)).trans ((Below.heap_setCell _ _ _ _ (by show _ ≠ w3.heap.size; omega)).trans hbr)
   have hfz8 := fun j => frozen_of_row w8 (w.heap.size + 1 + 1) j _ _ hbr8
   have CB8 := CB7.later b8
   have hP8 := hP7'.later b8
   have t8 := t7.step b8
   have hz8 : w.heap.size + 1 + 1 < w8.heap.size := by have := b8.size; simp at this; omega
   have CR8 := (CR6.kept (w' := w6.setCell ⟨w3.heap.size, 1, none⟩ (.slice a6 (p.rules.length + q.rules.length) n6)) (Below.heap_setCell _ _ _ _ (by show _ ≠ w3.heap.size; omega))).later b8
   clear CR6 CB6 CQ6 CB5 CQ5 CQ4 CB4 CP CQ CR CP2 CP3 CQ3 CQ1
   obtain ⟨z0, z1, z2, z3, z4, z5, z6, z7⟩ := cells8 CR8
   cases hB : progOkB (bothD p q)
   ·rw [hB] at he
    subst he
    have hb := Lib.hid (HB.out.trans hB)
    have hr := Lib.hid (bothR_no (HB.out.trans hB))
    clear hB CB8
    go_wp2
    exact bodyPost_ret (v := .tuple #[.agg #[.int .i64 0, .slice none 0 0, .slice none 0 0, .bool false, .slice none 0 0, .slice none 0 0, .slice none 0 0, .slice none 0 0], .bool false])
     (by simp [results, Tryz.results16, go_sem, z0, z1, z2, z3, z4, z5, z6, z7]) rfl ⟨_, by rw [hb.out], by rw [hr.out]; exact own_zero _ _, by
     repeat (refine Below.setCell ?_ (by simp; try omega) _)
     exact t8⟩
   ·rw [hB] at he
    subst he
    have hb := Lib.hid (HB.out.trans hB)
    have hr := Lib.hid (bothR_yes (HB.out.trans hB))
    clear hB
    obtain ⟨y0, y1, y2, y3, y4, y5, y6, y7⟩ := cells8 CB8
    go_wp2
    refine bodyPost_ret (v := .tuple #[.agg #[.int .i64 q.atoms, .slice a6 (p.rules.length + q.rules.length) n6, c2, .bool p.projOn, c4, c5, c6, c7], .bool true])
     (by simp [results, Tryz.results16, go_sem, z0, z1, z2, z3, z4, z5, z6, z7]) rfl ⟨_, by rw [hb.out], ?_, ?_⟩
    ·rw [hr.out]
     have hfin := fun (W : World) (hW : OwnPR w2.heap.size w3.heap.size (fun k => (D k ∨ wa.heap.size ≤ k) ∧ k < w6.heap.size) W (.slice a6 (p.rules.length + q.rules.length) n6) c2 c4 c5 c6 c7 (bothD p q)) => hW.own
     rw [show (bothD p q).atoms = q.atoms from hmx.out] at hfin
     refine (hfin _ ?_).mono (by omega)
     repeat (refine OwnPR.far ?_ (hlo3 _ (.inl (by show w.heap.size + 1 + 1 < _; omega))) (.inl (by show w.heap.size + 1 + 1 < _; omega)) _)
     exact hP8
    ·repeat (refine Below.setCell ?_ (by simp; try omega) _)
     exact t8
 ·have hmx : Hid (max p.atoms q.atoms = p.atoms) := by show _ = _; omega
  have hm2 : q.atoms ≤ p.atoms := by omega
  go_wp2
  have b34 := (Below.refl w3.heap.size w3).alloc (Nat.le_refl _) (.cells #[.int .i64 p.atoms, c1, c2, .bool p.projOn, c4, c5, c6, c7] 30)
  have t4 := t3.alloc t3.size (.cells #[.int .i64 p.atoms, c1, c2, .bool p.projOn, c4, c5, c6, c7] 30)
  have hP4 := hP.later b34
  have CB4 := Cells.new w3 [.int .i64 p.atoms, c1, c2, .bool p.projOn, c4, c5, c6, c7] 30
  have CR4 := (CR.later b13).later b34
  have CQ4 := CQ3.later b34
  have hza := World.size_alloc w3 (.cells #[.int .i64 p.atoms, c1, c2, .bool p.projOn, c4, c5, c6, c7] 30)
  have hbb := frozen_of_row (w3.alloc (.cells #[.int .i64 p.atoms, c1, c2, .bool p.projOn, c4, c5, c6, c7] 30)) w3.heap.size 1 #[.int .i64 p.atoms, c1, c2, .bool p.projOn, c4, c5, c6, c7] 30 (alloc_block _ _ _)
  generalize w3.alloc (.cells #[.int .i64 p.atoms, c1, c2, .bool p.projOn, c4, c5, c6, c7] 30) = wa at b34 t4 hP4 CB4 CR4 CQ4 hza hbb ⊢
  clear y0 y1 y2 y3 y4 y5 y6 y7 x0 x1 x2 x3 x4 x5 x6 x7
  obtain ⟨y0, y1, y2, y3, y4, y5, y6, y7⟩ := cells8 CB4
  obtain ⟨x0, x1, x2, x3, x4, x5, x6, x7⟩ := cells8 CQ4
  refine wp_region_held_drew (S := fun w' => w'.cell? ⟨w.heap.size + 1, 1, none⟩ = some q1) (by kernel_rfl) x1 (fun hHeld => ?_)
  refine tkY 0 (.pointer (some ⟨w3.heap.size, 1, none⟩)) 24 rfl rfl (fun w' hw' => ?_) hHeld ?_
  ·first | (go_simp; done) | (obtain ⟨s0, s1, s2, s3, s4⟩ := hw'; go_simp)
  try simp only [Act.put, put1, put2, put3]
  refine tkY 2 (.pointer (some ⟨w.heap.size + 1, 1, none⟩)) 26 rfl rfl (fun w' hw' => ?_) hHeld ?_
  ·first | (go_simp; done) | (obtain ⟨s0, s1, s2, s3, s4⟩ := hw'; go_simp)
  try simp only [Act.put, put1, put2, put3]
  refine tkY 3 (q1) 27 rfl rfl (fun w' hw' => ?_) hHeld ?_
  ·first | (go_simp; done) | (obtain ⟨s0, s1, s2, s3, s4⟩ := hw'; go_simp)
  try simp only [Act.put, put1, put2, put3]
  refine wpAnyH_ready (rs := [1, 4]) (by kernel_rfl) (by simp) ?_
  refine AllReadyH.cons rfl (fun K hK => ?_) (AllReadyH.cons rfl (fun K hK => ?_) AllReadyH.nil)
  ·go_simp
   refine hK.out _ _ x1 (fun hHeld => ?_)
   clear hK K
   try simp only [Act.put, put1, put2, put3]
   refine wpAnyH_ready (rs := [4]) (by kernel_rfl) (by simp) ?_
   refine AllReadyH.cons rfl (fun K hK => ?_) AllReadyH.nil
   go_simp
   refine (copiesRule_calls (Rd.mono (α := List RuleD) t4.drew gq1) sq.1.1 sq.1.2).mono ?_
   rintro e w5 ⟨v5, rfl, r5, hp5, b5⟩
   obtain ⟨g5, n5, fps5, rfl, hsrc, hin⟩ := r5.src hp5
   have b45 := (Below.refl wa.heap.size wa).drew.step b5
   have CB5 := CB4.later b45
   have CQ5 := CQ4.later b45
   clear y0 y1 y2 y3 y4 y5 y6 y7 x0 x1 x2 x3 x4 x5 x6 x7
   obtain ⟨y0, y1, y2, y3, y4, y5, y6, y7⟩ := cells8 CB5
   refine hK.out _ _ CQ5.c1' (fun hHeld => ?_)
   clear hK K
   try simp only [Act.put, put1, put2, put3]
   have hz5 := b45.size
   obtain ⟨v6, w6, run6, hP6, b6, hk6, a6, n6, rfl⟩ := hP4.append_run (P := Tryz.prog) (t := 24) (ty := 24) (c := n5) i0 _ 72 Tryz.underlying24 hi hz0 hz1 hz2 rfl b45 (fun f hf => by have := hD f hf; omega) (by omega) hsrc (fun f hf => (hin f hf).1) (by omega) (by omega)
   have hnD : ∀ k, (k < w2.heap.size ∨ w3.heap.size ≤ k) → ¬ D k := fun k hk hd => by
    obtain ⟨_, _, _, _, _, hlo⟩ := hP4
    have := hlo k hd
    have := hD k hd
    omega
   have hblk : w6.heap[w3.heap.size]? = wa.heap[w3.heap.size]? := (hk6 _ (by omega) (hnD _ (.inr (Nat.le_refl _)))).trans (b45.block _ (by omega))
   have hblr : w6.heap[w.heap.size + 1 + 1]? = wa.heap[w.heap.size + 1 + 1]? := (hk6 _ (by omega) (hnD _ (.inl (by omega)))).trans (b45.block _ (by omega))
   have hfz : w6.frozen? ⟨w3.heap.size, 1, none⟩ = false := (World.frozen?_of_block (a := ⟨w3.heap.size, 1, none⟩) hblk).trans hbb
   have CB6 := CB4.kept hblk
   have hblq : w6.heap[w.heap.size + 1]? = wa.heap[w.heap.size + 1]? := (hk6 _ (by omega) (hnD _ (.inl (by omega)))).trans (b45.block _ (by omega))
   have CQ6 := CQ4.kept hblq
   have CR6 := CR4.kept hblr
   have t6 : Below w.heap.size w w6 := (t4.drew.step b5).trans (b6.mono (by omega))
   have hz6 := b6.size
   have hbr : w6.heap[w.heap.size + 1 + 1]? = some (.cells #[.int .i64 0, .slice none 0 0, .slice none 0 0, .bool false, .slice none 0 0, .slice none 0 0, .slice none 0 0, .slice none 0 0] 30 (0, 0)) :=
    hblr.trans ((b34.block _ (by omega)).trans ((b13.block _ (by simp; try omega)).trans hb0))
   have hFm : Fits (max p.atoms q.atoms) := by unfold Fits; omega
   have hlo3 : ∀ k, (k < w2.heap.size ∨ k = w3.heap.size) → ¬ ((D k ∨ wa.heap.size ≤ k) ∧ k < w6.heap.size) := fun k hk hd => by
    rcases hd.1 with hd | hd
    ·exact hnD k (by omega) hd
    ·omega
   have hP7 := (hP6.far (q := ⟨w3.heap.size, 1, none⟩) (hlo3 _ (.inr rfl)) (.inr (Nat.le_refl _)) (.slice a6 (p.rules ++ q.rules).length n6)).atoms hFm
   have hP7' : OwnPR w2.heap.size w3.heap.size _ _ _ c2 c4 c5 c6 c7 (bothD p q) := hP7
   have CB7 := CB6.set (i := 1) (v := .slice a6 (p.rules ++ q.rules).length n6) (by simp)
   have hrd7 : Rd.R (w6.setCell ⟨w3.heap.size, 1, none⟩ (.slice a6 (p.rules ++ q.rules).length n6)) [.int .i64 p.atoms, .slice a6 (p.rules ++ q.rules).length n6, c2, .bool p.projOn, c4, c5, c6, c7] (bothD p q) := by
    have := hP7'.own.rd
    rw [show (bothD p q).atoms = p.atoms from hmx.out] at this
    exact this
   have t7 : Below w.heap.size w (w6.setCell ⟨w3.heap.size, 1, none⟩ (.slice a6 (p.rules ++ q.rules).length n6)) := Below.setCell t6 (by show w.heap.size ≤ w3.heap.size; omega) _
   rw [List.length_append] at hP7 hP7' CB7 hrd7 t7
   clear y0 y1 y2 y3 y4 y5 y6 y7 CR4 hbb hP4 hP6 hk6 hin hsrc
   obtain ⟨y0, y1, y2, y3, y4, y5, y6, y7⟩ := cells8 CB6
   refine wpAnyH_ready (rs := [5]) (by kernel_rfl) (by simp) ?_
   refine AllReadyH.cons rfl (fun K hK => ?_) AllReadyH.nil
   refine step_append_of rfl _ _ rfl rfl rfl run6 ?_
   refine hK.out _ _ CQ6.c1' (fun hHeld => ?_)
   clear hK K
   try simp only [Act.put, put1, put2, put3]
   refine tkY 6 (.pointer (some ⟨w3.heap.size, 1, none⟩)) 30 rfl rfl (fun w' hw' => ?_) hHeld ?_
   ·first | (go_simp; done) | (obtain ⟨s0, s1, s2, s3, s4⟩ := hw'; go_simp)
   try simp only [Act.put, put1, put2, put3]
   refine wpAnyH_ready (rs := [7]) (by kernel_rfl) (by simp) ?_
   refine AllReadyH.cons rfl (fun K hK => ?_) AllReadyH.nil
   go_simp
   refine hK.out _ _ (Cells.c1' (CQ6.kept (Below.heap_setCell _ _ _ _ (by show _ ≠ w3.heap.size; omega)))) (fun hHeld => ?_)
   clear hK K
   try simp only [Act.put, put1, put2, put3]
   refine wpAnyH_done (by kernel_rfl) ?_ _
   go_wp2_with fail
   clear y0 y1 y2 y3 y4 y5 y6 y7 run6
   refine (implProgOk_calls hrd7).mono ?_
   rintro e w8 ⟨he, b8⟩
   have hbr8 := (b8.block (w.heap.size + 1 + 1) (by simp; omega)).trans ((Below.heap_setCell _ _ _ _ (by show _ ≠ w3.heap.size; omega)).trans hbr)
   have hfz8 := fun j => frozen_of_row w8 (w.heap.size + 1 + 1) j _ _ hbr8
   have CB8 := CB7.later b8
   have hP8 := hP7'.later b8
   have t8 := t7.step b8
   have hz8 : w.heap.size + 1 + 1 < w8.heap.size := by have := b8.size; simp at this; omega
   have CR8 := (CR6.kept (w' := w6.setCell ⟨w3.heap.size, 1, none⟩ (.slice a6 (p.rules.length + q.rules.length) n6)) (Below.heap_setCell _ _ _ _ (by show _ ≠ w3.heap.size; omega))).later b8
   clear CR6 CB6 CQ6 CB5 CQ5 CQ4 CB4 CP CQ CR CP2 CP3 CQ3 CQ1
   obtain ⟨z0, z1, z2, z3, z4, z5, z6, z7⟩ := cells8 CR8
   cases hB : progOkB (bothD p q)
   ·rw [hB] at he
    subst he
    have hb := Lib.hid (HB.out.trans hB)
    have hr := Lib.hid (bothR_no (HB.out.trans hB))
    clear hB CB8
    go_wp2
    exact bodyPost_ret (v := .tuple #[.agg #[.int .i64 0, .slice none 0 0, .slice none 0 0, .bool false, .slice none 0 0, .slice none 0 0, .slice none 0 0, .slice none 0 0], .bool false])
     (by simp [results, Tryz.results16, go_sem, z0, z1, z2, z3, z4, z5, z6, z7]) rfl ⟨_, by rw [hb.out], by rw [hr.out]; exact own_zero _ _, by
     repeat (refine Below.setCell ?_ (by simp; try omega) _)
     exact t8⟩
   ·rw [hB] at he
    subst he
    have hb := Lib.hid (HB.out.trans hB)
    have hr := Lib.hid (bothR_yes (HB.out.trans hB))
    clear hB
    obtain ⟨y0, y1, y2, y3, y4, y5, y6, y7⟩ := cells8 CB8
    go_wp2
    refine bodyPost_ret (v := .tuple #[.agg #[.int .i64 p.atoms, .slice a6 (p.rules.length + q.rules.length) n6, c2, .bool p.projOn, c4, c5, c6, c7], .bool true])
     (by simp [results, Tryz.results16, go_sem, z0, z1, z2, z3, z4, z5, z6, z7]) rfl ⟨_, by rw [hb.out], ?_, ?_⟩
    ·rw [hr.out]
     have hfin := fun (W : World) (hW : OwnPR w2.heap.size w3.heap.size (fun k => (D k ∨ wa.heap.size ≤ k) ∧ k < w6.heap.size) W (.slice a6 (p.rules.length + q.rules.length) n6) c2 c4 c5 c6 c7 (bothD p q)) => hW.own
     rw [show (bothD p q).atoms = p.atoms from hmx.out] at hfin
     refine (hfin _ ?_).mono (by omega)
     repeat (refine OwnPR.far ?_ (hlo3 _ (.inl (by show w.heap.size + 1 + 1 < _; omega))) (.inl (by show w.heap.size + 1 + 1 < _; omega)) _)
     exact hP8
    ·repeat (refine Below.setCell ?_ (by simp; try omega) _)
     exact t8
  ·go_simp
   refine (copiesRule_calls (Rd.mono (α := List RuleD) t4.drew gq1) sq.1.1 sq.1.2).mono ?_
   rintro e w5 ⟨v5, rfl, r5, hp5, b5⟩
   obtain ⟨g5, n5, fps5, rfl, hsrc, hin⟩ := r5.src hp5
   have b45 := (Below.refl wa.heap.size wa).drew.step b5
   have CB5 := CB4.later b45
   have CQ5 := CQ4.later b45
   clear y0 y1 y2 y3 y4 y5 y6 y7 x0 x1 x2 x3 x4 x5 x6 x7
   obtain ⟨y0, y1, y2, y3, y4, y5, y6, y7⟩ := cells8 CB5
   refine hK.out _ _ CQ5.c1' (fun hHeld => ?_)
   clear hK K
   try simp only [Act.put, put1, put2, put3]
   refine wpAnyH_ready (rs := [1]) (by kernel_rfl) (by simp) ?_
   refine AllReadyH.cons rfl (fun K hK => ?_) AllReadyH.nil
   go_simp
   refine hK.out _ _ CQ5.c1' (fun hHeld => ?_)
   clear hK K
   try simp only [Act.put, put1, put2, put3]
   have hz5 := b45.size
   obtain ⟨v6, w6, run6, hP6, b6, hk6, a6, n6, rfl⟩ := hP4.append_run (P := Tryz.prog) (t := 24) (ty := 24) (c := n5) i0 _ 72 Tryz.underlying24 hi hz0 hz1 hz2 rfl b45 (fun f hf => by have := hD f hf; omega) (by omega) hsrc (fun f hf => (hin f hf).1) (by omega) (by omega)
   have hnD : ∀ k, (k < w2.heap.size ∨ w3.heap.size ≤ k) → ¬ D k := fun k hk hd => by
    obtain ⟨_, _, _, _, _, hlo⟩ := hP4
    have := hlo k hd
    have := hD k hd
    omega
   have hblk : w6.heap[w3.heap.size]? = wa.heap[w3.heap.size]? := (hk6 _ (by omega) (hnD _ (.inr (Nat.le_refl _)))).trans (b45.block _ (by omega))
   have hblr : w6.heap[w.heap.size + 1 + 1]? = wa.heap[w.heap.size + 1 + 1]? := (hk6 _ (by omega) (hnD _ (.inl (by omega)))).trans (b45.block _ (by omega))
   have hfz : w6.frozen? ⟨w3.heap.size, 1, none⟩ = false := (World.frozen?_of_block (a := ⟨w3.heap.size, 1, none⟩) hblk).trans hbb
   have CB6 := CB4.kept hblk
   have hblq : w6.heap[w.heap.size + 1]? = wa.heap[w.heap.size + 1]? := (hk6 _ (by omega) (hnD _ (.inl (by omega)))).trans (b45.block _ (by omega))
   have CQ6 := CQ4.kept hblq
   have CR6 := CR4.kept hblr
   have t6 : Below w.heap.size w w6 := (t4.drew.step b5).trans (b6.mono (by omega))
   have hz6 := b6.size
   have hbr : w6.heap[w.heap.size + 1 + 1]? = some (.cells #[.int .i64 0, .slice none 0 0, .slice none 0 0, .bool false, .slice none 0 0, .slice none 0 0, .slice none 0 0, .slice none 0 0] 30 (0, 0)) :=
    hblr.trans ((b34.block _ (by omega)).trans ((b13.block _ (by simp; try omega)).trans hb0))
   have hFm : Fits (max p.atoms q.atoms) := by unfold Fits; omega
   have hlo3 : ∀ k, (k < w2.heap.size ∨ k = w3.heap.size) → ¬ ((D k ∨ wa.heap.size ≤ k) ∧ k < w6.heap.size) := fun k hk hd => by
    rcases hd.1 with hd | hd
    ·exact hnD k (by omega) hd
    ·omega
   have hP7 := (hP6.far (q := ⟨w3.heap.size, 1, none⟩) (hlo3 _ (.inr rfl)) (.inr (Nat.le_refl _)) (.slice a6 (p.rules ++ q.rules).length n6)).atoms hFm
   have hP7' : OwnPR w2.heap.size w3.heap.size _ _ _ c2 c4 c5 c6 c7 (bothD p q) := hP7
   have CB7 := CB6.set (i := 1) (v := .slice a6 (p.rules ++ q.rules).length n6) (by simp)
   have hrd7 : Rd.R (w6.setCell ⟨w3.heap.size, 1, none⟩ (.slice a6 (p.rules ++ q.rules).length n6)) [.int .i64 p.atoms, .slice a6 (p.rules ++ q.rules).length n6, c2, .bool p.projOn, c4, c5, c6, c7] (bothD p q) := by
    have := hP7'.own.rd
    rw [show (bothD p q).atoms = p.atoms from hmx.out] at this
    exact this
   have t7 : Below w.heap.size w (w6.setCell ⟨w3.heap.size, 1, none⟩ (.slice a6 (p.rules ++ q.rules).length n6)) := Below.setCell t6 (by show w.heap.size ≤ w3.heap.size; omega) _
   rw [List.length_append] at hP7 hP7' CB7 hrd7 t7
   clear y0 y1 y2 y3 y4 y5 y6 y7 CR4 hbb hP4 hP6 hk6 hin hsrc
   obtain ⟨y0, y1, y2, y3, y4, y5, y6, y7⟩ := cells8 CB6
   refine wpAnyH_ready (rs := [5]) (by kernel_rfl) (by simp) ?_
   refine AllReadyH.cons rfl (fun K hK => ?_) AllReadyH.nil
   refine step_append_of rfl _ _ rfl rfl rfl run6 ?_
   refine hK.out _ _ CQ6.c1' (fun hHeld => ?_)
   clear hK K
   try simp only [Act.put, put1, put2, put3]
   refine tkY 6 (.pointer (some ⟨w3.heap.size, 1, none⟩)) 30 rfl rfl (fun w' hw' => ?_) hHeld ?_
   ·first | (go_simp; done) | (obtain ⟨s0, s1, s2, s3, s4⟩ := hw'; go_simp)
   try simp only [Act.put, put1, put2, put3]
   refine wpAnyH_ready (rs := [7]) (by kernel_rfl) (by simp) ?_
   refine AllReadyH.cons rfl (fun K hK => ?_) AllReadyH.nil
   go_simp
   refine hK.out _ _ (Cells.c1' (CQ6.kept (Below.heap_setCell _ _ _ _ (by show _ ≠ w3.heap.size; omega)))) (fun hHeld => ?_)
   clear hK K
   try simp only [Act.put, put1, put2, put3]
   refine wpAnyH_done (by kernel_rfl) ?_ _
   go_wp2_with fail
   clear y0 y1 y2 y3 y4 y5 y6 y7 run6
   refine (implProgOk_calls hrd7).mono ?_
   rintro e w8 ⟨he, b8⟩
   have hbr8 := (b8.block (w.heap.size + 1 + 1) (by simp; omega)).trans ((Below.heap_setCell _ _ _ _ (by show _ ≠ w3.heap.size; omega)).trans hbr)
   have hfz8 := fun j => frozen_of_row w8 (w.heap.size + 1 + 1) j _ _ hbr8
   have CB8 := CB7.later b8
   have hP8 := hP7'.later b8
   have t8 := t7.step b8
   have hz8 : w.heap.size + 1 + 1 < w8.heap.size := by have := b8.size; simp at this; omega
   have CR8 := (CR6.kept (w' := w6.setCell ⟨w3.heap.size, 1, none⟩ (.slice a6 (p.rules.length + q.rules.length) n6)) (Below.heap_setCell _ _ _ _ (by show _ ≠ w3.heap.size; omega))).later b8
   clear CR6 CB6 CQ6 CB5 CQ5 CQ4 CB4 CP CQ CR CP2 CP3 CQ3 CQ1
   obtain ⟨z0, z1, z2, z3, z4, z5, z6, z7⟩ := cells8 CR8
   cases hB : progOkB (bothD p q)
   ·rw [hB] at he
    subst he
    have hb := Lib.hid (HB.out.trans hB)
    have hr := Lib.hid (bothR_no (HB.out.trans hB))
    clear hB CB8
    go_wp2
    exact bodyPost_ret (v := .tuple #[.agg #[.int .i64 0, .slice none 0 0, .slice none 0 0, .bool false, .slice none 0 0, .slice none 0 0, .slice none 0 0, .slice none 0 0], .bool false])
     (by simp [results, Tryz.results16, go_sem, z0, z1, z2, z3, z4, z5, z6, z7]) rfl ⟨_, by rw [hb.out], by rw [hr.out]; exact own_zero _ _, by
     repeat (refine Below.setCell ?_ (by simp; try omega) _)
     exact t8⟩
   ·rw [hB] at he
    subst he
    have hb := Lib.hid (HB.out.trans hB)
    have hr := Lib.hid (bothR_yes (HB.out.trans hB))
    clear hB
    obtain ⟨y0, y1, y2, y3, y4, y5, y6, y7⟩ := cells8 CB8
    go_wp2
    refine bodyPost_ret (v := .tuple #[.agg #[.int .i64 p.atoms, .slice a6 (p.rules.length + q.rules.length) n6, c2, .bool p.projOn, c4, c5, c6, c7], .bool true])
     (by simp [results, Tryz.results16, go_sem, z0, z1, z2, z3, z4, z5, z6, z7]) rfl ⟨_, by rw [hb.out], ?_, ?_⟩
    ·rw [hr.out]
     have hfin := fun (W : World) (hW : OwnPR w2.heap.size w3.heap.size (fun k => (D k ∨ wa.heap.size ≤ k) ∧ k < w6.heap.size) W (.slice a6 (p.rules.length + q.rules.length) n6) c2 c4 c5 c6 c7 (bothD p q)) => hW.own
     rw [show (bothD p q).atoms = p.atoms from hmx.out] at hfin
     refine (hfin _ ?_).mono (by omega)
     repeat (refine OwnPR.far ?_ (hlo3 _ (.inl (by show w.heap.size + 1 + 1 < _; omega))) (.inl (by show w.heap.size + 1 + 1 < _; omega)) _)
     exact hP8
    ·repeat (refine Below.setCell ?_ (by simp; try omega) _)
     exact t8
end Go.Proofs.YthikhkeofcjdfaaGreat
