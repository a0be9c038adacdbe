/-
 laws.FnCutSame returns true for all byte strings: cut by what is well-founded a program has the same answers, and no more rules.
 Conditions: none (what every row of this form says by itself: the arguments can be read as data).
-/
import Derived.Test.YthfbnalgnnjbbaaGreatCutL
import Derived.Test.YthfbnalgnnjbbaaGreatAnsR
import Derived.Test.YthfbnalgnnjbbaaGreatFldS
import Derived.Test.YthfbnalgnnjbbaaGreatDrawM
import Derived.Test.YthfbnalgnnjbbaaGreatLawsInts
import Derived.Test.YthfbnalgnnjbbaaGreatPlainM
import Derived.Test.YthfbnalgnnjbbaaGreatAnyW
import Derived.Deep.RegionHeld3
import Derived.Test.YthfbnalgnnjbbaaGreatOpen
import Derived.Test.YthfbnalgnnjbbaaGreatRows
import Derived.WalkKit
import Derived.ProofKit
import Derived.OpenShut
import Derived.ShutString
import Derived.ChangeOld
import Derived.Below
namespace Go.Proofs.YthfbnalgnnjbbaaGreat.fnCutSame
open Go.ChangeShapes Go.WideShapes Go.ChangeAt Go.RowKit
open Go.ChangeMaps (open_string shut_string)
set_option linter.unusedVariables false
set_option linter.unusedSimpArgs false

theorem own : ownKnob Tryz.prog.godebug = none := by kernel_rfl
theorem laidOut : laidOutB Tryz.prog = true := by kernel_rfl

theorem any_ok : AnyOk := fun c N w h hN => any_calls c N w h hN
theorem plain_ok : PlainOk := fun c N w h hN => plainProg_calls any_ok c N w h hN

set_option maxRecDepth 100000 in
set_option maxHeartbeats 8000000 in
theorem law0 {a : Option Addr} {bs : List Int} {cap : Nat} {w : World} (h : Bytes w a bs) :
  Calls Tryz.prog 9 #[.slice a bs.length cap] w fun e w' => e = .returned (.bool true) ∧ Below w.heap.size w w' := by
 have hb1 : decide (1048576 < (bs.length : Int)) = false := decide_eq_false (by have := h.1; omega)
 go_enter Tryz.func9, Tryz.ntmps9
 go_wp2_with fail
 refine (big_calls _ _ _ _ _ hb1).mono ?_
 rintro e w' ⟨rfl, rfl⟩
 go_wp2_with fail
 refine (DrawCut_calls plain_ok h).mono ?_
 rintro e w1 ⟨cs, p, rfl, hp, t1⟩
 have l1 := Rd.one hp
 obtain ⟨x0, x1, x2, x3, x4, x5, x6, x7, rfl⟩ := list8 (Rd.len hp)
 obtain ⟨rfl, -⟩ : x0 = .int .i64 p.atoms ∧ True := by
  obtain ⟨_, _, _, _, _, _, hl, _⟩ := hp
  simp only [List.cons.injEq, and_true] at hl
  exact ⟨hl.1, trivial⟩
 have st1 := sto Tryz.prog (l1 x1 (by simp))
 have st2 := sto Tryz.prog (l1 x2 (by simp))
 have st3 := sto Tryz.prog (l1 x3 (by simp))
 have st4 := sto Tryz.prog (l1 x4 (by simp))
 have st5 := sto Tryz.prog (l1 x5 (by simp))
 have st6 := sto Tryz.prog (l1 x6 (by simp))
 have st7 := sto Tryz.prog (l1 x7 (by simp))
 have CX := Cells.new w1 [.int .i64 p.atoms, x1, x2, x3, x4, x5, x6, x7] 30
 have tn := (Below.refl w1.heap.size w1).alloc (Nat.le_refl _) (.cells #[.int .i64 p.atoms, x1, x2, x3, x4, x5, x6, x7] 30)
 have tb := t1.alloc t1.size (.cells #[.int .i64 p.atoms, x1, x2, x3, x4, x5, x6, x7] 30)
 have hp := Rd.mono tn hp
 first | (have gx := Rd.mono (α := List Int) tn gx) | skip
 clear l1
 obtain ⟨y0, y1, y2, y3, y4, y5, y6, y7⟩ := cells8 CX
 clear h hb1
 go_wp2_with fail
 refine (implCut_calls hp).mono ?_
 rintro e w2 ⟨cs2, rfl, o2, b2⟩
 obtain ⟨c1, c2, c4, c5, c6, c7, rfl, -, g1, g2, g4, g5, g6, g7⟩ := o2.rd
 have sc2 := sto Tryz.prog g2.one1
 have sc4 := sto Tryz.prog g4.one1
 have sc5 := sto Tryz.prog g5.one1
 have sc6 := sto Tryz.prog g6.one1
 have sc7 := sto Tryz.prog g7.one1
 obtain ⟨aq, kq, rfl, -, -⟩ := g1.sl
 clear g1 g2 g4 g5 g6 g7
 have CQ := Cells.new w2 [.int .i64 (cutP p).atoms, .slice aq (cutP p).rules.length kq, c2, .bool (cutP p).projOn, c4, c5, c6, c7] 30
 have tq := (Below.refl w2.heap.size w2).alloc (Nat.le_refl _) (.cells #[.int .i64 (cutP p).atoms, .slice aq (cutP p).rules.length kq, c2, .bool (cutP p).projOn, c4, c5, c6, c7] 30)
 have hq := Rd.mono tq o2.rd
 have bq := b2.alloc b2.size (.cells #[.int .i64 (cutP p).atoms, .slice aq (cutP p).rules.length kq, c2, .bool (cutP p).projOn, c4, c5, c6, c7] 30)
 have t2 := (tb.step b2).alloc (tb.step b2).size (.cells #[.int .i64 (cutP p).atoms, .slice aq (cutP p).rules.length kq, c2, .bool (cutP p).projOn, c4, c5, c6, c7] 30)
 have CX := CX.later bq
 have hp := Rd.mono bq hp
 clear y0 y1 y2 y3 y4 y5 y6 y7
 obtain ⟨y0, y1, y2, y3, y4, y5, y6, y7⟩ := cells8 (CX)
 clear tq
 obtain ⟨zz0, zz1, zz2, zz3, zz4, zz5, zz6, zz7⟩ := cells8 CQ
 clear o2
 go_wp2_with fail
 refine (specCut_calls hp).mono ?_
 rintro e w3 ⟨cs3, rfl, o3, b3⟩
 obtain ⟨d1, d2, d4, d5, d6, d7, rfl, -, g1, g2, g4, g5, g6, g7⟩ := o3.rd
 have sd2 := sto Tryz.prog g2.one1
 have sd4 := sto Tryz.prog g4.one1
 have sd5 := sto Tryz.prog g5.one1
 have sd6 := sto Tryz.prog g6.one1
 have sd7 := sto Tryz.prog g7.one1
 obtain ⟨ar, kr, rfl, -, -⟩ := g1.sl
 clear g1 g2 g4 g5 g6 g7
 have CR := Cells.new w3 [.int .i64 (cutP p).atoms, .slice ar (cutP p).rules.length kr, d2, .bool (cutP p).projOn, d4, d5, d6, d7] 30
 have tq := (Below.refl w3.heap.size w3).alloc (Nat.le_refl _) (.cells #[.int .i64 (cutP p).atoms, .slice ar (cutP p).rules.length kr, d2, .bool (cutP p).projOn, d4, d5, d6, d7] 30)
 have hr := Rd.mono tq o3.rd
 have br := b3.alloc b3.size (.cells #[.int .i64 (cutP p).atoms, .slice ar (cutP p).rules.length kr, d2, .bool (cutP p).projOn, d4, d5, d6, d7] 30)
 have t3 := (t2.step b3).alloc (t2.step b3).size (.cells #[.int .i64 (cutP p).atoms, .slice ar (cutP p).rules.length kr, d2, .bool (cutP p).projOn, d4, d5, d6, d7] 30)
 have CX := CX.later br
 have hp := Rd.mono br hp
 clear y0 y1 y2 y3 y4 y5 y6 y7
 obtain ⟨y0, y1, y2, y3, y4, y5, y6, y7⟩ := cells8 (CX)
 clear tq
 have CQ := CQ.later br
 have hq := Rd.mono br hq
 clear zz0 zz1 zz2 zz3 zz4 zz5 zz6 zz7
 obtain ⟨zz0, zz1, zz2, zz3, zz4, zz5, zz6, zz7⟩ := cells8 (CQ)
 obtain ⟨v0, v1, v2, v3, v4, v5, v6, v7⟩ := cells8 CR
 clear o3
 cases hpl : plainB p
 ·go_wp2_with fail
  refine (sameProg_calls hq hr).mono ?_
  rintro e w4 ⟨rfl, b4⟩
  go_wp2
  go_ret
  exact ⟨rfl, t3.step b4⟩
 ·have hF := plainB_fold hpl
  have HA := Lib.hid (cut_answers hpl)
  have HL := cut_fewer hpl
  go_wp2_with fail
  refine (sameProg_calls hq hr).mono ?_
  rintro e w4 ⟨rfl, b4⟩
  clear v0 v1 v2 v3 v4 v5 v6 v7 hr CR
  have t4 := t3.step b4
  have CX := CX.later b4
  have hp := Rd.mono b4 hp
  first | (have gx := Rd.mono (α := List Int) b4 gx) | skip
  clear y0 y1 y2 y3 y4 y5 y6 y7
  obtain ⟨y0, y1, y2, y3, y4, y5, y6, y7⟩ := cells8 (CX)
  have CQ := CQ.later b4
  have hq := Rd.mono b4 hq
  clear zz0 zz1 zz2 zz3 zz4 zz5 zz6 zz7
  obtain ⟨zz0, zz1, zz2, zz3, zz4, zz5, zz6, zz7⟩ := cells8 (CQ)
  go_wp2_with fail
  refine (specFold_calls hp).mono ?_
  rintro e w5 ⟨cs5, he, o5, b5⟩
  rw [hF] at he
  subst he
  rw [foldR_yes hF] at o5
  obtain ⟨g1, g2, g4, g5, g6, g7, rfl, -, g1, g2, g4, g5, g6, g7⟩ := o5.rd
  have sg2 := sto Tryz.prog g2.one1
  have sg4 := sto Tryz.prog g4.one1
  have sg5 := sto Tryz.prog g5.one1
  have sg6 := sto Tryz.prog g6.one1
  have sg7 := sto Tryz.prog g7.one1
  obtain ⟨af, kf, rfl, -, -⟩ := g1.sl
  clear g1 g2 g4 g5 g6 g7
  have CF := Cells.new w5 [.int .i64 (foldD p).atoms, .slice af (foldD p).rules.length kf, g2, .bool (foldD p).projOn, g4, g5, g6, g7] 30
  have tq := (Below.refl w5.heap.size w5).alloc (Nat.le_refl _) (.cells #[.int .i64 (foldD p).atoms, .slice af (foldD p).rules.length kf, g2, .bool (foldD p).projOn, g4, g5, g6, g7] 30)
  have hf := Rd.mono tq o5.rd
  have bf := b5.alloc b5.size (.cells #[.int .i64 (foldD p).atoms, .slice af (foldD p).rules.length kf, g2, .bool (foldD p).projOn, g4, g5, g6, g7] 30)
  have t5 := (t4.step b5).alloc (t4.step b5).size (.cells #[.int .i64 (foldD p).atoms, .slice af (foldD p).rules.length kf, g2, .bool (foldD p).projOn, g4, g5, g6, g7] 30)
  have CX := CX.later bf
  have hp := Rd.mono bf hp
  clear y0 y1 y2 y3 y4 y5 y6 y7
  obtain ⟨y0, y1, y2, y3, y4, y5, y6, y7⟩ := cells8 (CX)
  clear tq
  have CQ := CQ.later bf
  have hq := Rd.mono bf hq
  clear zz0 zz1 zz2 zz3 zz4 zz5 zz6 zz7
  obtain ⟨zz0, zz1, zz2, zz3, zz4, zz5, zz6, zz7⟩ := cells8 (CQ)
  have hle : ((cutP p).rules.length : Int) ≤ ((foldD p).rules.length : Int) := by omega
  have f1 := (cells8 CF).2.1
  clear o5 HL hf
  go_upto_region 11 with fail
  generalize w5.alloc _ = w6 at *
  clear y0 y1 y2 y3 y4 y5 y6 y7 zz0 zz1 zz2 zz3 zz4 zz5 zz6 zz7 f1
  have CX := CX.drew
  have CQ := CQ.drew
  have CF := CF.drew
  have td := (Below.refl w6.heap.size w6).drew
  have hp := Rd.mono td hp
  have hq := Rd.mono td hq
  have t6 := t5.drew
  refine wp_region_held_drew (S := fun W' => (W'.cell? ⟨w2.heap.size, 0, none⟩ = some (.int .i64 (cutP p).atoms) ∧ W'.cell? ⟨w2.heap.size, 1, none⟩ = some (.slice aq (cutP p).rules.length kq) ∧ W'.cell? ⟨w2.heap.size, 2, none⟩ = some c2 ∧ W'.cell? ⟨w2.heap.size, 3, none⟩ = some (.bool (cutP p).projOn) ∧ W'.cell? ⟨w2.heap.size, 4, none⟩ = some c4 ∧ W'.cell? ⟨w2.heap.size, 5, none⟩ = some c5 ∧ W'.cell? ⟨w2.heap.size, 6, none⟩ = some c6 ∧ W'.cell? ⟨w2.heap.size, 7, none⟩ = some c7) ∧ (W'.cell? ⟨w5.heap.size, 1, none⟩ = some (.slice af (foldD p).rules.length kf)) ∧ (W'.cell? ⟨w1.heap.size, 0, none⟩ = some (.int .i64 p.atoms) ∧ W'.cell? ⟨w1.heap.size, 1, none⟩ = some x1 ∧ W'.cell? ⟨w1.heap.size, 2, none⟩ = some x2 ∧ W'.cell? ⟨w1.heap.size, 3, none⟩ = some x3 ∧ W'.cell? ⟨w1.heap.size, 4, none⟩ = some x4 ∧ W'.cell? ⟨w1.heap.size, 5, none⟩ = some x5 ∧ W'.cell? ⟨w1.heap.size, 6, none⟩ = some x6 ∧ W'.cell? ⟨w1.heap.size, 7, none⟩ = some x7)) (by kernel_rfl) ⟨cells8 CQ, (cells8 CF).2.1, cells8 CX⟩ (fun hHeld => ?_)
  clear td
  generalize w6.drew = wq at *
  refine tkY 0 (.pointer (some ⟨w2.heap.size, 1, none⟩)) 40 rfl rfl (fun w' hw' => ?_) hHeld ?_
  ·first | (go_simp; done) | (obtain ⟨⟨s0, s1, s2, s3, s4, s5, s6, s7⟩, f1, ⟨r0, r1, r2, r3, r4, r5, r6, r7⟩⟩ := hw'; go_simp; done)
  try simp only [Act.put, put1, put2, put3]
  refine tkY 1 (.slice aq (cutP p).rules.length kq) 41 rfl rfl (fun w' hw' => ?_) hHeld ?_
  ·first | (go_simp; done) | (obtain ⟨⟨s0, s1, s2, s3, s4, s5, s6, s7⟩, f1, ⟨r0, r1, r2, r3, r4, r5, r6, r7⟩⟩ := hw'; go_simp; done)
  try simp only [Act.put, put1, put2, put3]
  refine tkY 2 (.int .i64 ((cutP p).rules.length : Int)) 42 rfl rfl (fun w' hw' => ?_) hHeld ?_
  ·first | (go_simp; done) | (obtain ⟨⟨s0, s1, s2, s3, s4, s5, s6, s7⟩, f1, ⟨r0, r1, r2, r3, r4, r5, r6, r7⟩⟩ := hw'; go_simp; done)
  try simp only [Act.put, put1, put2, put3]
  refine tkY 3 (.pointer (some ⟨w5.heap.size, 1, none⟩)) 43 rfl rfl (fun w' hw' => ?_) hHeld ?_
  ·first | (go_simp; done) | (obtain ⟨⟨s0, s1, s2, s3, s4, s5, s6, s7⟩, f1, ⟨r0, r1, r2, r3, r4, r5, r6, r7⟩⟩ := hw'; go_simp; done)
  try simp only [Act.put, put1, put2, put3]
  refine tkY 4 (.slice af (foldD p).rules.length kf) 44 rfl rfl (fun w' hw' => ?_) hHeld ?_
  ·first | (go_simp; done) | (obtain ⟨⟨s0, s1, s2, s3, s4, s5, s6, s7⟩, f1, ⟨r0, r1, r2, r3, r4, r5, r6, r7⟩⟩ := hw'; go_simp; done)
  try simp only [Act.put, put1, put2, put3]
  refine tkY 5 (.int .i64 ((foldD p).rules.length : Int)) 45 rfl rfl (fun w' hw' => ?_) hHeld ?_
  ·first | (go_simp; done) | (obtain ⟨⟨s0, s1, s2, s3, s4, s5, s6, s7⟩, f1, ⟨r0, r1, r2, r3, r4, r5, r6, r7⟩⟩ := hw'; go_simp; done)
  try simp only [Act.put, put1, put2, put3]
  refine tkY 6 (.bool true) 46 rfl rfl (fun w' hw' => ?_) hHeld ?_
  ·first | (go_simp; done) | (obtain ⟨⟨s0, s1, s2, s3, s4, s5, s6, s7⟩, f1, ⟨r0, r1, r2, r3, r4, r5, r6, r7⟩⟩ := hw'; go_simp; done)
  try simp only [Act.put, put1, put2, put3]
  refine tkY 7 (.bool true) 47 rfl rfl (fun w' hw' => ?_) hHeld ?_
  ·first | (go_simp; done) | (obtain ⟨⟨s0, s1, s2, s3, s4, s5, s6, s7⟩, f1, ⟨r0, r1, r2, r3, r4, r5, r6, r7⟩⟩ := hw'; go_simp; done)
  try simp only [Act.put, put1, put2, put3]
  refine tkY 8 (.agg #[.int .i64 (cutP p).atoms, .slice aq (cutP p).rules.length kq, c2, .bool (cutP p).projOn, c4, c5, c6, c7]) 48 rfl rfl (fun w' hw' => ?_) hHeld ?_
  ·first | (go_simp; done) | (obtain ⟨⟨s0, s1, s2, s3, s4, s5, s6, s7⟩, f1, ⟨r0, r1, r2, r3, r4, r5, r6, r7⟩⟩ := hw'; go_simp; done)
  try simp only [Act.put, put1, put2, put3]
  refine tkY 10 (.agg #[.int .i64 p.atoms, x1, x2, x3, x4, x5, x6, x7]) 50 rfl rfl (fun w' hw' => ?_) hHeld ?_
  ·first | (go_simp; done) | (obtain ⟨⟨s0, s1, s2, s3, s4, s5, s6, s7⟩, f1, ⟨r0, r1, r2, r3, r4, r5, r6, r7⟩⟩ := hw'; go_simp; done)
  try simp only [Act.put, put1, put2, put3]
  refine wpAnyH_ready (rs := [9]) (by kernel_rfl) (by simp) ?_
  refine AllReadyH.cons rfl (fun K hK => ?_) AllReadyH.nil
  go_simp
  refine (implAnswers_calls hq).mono ?_
  rintro e w7 ⟨u7, rfl, o7, b7⟩
  rw [HA.out] at o7
  refine hK.out _ _ ⟨cells8 (CQ.later b7), (cells8 (CF.later b7)).2.1, cells8 (CX.later b7)⟩ (fun hHeld => ?_)
  clear hK K
  try simp only [Act.put, put1, put2, put3]
  refine wpAnyH_ready (rs := [11]) (by kernel_rfl) (by simp) ?_
  refine AllReadyH.cons rfl (fun K hK => ?_) AllReadyH.nil
  go_simp
  refine (specAnswers_calls (Rd.mono b7 hp)).mono ?_
  rintro e w8 ⟨u8, rfl, o8, b8⟩
  refine hK.out _ _ ⟨cells8 ((CQ.later b7).later b8), (cells8 ((CF.later b7).later b8)).2.1, cells8 ((CX.later b7).later b8)⟩ (fun hHeld => ?_)
  clear hK K
  try simp only [Act.put, put1, put2, put3]
  refine wpAnyH_ready (rs := [12]) (by kernel_rfl) (by simp) ?_
  refine AllReadyH.cons rfl (fun K hK => ?_) AllReadyH.nil
  go_simp
  refine (sameSets_calls (o7.later b8).rd o8.rd).mono ?_
  rintro e w9 ⟨rfl, b9⟩
  refine hK.out _ _ ⟨cells8 (((CQ.later b7).later b8).later b9), (cells8 (((CF.later b7).later b8).later b9)).2.1, cells8 (((CX.later b7).later b8).later b9)⟩ (fun hHeld => ?_)
  clear hK K
  try simp only [Act.put, put1, put2, put3]
  refine tkY 13 (.bool true) 53 rfl rfl (fun w' hw' => ?_) hHeld ?_
  ·first | (go_simp; done) | (obtain ⟨⟨s0, s1, s2, s3, s4, s5, s6, s7⟩, f1, ⟨r0, r1, r2, r3, r4, r5, r6, r7⟩⟩ := hw'; go_simp; done)
  try simp only [Act.put, put1, put2, put3]
  refine tkY 14 (.bool true) 2 rfl rfl (fun w' hw' => ?_) hHeld ?_
  ·first | (go_simp; done) | (obtain ⟨⟨s0, s1, s2, s3, s4, s5, s6, s7⟩, f1, ⟨r0, r1, r2, r3, r4, r5, r6, r7⟩⟩ := hw'; go_simp; done)
  try simp only [Act.put, put1, put2, put3]
  refine wpAnyH_done (by kernel_rfl) ?_ _
  go_wp2
  go_ret
  exact ⟨rfl, ((t6.step b7).step b8).step b9⟩
set_option maxRecDepth 100000 in
theorem law {a : Option Addr} {len cap : Nat} {zs : List Int} {w : World} (h : IsRow .u8 w a len cap zs) :
  Calls Tryz.prog 9 #[.slice a len cap] w fun e w' => e = .returned (.bool true) ∧ Below w.heap.size w w' := by
 by_cases hbig : len ≤ 1048576
 ·obtain ⟨bs, rfl, hB⟩ := isRow_bytes h hbig
  exact law0 hB
 ·have hb1 : decide (1048576 < (len : Int)) = true := decide_eq_true (by omega)
  go_enter Tryz.func9, Tryz.ntmps9
  go_wp2_with fail
  refine (big_calls _ _ _ _ _ hb1).mono ?_
  rintro e w' ⟨rfl, rfl⟩
  go_wp2
  go_ret
  exact ⟨rfl, Below.refl _ _⟩

set_option maxRecDepth 100000 in
theorem lifted (os : Os) (started : os.Started) (H : Type) (enc : TypeId × Value → H) :
  ReturnsInHanded {} Tryz.checked os 9 .any (Rows.fnCutSameSpec.pre6 enc Tryz.prog Tryz.f9 Rows.fnCutSameRow.domain false) (Rows.fnCutSameSpec.post enc Tryz.prog Tryz.f9 false true false false) := by
 refine returnsInHanded_of_change (C := Tryz.checked) own started (by kernel_rfl) Tryz.func9
  (ChangeSpec.witness6 (enc := enc) (C := Tryz.checked) false ⟨#[], #[.slice none 0 0], []⟩ 8 (by kernel_rfl) (by kernel_rfl) (by kernel_rfl) (by kernel_rfl)) ?_
 intro W base args ds gs before hval0 hW hcnd _
 have hval : ∀ (j : Nat) t v, Tryz.f9.params[j]? = some t → args[j]? = some v → Value.okWide Tryz.prog W .any base t v := hval0
 have hW' := hW
 obtain ⟨p, q, hA0, hV, rfl, hfz, hnd⟩ := hW
 have hA : DataW.TrodAll enc Tryz.prog W 0 (fun _ => true) true Tryz.f9.params.toList args.toList ds p := hA0
 rw [Tryz.params9] at hA hval
 obtain ⟨v0, vs0, d0, ds0, p0, q0, hargs, rfl, rfl, h0, r0⟩ := trodAll_cons hA
 obtain ⟨rfl, rfl, rfl⟩ := trodAll_nil r0
 obtain rfl : args = #[v0] := by cases args; simp_all
 obtain ⟨rfl, rfl⟩ := trodVars_none hV
 obtain ⟨a0, len0, cap0, rfl⟩ := okWide_slice Tryz.underlying22 (hval 0 22 v0 rfl rfl)
 have k0 := h0
 have lt0 : ∀ x ∈ p0, x.block < W.heap.size := by obtain ⟨m, hm⟩ := k0; exact DataW.trod_lt m _ _ _ hm
 obtain ⟨z0, w0⟩ : ∃ zs, IsRow .u8 W a0 len0 cap0 zs := by
  obtain ⟨fuel, hf⟩ := h0
  rcases open_ints Tryz.underlying22 Tryz.underlying5 (by kernel_rfl) hf with ⟨hcs, _⟩ | ⟨x, l, c, zs, hcs, _, hl, hm, hz, _, hcell, hwz⟩
  ·simp [Value.cells] at hcs
   obtain ⟨rfl, rfl, rfl⟩ := hcs
   exact ⟨[], .inl ⟨rfl, rfl, rfl, rfl⟩⟩
  ·simp [Value.cells] at hcs
   obtain ⟨rfl, rfl, rfl⟩ := hcs
   exact ⟨zs, .inr ⟨_, rfl, hl, hm, by simpa using hz, hcell, hwz⟩⟩
 clear hA0 hval0
 refine (law w0).mono fun e W' ⟨he, bel⟩ => ?_
 subst he
 exact ⟨_, rfl, _, _, _, [], _, [], hW', trodAll_mk1 (shut_bool Tryz.underlying4 _), (trodAll_cons_mk (Below.trod laidOut (by kernel_rfl) (of_decide_eq_true (by kernel_rfl)) k0 bel lt0) trodAll_mk0), rfl, bel.frame _, fun h => by cases h⟩

theorem over : Rows.fnCutSameRow.holds Tryz.pinned (OpenSpec.ofChange Rows.fnCutSameSpec) :=
 OpenClaim.holds_of_wide 9 Tryz.f9 rfl rfl rfl rfl rfl rfl rfl ⟨rfl, rfl, rfl, rfl, rfl⟩ rfl rfl rfl rfl rfl (by kernel_rfl) Tryz.func9 (by kernel_rfl)
  (of_decide_eq_true (by kernel_rfl)) (by unfold Func.isWrapper; first | (rw [if_pos (by decide +kernel)]; kernel_rfl) | (rw [if_neg (by decide +kernel)]; exact ⟨rfl, rfl⟩))
  (fun os started H enc _ => lifted os started H enc)

theorem proved : Rows.FnCutSameSaid := over
end Go.Proofs.YthfbnalgnnjbbaaGreat.fnCutSame
