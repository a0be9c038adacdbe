/-
  laws.FnFolded returns true for all byte strings: folded a program has the same answers; they are the answers without what was assumed in which all of that holds.
  Conditions: none (what every row of this form says by itself: the arguments can be read as data).
-/
import Derived.Test.YtjainjpcpnoikaaGreatFldA
import Derived.Test.YtjainjpcpnoikaaGreatDrawF
import Derived.Test.YtjainjpcpnoikaaGreatAnyW
import Derived.Test.YtjainjpcpnoikaaGreatAnsR
import Derived.Deep.RegionHeld3
import Derived.Test.YtjainjpcpnoikaaGreatOpen
import Derived.Test.YtjainjpcpnoikaaGreatRows
import Derived.WalkKit
import Derived.ProofKit
import Derived.OpenShut
import Derived.ShutString
import Derived.ChangeOld
import Derived.Below
namespace Go.Proofs.YtjainjpcpnoikaaGreat.fnFolded
open Go.ChangeShapes Go.WideShapes Go.ChangeAt Go.RowKit
open Go.ChangeMaps (open_string shut_string)
set_option linter.unusedVariables false
set_option linter.unusedSimpArgs false

theorem own : ownKnob Tryz.prog.godebug = none := by kernel_rfl
theorem laidOut : laidOutB Tryz.prog = true := by kernel_rfl

theorem any_ok : AnyOk := fun c N w h hN => any_calls c N w h hN

theorem free_rd {w : World} {a b c1 c2 c4 c5 c6 c7 : Value} {p : ProgD} (h : Rd.R w [a, c1, c2, b, c4, c5, c6, c7] p) : Rd.R w [a, c1, c2, b, c4, c5, c6, .slice none 0 0] (freeD p) := by
  obtain ⟨_, _, _, _, _, _, e, hf, q1, q2, q4, q5, q6, q7⟩ := h
  simp only [List.cons.injEq, and_true] at e
  obtain ⟨rfl, rfl, rfl, rfl, rfl, rfl, rfl, rfl⟩ := e
  exact ⟨_, _, _, _, _, _, rfl, hf, q1, q2, q4, q5, q6, (show RdL w [.slice none 0 0] ([] : List Int) from ⟨none, 0, rfl, Nat.le_refl _, by omega, by simp, fun i hi => absurd hi (by simp)⟩)⟩
theorem ownsRow_bel {B s n : Nat} {e : TypeId} {w w' : World} {v : Value} {xs : List Value} (h : w.ownsRow B e s v n xs) (hb : Below w.heap.size w w') : w'.ownsRow B e s v n xs :=
  ⟨h.1, h.2.imp id fun ⟨g, cap, cur, e1, e2, e3, r⟩ => ⟨g, cap, cur, e1, e2, (hb.block g (block_lt e3)).trans e3, r⟩⟩
theorem ownsRow_form {B s n : Nat} {e : TypeId} {w : World} {v : Value} {xs : List Value} (h : w.ownsRow B e s v n xs) : ∃ a c, v = .slice a n c := by
  rcases h.2 with ⟨rfl, hn⟩ | ⟨g, cp, cur, rfl, _⟩
  · exact ⟨none, 0, by rw [hn]⟩
  · exact ⟨_, _, rfl⟩
set_option maxRecDepth 100000 in
set_option maxHeartbeats 16000000 in
theorem law0 {a : Option Addr} {bs : List Int} {cap : Nat} {w : World} (h : Bytes w a bs) :
    Calls Tryz.prog 7 #[.slice a bs.length cap] w fun e w' => e = .returned (.bool true) ∧ Below w.heap.size w w' := by
  have hb1 : decide (1048576 < (bs.length : Int)) = false := decide_eq_false (by have := h.1; omega)
  obtain ⟨i3, hi3, hz30, hz31, hz32⟩ := info_parts info_set
  go_enter Tryz.func7, Tryz.ntmps7
  go_wp2_with fail
  refine (big_calls _ _ _ _ _ hb1).mono ?_
  rintro e w' ⟨rfl, rfl⟩
  go_wp2_with fail
  refine (DrawFold_calls any_ok _ _ _ _ h).mono ?_
  rintro e w1 ⟨cs, p, rfl, hp, t1⟩
  clear h hb1
  have hp0 := hp
  obtain ⟨d1, d2, d4, d5, d6, d7, rfl, hfa, g1, g2, g4, g5, g6, g7⟩ := hp0
  obtain ⟨a7, k7, rfl, hk7, h7⟩ := g7.sl
  clear g1 g2 g4 g5 g6 g7
  have l1 := Rd.one hp
  have st1 := sto Tryz.prog (l1 d1 (by simp))
  have st2 := sto Tryz.prog (l1 d2 (by simp))
  have st4 := sto Tryz.prog (l1 d4 (by simp))
  have st5 := sto Tryz.prog (l1 d5 (by simp))
  have st6 := sto Tryz.prog (l1 d6 (by simp))
  clear l1
  have CX := Cells.new w1 [.int .i64 p.atoms, d1, d2, .bool p.projOn, d4, d5, d6, .slice a7 p.assume.length k7] 35
  have tn := (Below.refl w1.heap.size w1).alloc (Nat.le_refl _) (.cells #[.int .i64 p.atoms, d1, d2, .bool p.projOn, d4, d5, d6, .slice a7 p.assume.length k7] 35)
  have tb := t1.alloc t1.size (.cells #[.int .i64 p.atoms, d1, d2, .bool p.projOn, d4, d5, d6, .slice a7 p.assume.length k7] 35)
  have hp := Rd.mono tn hp
  have h7 := h7.later tn
  obtain ⟨y0, y1, y2, y3, y4, y5, y6, y7⟩ := cells8 CX
  cases hF : foldB p
  · go_wp2_with fail
    refine (implFold_calls hp).mono ?_
    rintro e w2 ⟨cs2, he, o2, b2⟩
    rw [hF] at he
    subst he
    obtain ⟨x0, x1, x2, x3, x4, x5, x6, x7, rfl⟩ := list8 (Rd.len o2.rd)
    have m1 := Rd.one o2.rd
    have sx0 := sto Tryz.prog (m1 _ (List.mem_of_getElem? (i := 0) rfl))
    have sx1 := sto Tryz.prog (m1 _ (List.mem_of_getElem? (i := 1) rfl))
    have sx2 := sto Tryz.prog (m1 _ (List.mem_of_getElem? (i := 2) rfl))
    have sx3 := sto Tryz.prog (m1 _ (List.mem_of_getElem? (i := 3) rfl))
    have sx4 := sto Tryz.prog (m1 _ (List.mem_of_getElem? (i := 4) rfl))
    have sx5 := sto Tryz.prog (m1 _ (List.mem_of_getElem? (i := 5) rfl))
    have sx6 := sto Tryz.prog (m1 _ (List.mem_of_getElem? (i := 6) rfl))
    have sx7 := sto Tryz.prog (m1 _ (List.mem_of_getElem? (i := 7) rfl))
    clear m1
    have t2 := (tb.step b2).alloc (tb.step b2).size (.cells #[x0, x1, x2, x3, x4, x5, x6, x7] 35)
    have bq := b2.alloc b2.size (.cells #[x0, x1, x2, x3, x4, x5, x6, x7] 35)
    have CX := CX.later bq
    have hp := Rd.mono bq hp
    clear y0 y1 y2 y3 y4 y5 y6 y7
    obtain ⟨y0, y1, y2, y3, y4, y5, y6, y7⟩ := cells8 (CX)
    go_wp2_with fail
    refine (specFold_calls hp).mono ?_
    rintro e w3 ⟨cs3, he, o3, b3⟩
    rw [hF] at he
    subst he
    clear sx0 sx1 sx2 sx3 sx4 sx5 sx6 sx7
    have o2 := o3
    obtain ⟨x0, x1, x2, x3, x4, x5, x6, x7, rfl⟩ := list8 (Rd.len o2.rd)
    have m1 := Rd.one o2.rd
    have sx0 := sto Tryz.prog (m1 _ (List.mem_of_getElem? (i := 0) rfl))
    have sx1 := sto Tryz.prog (m1 _ (List.mem_of_getElem? (i := 1) rfl))
    have sx2 := sto Tryz.prog (m1 _ (List.mem_of_getElem? (i := 2) rfl))
    have sx3 := sto Tryz.prog (m1 _ (List.mem_of_getElem? (i := 3) rfl))
    have sx4 := sto Tryz.prog (m1 _ (List.mem_of_getElem? (i := 4) rfl))
    have sx5 := sto Tryz.prog (m1 _ (List.mem_of_getElem? (i := 5) rfl))
    have sx6 := sto Tryz.prog (m1 _ (List.mem_of_getElem? (i := 6) rfl))
    have sx7 := sto Tryz.prog (m1 _ (List.mem_of_getElem? (i := 7) rfl))
    clear m1
    have t3 := (t2.step b3).alloc (t2.step b3).size (.cells #[x0, x1, x2, x3, x4, x5, x6, x7] 35)
    have br := b3.alloc b3.size (.cells #[x0, x1, x2, x3, x4, x5, x6, x7] 35)
    have CX := CX.later br
    have hp := Rd.mono br hp
    clear y0 y1 y2 y3 y4 y5 y6 y7
    obtain ⟨y0, y1, y2, y3, y4, y5, y6, y7⟩ := cells8 (CX)
    go_wp2_with fail
    refine (implAnswers_calls hp).mono ?_
    rintro e w4 ⟨u4, rfl, o4, b4⟩
    rw [answersL_no hF] at o4
    obtain ⟨a4, c4, rfl, _, _⟩ := o4.rd.sl
    go_wp2
    go_ret
    exact ⟨rfl, t3.step b4⟩
  · have hAF := Lib.hid (answersL_fold hF)
    have hAA := Lib.hid (answers_free hF)
    have hLL := ans_lenF (freeD p)
    have has := Lib.hid (assume_lits (fold_ok hF).1).2
    go_wp2_with fail
    refine (implFold_calls hp).mono ?_
    rintro e w2 ⟨cs2, he, o2, b2⟩
    rw [hF] at he
    subst he
    rw [foldR_yes hF] at o2
    obtain ⟨x0, x1, x2, x3, x4, x5, x6, x7, rfl⟩ := list8 (Rd.len o2.rd)
    obtain ⟨⟨a6, k6, rfl⟩, ⟨b7, m7, rfl⟩⟩ : (∃ a6 k6, x6 = .slice a6 0 k6) ∧ ∃ b7 m7, x7 = .slice b7 0 m7 := by
      obtain ⟨_, _, _, _, _, _, e, _, _, _, _, _, q6, q7⟩ := o2.rd
      simp only [List.cons.injEq, and_true] at e
      obtain ⟨-, -, -, -, -, -, rfl, rfl⟩ := e
      obtain ⟨c6, n6, e6, _⟩ := q6.sl
      obtain ⟨c7, n7, e7, _⟩ := q7.sl
      exact ⟨⟨c6, n6, e6⟩, ⟨c7, n7, e7⟩⟩
    have m1 := Rd.one o2.rd
    have sx0 := sto Tryz.prog (m1 _ (List.mem_of_getElem? (i := 0) rfl))
    have sx1 := sto Tryz.prog (m1 _ (List.mem_of_getElem? (i := 1) rfl))
    have sx2 := sto Tryz.prog (m1 _ (List.mem_of_getElem? (i := 2) rfl))
    have sx3 := sto Tryz.prog (m1 _ (List.mem_of_getElem? (i := 3) rfl))
    have sx4 := sto Tryz.prog (m1 _ (List.mem_of_getElem? (i := 4) rfl))
    have sx5 := sto Tryz.prog (m1 _ (List.mem_of_getElem? (i := 5) rfl))
    have sx6 := sto Tryz.prog (m1 _ (List.mem_of_getElem? (i := 6) rfl))
    have sx7 := sto Tryz.prog (m1 _ (List.mem_of_getElem? (i := 7) rfl))
    clear m1
    have t2 := (tb.step b2).alloc (tb.step b2).size (.cells #[x0, x1, x2, x3, x4, x5, .slice a6 0 k6, .slice b7 0 m7] 35)
    have bq := b2.alloc b2.size (.cells #[x0, x1, x2, x3, x4, x5, .slice a6 0 k6, .slice b7 0 m7] 35)
    have CQ := Cells.new w2 [x0, x1, x2, x3, x4, x5, .slice a6 0 k6, .slice b7 0 m7] 35
    have hq := Rd.mono ((Below.refl w2.heap.size w2).alloc (Nat.le_refl _) (.cells #[x0, x1, x2, x3, x4, x5, .slice a6 0 k6, .slice b7 0 m7] 35)) o2.rd
    have CX := CX.later bq
    have hp := Rd.mono bq hp
    have h7 := h7.later bq
    clear y0 y1 y2 y3 y4 y5 y6 y7
    obtain ⟨y0, y1, y2, y3, y4, y5, y6, y7⟩ := cells8 (CX)
    clear o2
    go_wp2_with fail
    refine (specFold_calls hp).mono ?_
    rintro e w3 ⟨cs3, he, o3, b3⟩
    rw [hF] at he
    subst he
    obtain ⟨z0, z1, z2, z3, z4, z5, z6, z7, rfl⟩ := list8 (Rd.len o3.rd)
    have m1 := Rd.one o3.rd
    have sz0 := sto Tryz.prog (m1 z0 (by simp))
    have sz1 := sto Tryz.prog (m1 z1 (by simp))
    have sz2 := sto Tryz.prog (m1 z2 (by simp))
    have sz3 := sto Tryz.prog (m1 z3 (by simp))
    have sz4 := sto Tryz.prog (m1 z4 (by simp))
    have sz5 := sto Tryz.prog (m1 z5 (by simp))
    have sz6 := sto Tryz.prog (m1 z6 (by simp))
    have sz7 := sto Tryz.prog (m1 z7 (by simp))
    clear m1
    have t3 := (t2.step b3).alloc (t2.step b3).size (.cells #[z0, z1, z2, z3, z4, z5, z6, z7] 35)
    have br := b3.alloc b3.size (.cells #[z0, z1, z2, z3, z4, z5, z6, z7] 35)
    have CX := CX.later br
    have CQ := CQ.later br
    have hq := Rd.mono br hq
    have hp := Rd.mono br hp
    have h7 := h7.later br
    clear y0 y1 y2 y3 y4 y5 y6 y7
    obtain ⟨y0, y1, y2, y3, y4, y5, y6, y7⟩ := cells8 (CX)
    clear o3
    go_upto_region 10 with fail
    clear sx0 sx1 sx2 sx3 sx4 sx5 sx6 sx7 sz0 sz1 sz2 sz3 sz4 sz5 sz6 sz7 y0 y1 y2 y3 y4 y5 y6 y7
    generalize w3.alloc _ = w4 at *
    have CX := CX.drew
    have CQ := CQ.drew
    have td := (Below.refl w4.heap.size w4).drew
    have hq := Rd.mono td hq
    have hp := Rd.mono td hp
    have h7 := h7.later td
    have t4 := t3.drew
    clear td
    refine wp_region_held_drew (S := fun W' => (W'.cell? ⟨w2.heap.size, 0, none⟩ = some x0 ∧ W'.cell? ⟨w2.heap.size, 1, none⟩ = some x1 ∧ W'.cell? ⟨w2.heap.size, 2, none⟩ = some x2 ∧ W'.cell? ⟨w2.heap.size, 3, none⟩ = some x3 ∧ W'.cell? ⟨w2.heap.size, 4, none⟩ = some x4 ∧ W'.cell? ⟨w2.heap.size, 5, none⟩ = some x5 ∧ W'.cell? ⟨w2.heap.size, 6, none⟩ = some (.slice a6 0 k6) ∧ W'.cell? ⟨w2.heap.size, 7, none⟩ = some (.slice b7 0 m7)) ∧ (W'.cell? ⟨w1.heap.size, 0, none⟩ = some (.int .i64 p.atoms) ∧ W'.cell? ⟨w1.heap.size, 1, none⟩ = some d1 ∧ W'.cell? ⟨w1.heap.size, 2, none⟩ = some d2 ∧ W'.cell? ⟨w1.heap.size, 3, none⟩ = some (.bool p.projOn) ∧ W'.cell? ⟨w1.heap.size, 4, none⟩ = some d4 ∧ W'.cell? ⟨w1.heap.size, 5, none⟩ = some d5 ∧ W'.cell? ⟨w1.heap.size, 6, none⟩ = some d6 ∧ W'.cell? ⟨w1.heap.size, 7, none⟩ = some (.slice a7 p.assume.length k7))) (by kernel_rfl) ⟨cells8 CQ, cells8 CX⟩ (fun hHeld => ?_)
    generalize w4.drew = wq at *
    refine takeD (i := 0) (v := .pointer (some ⟨w2.heap.size, 6, none⟩)) (some 37) rfl rfl (by kernel_rfl) (by kernel_rfl) (by kernel_rfl) (fun _ _ _ h => h) (Or.inl ⟨by rfl, fun w' hw' => ?_⟩) hHeld ?_
    · first | (go_simp; done) | (obtain ⟨⟨s0, s1, s2, s3, s4, s5, s6, s7⟩, ⟨r0, r1, r2, r3, r4, r5, r6, r7⟩⟩ := hw'; go_simp; done)
    try simp only [Act.put, List.setIfInBounds_toArray, List.set_cons_zero, List.set_cons_succ]
    refine takeD (i := 1) (v := .slice a6 0 k6) (some 38) rfl rfl (by kernel_rfl) (by kernel_rfl) (by kernel_rfl) (fun _ _ _ h => h) (Or.inl ⟨by rfl, fun w' hw' => ?_⟩) hHeld ?_
    · first | (go_simp; done) | (obtain ⟨⟨s0, s1, s2, s3, s4, s5, s6, s7⟩, ⟨r0, r1, r2, r3, r4, r5, r6, r7⟩⟩ := hw'; go_simp; done)
    try simp only [Act.put, List.setIfInBounds_toArray, List.set_cons_zero, List.set_cons_succ]
    refine takeD (i := 2) (v := .int .i64 0) (some 39) rfl rfl (by kernel_rfl) (by kernel_rfl) (by kernel_rfl) (fun _ _ _ h => h) (Or.inl ⟨by rfl, fun w' hw' => ?_⟩) hHeld ?_
    · first | (go_simp; done) | (obtain ⟨⟨s0, s1, s2, s3, s4, s5, s6, s7⟩, ⟨r0, r1, r2, r3, r4, r5, r6, r7⟩⟩ := hw'; go_simp; done)
    try simp only [Act.put, List.setIfInBounds_toArray, List.set_cons_zero, List.set_cons_succ]
    refine takeD (i := 3) (v := .bool false) (some 40) rfl rfl (by kernel_rfl) (by kernel_rfl) (by kernel_rfl) (fun _ _ _ h => h) (Or.inl ⟨by rfl, fun w' hw' => ?_⟩) hHeld ?_
    · first | (go_simp; done) | (obtain ⟨⟨s0, s1, s2, s3, s4, s5, s6, s7⟩, ⟨r0, r1, r2, r3, r4, r5, r6, r7⟩⟩ := hw'; go_simp; done)
    try simp only [Act.put, List.setIfInBounds_toArray, List.set_cons_zero, List.set_cons_succ]
    refine takeD (i := 4) (v := .bool false) (some 41) rfl rfl (by kernel_rfl) (by kernel_rfl) (by kernel_rfl) (fun _ _ _ h => h) (Or.inl ⟨by rfl, fun w' hw' => ?_⟩) hHeld ?_
    · first | (go_simp; done) | (obtain ⟨⟨s0, s1, s2, s3, s4, s5, s6, s7⟩, ⟨r0, r1, r2, r3, r4, r5, r6, r7⟩⟩ := hw'; go_simp; done)
    try simp only [Act.put, List.setIfInBounds_toArray, List.set_cons_zero, List.set_cons_succ]
    refine takeD (i := 5) (v := .pointer (some ⟨w2.heap.size, 7, none⟩)) (some 42) rfl rfl (by kernel_rfl) (by kernel_rfl) (by kernel_rfl) (fun _ _ _ h => h) (Or.inl ⟨by rfl, fun w' hw' => ?_⟩) hHeld ?_
    · first | (go_simp; done) | (obtain ⟨⟨s0, s1, s2, s3, s4, s5, s6, s7⟩, ⟨r0, r1, r2, r3, r4, r5, r6, r7⟩⟩ := hw'; go_simp; done)
    try simp only [Act.put, List.setIfInBounds_toArray, List.set_cons_zero, List.set_cons_succ]
    refine takeD (i := 6) (v := .slice b7 0 m7) (some 43) rfl rfl (by kernel_rfl) (by kernel_rfl) (by kernel_rfl) (fun _ _ _ h => h) (Or.inl ⟨by rfl, fun w' hw' => ?_⟩) hHeld ?_
    · first | (go_simp; done) | (obtain ⟨⟨s0, s1, s2, s3, s4, s5, s6, s7⟩, ⟨r0, r1, r2, r3, r4, r5, r6, r7⟩⟩ := hw'; go_simp; done)
    try simp only [Act.put, List.setIfInBounds_toArray, List.set_cons_zero, List.set_cons_succ]
    refine takeD (i := 7) (v := .int .i64 0) (some 44) rfl rfl (by kernel_rfl) (by kernel_rfl) (by kernel_rfl) (fun _ _ _ h => h) (Or.inl ⟨by rfl, fun w' hw' => ?_⟩) hHeld ?_
    · first | (go_simp; done) | (obtain ⟨⟨s0, s1, s2, s3, s4, s5, s6, s7⟩, ⟨r0, r1, r2, r3, r4, r5, r6, r7⟩⟩ := hw'; go_simp; done)
    try simp only [Act.put, List.setIfInBounds_toArray, List.set_cons_zero, List.set_cons_succ]
    refine takeD (i := 8) (v := .bool false) (some 45) rfl rfl (by kernel_rfl) (by kernel_rfl) (by kernel_rfl) (fun _ _ _ h => h) (Or.inl ⟨by rfl, fun w' hw' => ?_⟩) hHeld ?_
    · first | (go_simp; done) | (obtain ⟨⟨s0, s1, s2, s3, s4, s5, s6, s7⟩, ⟨r0, r1, r2, r3, r4, r5, r6, r7⟩⟩ := hw'; go_simp; done)
    try simp only [Act.put, List.setIfInBounds_toArray, List.set_cons_zero, List.set_cons_succ]
    refine takeD (i := 9) (v := .bool false) (some 46) rfl rfl (by kernel_rfl) (by kernel_rfl) (by kernel_rfl) (fun _ _ _ h => h) (Or.inl ⟨by rfl, fun w' hw' => ?_⟩) hHeld ?_
    · first | (go_simp; done) | (obtain ⟨⟨s0, s1, s2, s3, s4, s5, s6, s7⟩, ⟨r0, r1, r2, r3, r4, r5, r6, r7⟩⟩ := hw'; go_simp; done)
    try simp only [Act.put, List.setIfInBounds_toArray, List.set_cons_zero, List.set_cons_succ]
    refine takeD (i := 10) (v := .bool false) (some 47) rfl rfl (by kernel_rfl) (by kernel_rfl) (by kernel_rfl) (fun _ _ _ h => h) (Or.inl ⟨by rfl, fun w' hw' => ?_⟩) hHeld ?_
    · first | (go_simp; done) | (obtain ⟨⟨s0, s1, s2, s3, s4, s5, s6, s7⟩, ⟨r0, r1, r2, r3, r4, r5, r6, r7⟩⟩ := hw'; go_simp; done)
    try simp only [Act.put, List.setIfInBounds_toArray, List.set_cons_zero, List.set_cons_succ]
    refine takeD (i := 11) (v := .agg #[x0, x1, x2, x3, x4, x5, .slice a6 0 k6, .slice b7 0 m7]) (some 48) rfl rfl (by kernel_rfl) (by kernel_rfl) (by kernel_rfl) (fun _ _ _ h => h) (Or.inl ⟨by rfl, fun w' hw' => ?_⟩) hHeld ?_
    · first | (go_simp; done) | (obtain ⟨⟨s0, s1, s2, s3, s4, s5, s6, s7⟩, ⟨r0, r1, r2, r3, r4, r5, r6, r7⟩⟩ := hw'; go_simp; done)
    try simp only [Act.put, List.setIfInBounds_toArray, List.set_cons_zero, List.set_cons_succ]
    refine takeD (i := 13) (v := .agg #[.int .i64 p.atoms, d1, d2, .bool p.projOn, d4, d5, d6, .slice a7 p.assume.length k7]) (some 50) rfl rfl (by kernel_rfl) (by kernel_rfl) (by kernel_rfl) (fun _ _ _ h => h) (Or.inl ⟨by rfl, fun w' hw' => ?_⟩) hHeld ?_
    · first | (go_simp; done) | (obtain ⟨⟨s0, s1, s2, s3, s4, s5, s6, s7⟩, ⟨r0, r1, r2, r3, r4, r5, r6, r7⟩⟩ := hw'; go_simp; done)
    try simp only [Act.put, List.setIfInBounds_toArray, List.set_cons_zero, List.set_cons_succ]
    refine wpAnyH_ready (rs := [12]) (by kernel_rfl) (by simp) ?_
    refine AllReadyH.cons rfl (fun K hK => ?_) AllReadyH.nil
    go_simp
    refine (implAnswers_calls hq).mono ?_
    rintro e w5 ⟨u5, rfl, o5, b5⟩
    rw [hAF.out] at o5
    have CX := CX.later b5
    have CQ := CQ.later b5
    refine hK.out _ _ ⟨cells8 CQ, cells8 CX⟩ (fun hHeld => ?_)
    clear hK K
    try simp only [Act.put, List.setIfInBounds_toArray, List.set_cons_zero, List.set_cons_succ]
    refine wpAnyH_ready (rs := [14]) (by kernel_rfl) (by simp) ?_
    refine AllReadyH.cons rfl (fun K hK => ?_) AllReadyH.nil
    go_simp
    refine (specAnswers_calls (Rd.mono b5 hp)).mono ?_
    rintro e w6 ⟨u6, rfl, o6, b6⟩
    have CX := CX.later b6
    have CQ := CQ.later b6
    refine hK.out _ _ ⟨cells8 CQ, cells8 CX⟩ (fun hHeld => ?_)
    clear hK K
    try simp only [Act.put, List.setIfInBounds_toArray, List.set_cons_zero, List.set_cons_succ]
    refine wpAnyH_ready (rs := [15]) (by kernel_rfl) (by simp) ?_
    refine AllReadyH.cons rfl (fun K hK => ?_) AllReadyH.nil
    go_simp
    refine (sameSets_calls (o5.later b6).rd o6.rd).mono ?_
    rintro e w7 ⟨rfl, b7'⟩
    have CX := CX.later b7'
    have CQ := CQ.later b7'
    refine hK.out _ _ ⟨cells8 CQ, cells8 CX⟩ (fun hHeld => ?_)
    clear hK K
    try simp only [Act.put, List.setIfInBounds_toArray, List.set_cons_zero, List.set_cons_succ]
    refine takeD (i := 16) (v := .bool false) (some 53) rfl rfl (by kernel_rfl) (by kernel_rfl) (by kernel_rfl) (fun _ _ _ h => h) (Or.inl ⟨by rfl, fun w' hw' => ?_⟩) hHeld ?_
    · first | (go_simp; done) | (obtain ⟨⟨s0, s1, s2, s3, s4, s5, s6, s7⟩, ⟨r0, r1, r2, r3, r4, r5, r6, r7⟩⟩ := hw'; go_simp; done)
    try simp only [Act.put, List.setIfInBounds_toArray, List.set_cons_zero, List.set_cons_succ]
    refine takeD (i := 17) (v := .bool false) (some 54) rfl rfl (by kernel_rfl) (by kernel_rfl) (by kernel_rfl) (fun _ _ _ h => h) (Or.inl ⟨by rfl, fun w' hw' => ?_⟩) hHeld ?_
    · first | (go_simp; done) | (obtain ⟨⟨s0, s1, s2, s3, s4, s5, s6, s7⟩, ⟨r0, r1, r2, r3, r4, r5, r6, r7⟩⟩ := hw'; go_simp; done)
    try simp only [Act.put, List.setIfInBounds_toArray, List.set_cons_zero, List.set_cons_succ]
    refine wpAnyH_done (by kernel_rfl) ?_ _
    have t7 := ((t4.step b5).step b6).step b7'
    have bb := (b5.trans (b6.mono b5.size)).trans (b7'.mono (Nat.le_trans b5.size b6.size))
    have hp := Rd.mono bb hp
    have h7 := h7.later bb
    clear hq CQ o5 o6 b5 b6 b7' bb
    obtain ⟨y0, y1, y2, y3, y4, y5, y6, y7⟩ := cells8 CX
    have t8 := t7.alloc t7.size (.cells #[.int .i64 p.atoms, d1, d2, .bool p.projOn, d4, d5, d6, .slice none 0 0] 35)
    have tf := (Below.refl w7.heap.size w7).alloc (Nat.le_refl _) (.cells #[.int .i64 p.atoms, d1, d2, .bool p.projOn, d4, d5, d6, .slice none 0 0] 35)
    have hfree := Rd.mono tf (free_rd hp)
    go_wp2_with fail
    refine (specAnswers_calls hfree).mono ?_
    rintro e w8 ⟨u8, rfl, o8, b8⟩
    obtain ⟨aL, kL, rfl, _, hLr⟩ := o8.rd.sl
    have t9 := t8.step b8
    have bb := (tf.step b8)
    have CX := CX.later bb
    have hp := Rd.mono bb hp
    have h7 := h7.later bb
    have hm7 := h7.1
    have hmL := hLr.1
    clear hfree o8 b8 bb tf t8 y0 y1 y2 y3 y4 y5 y6 y7 st1 st2 st4 st5 st6
    generalize answersL (freeD p) = L at *
    have hL4 : L.length ≤ 4096 := hLL
    go_wp2
    go_loopw [10, 11] (fun v i wr => ∃ (k : Nat) (vs : List Value), k ≤ L.length ∧ i = .int .i64 (k : Int) ∧ wr.ownsRow w8.heap.size 60 1 v vs.length vs ∧ Reads w8 vs ((L.take k).filter fun x => p.assume.all (holdsB x)) ∧ Below w8.heap.size w8 wr) (fun _ i _ => L.length - (intOf i).toNat)
    case atStart => exact ⟨0, [], Nat.zero_le _, rfl, World.ownsRow_made w8 #[] 0 (Nat.le_refl _) (by simp) rfl, by rw [List.take_zero]; exact Reads.nil _, (Below.refl _ _).alloc (Nat.le_refl _) _⟩
    case round =>
      obtain ⟨k, vs, hk, rfl, ho, hr, hb⟩ := hrel
      have hsz := hb.size
      obtain ⟨al, nl, rfl⟩ := ownsRow_form ho
      obtain ⟨y0, y1, y2, y3, y4, y5, y6, y7⟩ := cells8 (CX.later hb)
      by_cases hlt : k < L.length
      · obtain ⟨bL, offL, rfl, hcL⟩ := hLr.base (by omega)
        obtain ⟨ecs, hC, hR⟩ := hcL k hlt
        obtain ⟨ax, nx, rfl, hax, hnx, hRx⟩ : RdL w8 ecs (nth L k) := hR
        have hRu : RdL w8 [.slice ax (nth L k).length nx] (nth L k) := ⟨ax, nx, rfl, hax, hnx, hRx⟩
        rw [show Rd.k (List Int) = 1 from rfl, Nat.mul_one] at hC
        have HY := Lib.hid (fun (h : p.assume.all (holdsB (nth L k)) = true) => filter_take_yes (P := fun x => p.assume.all (holdsB x)) hlt h)
        have HN := Lib.hid (fun (h : p.assume.all (holdsB (nth L k)) = false) => filter_take_no (P := fun x => p.assume.all (holdsB x)) hlt h)
        have hki : (k : Int) < (L.length : Int) := by omega
        clear hcL
        generalize nth L k = x at *
        obtain ⟨wo, rfl⟩ : ∃ wo, wo = wr := ⟨_, rfl⟩
        go_wp2
        clear y0 y1 y2 y3 y4 y5 y6 y7
        go_loopw [12, 13] (fun hv i wr => ∃ j : Nat, j ≤ p.assume.length ∧ i = .int .i64 (j : Int) ∧ hv = .bool ((p.assume.take j).all (holdsB x)) ∧ Below wo.heap.size wo wr) (fun _ i _ => p.assume.length - (intOf i).toNat)
        case atStart => exact ⟨0, Nat.zero_le _, rfl, by rw [List.take_zero]; rfl, Below.refl _ _⟩
        case round =>
          obtain ⟨j, hj, rfl, rfl, hbo⟩ := hrel
          have hb2 := hb.step hbo
          obtain ⟨y0, y1, y2, y3, y4, y5, y6, y7⟩ := cells8 (CX.later hb2)
          by_cases hlj : j < p.assume.length
          · obtain ⟨b9, off9, rfl, hc9⟩ := (h7.later hb2).ints.at (by omega)
            have hcj := hc9 j hlj
            have hF9 := (h7.later hb2).ints.2.1 _ (el_mem hlj)
            have hst := Lib.hid (all_take_step (f := holdsB x) hlj)
            have hji : (j : Int) < (p.assume.length : Int) := by omega
            have u0 := (hC.later hb2).c0
            have hIx := Ints.later (Ints.later hRx.ints hb2) ((Below.refl wr.heap.size wr).drew)
            clear hc9
            generalize el p.assume j = l at *
            generalize hacc : (p.assume.take j).all (holdsB x) = acc at *
            replace hacc := Lib.hid hacc
            cases acc
            · go_upto_region 23 with fail
              refine wp_region_held_drew (S := fun _ => True) (by kernel_rfl) trivial (fun hHeld => ?_)
              refine takeD (i := 0) (v := .bool false) (some 73) rfl rfl (by kernel_rfl) (by kernel_rfl) (by kernel_rfl) (fun _ _ _ h => h) (Or.inl ⟨by rfl, fun w' hw' => ?_⟩) hHeld ?_
              · first | (go_simp; done) | (obtain ⟨s0, s1, s2⟩ := hw'; go_simp; done)
              try simp only [Act.put, List.setIfInBounds_toArray, List.set_cons_zero, List.set_cons_succ]
              refine takeD (i := 1) (v := .bool false) (some 74) rfl rfl (by kernel_rfl) (by kernel_rfl) (by kernel_rfl) (fun _ _ _ h => h) (Or.inl ⟨by rfl, fun w' hw' => ?_⟩) hHeld ?_
              · first | (go_simp; done) | (obtain ⟨s0, s1, s2⟩ := hw'; go_simp; done)
              try simp only [Act.put, List.setIfInBounds_toArray, List.set_cons_zero, List.set_cons_succ]
              refine takeD (i := 2) (v := undef) (some 75) rfl rfl (by kernel_rfl) (by kernel_rfl) (by kernel_rfl) (fun _ _ _ h => h) (Or.inr ⟨by rfl, rfl⟩) hHeld ?_
              try simp only [Act.put, List.setIfInBounds_toArray, List.set_cons_zero, List.set_cons_succ]
              refine takeD (i := 3) (v := undef) (some 76) rfl rfl (by kernel_rfl) (by kernel_rfl) (by kernel_rfl) (fun _ _ _ h => h) (Or.inr ⟨by rfl, rfl⟩) hHeld ?_
              try simp only [Act.put, List.setIfInBounds_toArray, List.set_cons_zero, List.set_cons_succ]
              refine takeD (i := 4) (v := undef) (some 77) rfl rfl (by kernel_rfl) (by kernel_rfl) (by kernel_rfl) (fun _ _ _ h => h) (Or.inr ⟨by rfl, rfl⟩) hHeld ?_
              try simp only [Act.put, List.setIfInBounds_toArray, List.set_cons_zero, List.set_cons_succ]
              refine takeD (i := 5) (v := undef) (some 78) rfl rfl (by kernel_rfl) (by kernel_rfl) (by kernel_rfl) (fun _ _ _ h => h) (Or.inr ⟨by rfl, rfl⟩) hHeld ?_
              try simp only [Act.put, List.setIfInBounds_toArray, List.set_cons_zero, List.set_cons_succ]
              refine takeD (i := 6) (v := undef) (some 79) rfl rfl (by kernel_rfl) (by kernel_rfl) (by kernel_rfl) (fun _ _ _ h => h) (Or.inr ⟨by rfl, rfl⟩) hHeld ?_
              try simp only [Act.put, List.setIfInBounds_toArray, List.set_cons_zero, List.set_cons_succ]
              refine takeD (i := 7) (v := undef) (some 80) rfl rfl (by kernel_rfl) (by kernel_rfl) (by kernel_rfl) (fun _ _ _ h => h) (Or.inr ⟨by rfl, rfl⟩) hHeld ?_
              try simp only [Act.put, List.setIfInBounds_toArray, List.set_cons_zero, List.set_cons_succ]
              refine takeD (i := 8) (v := undef) (some 81) rfl rfl (by kernel_rfl) (by kernel_rfl) (by kernel_rfl) (fun _ _ _ h => h) (Or.inr ⟨by rfl, rfl⟩) hHeld ?_
              try simp only [Act.put, List.setIfInBounds_toArray, List.set_cons_zero, List.set_cons_succ]
              refine takeD (i := 9) (v := undef) (some 82) rfl rfl (by kernel_rfl) (by kernel_rfl) (by kernel_rfl) (fun _ _ _ h => h) (Or.inr ⟨by rfl, rfl⟩) hHeld ?_
              try simp only [Act.put, List.setIfInBounds_toArray, List.set_cons_zero, List.set_cons_succ]
              refine takeD (i := 10) (v := undef) (some 83) rfl rfl (by kernel_rfl) (by kernel_rfl) (by kernel_rfl) (fun _ _ _ h => h) (Or.inr ⟨by rfl, rfl⟩) hHeld ?_
              try simp only [Act.put, List.setIfInBounds_toArray, List.set_cons_zero, List.set_cons_succ]
              refine takeD (i := 11) (v := undef) (some 84) rfl rfl (by kernel_rfl) (by kernel_rfl) (by kernel_rfl) (fun _ _ _ h => h) (Or.inr ⟨by rfl, rfl⟩) hHeld ?_
              try simp only [Act.put, List.setIfInBounds_toArray, List.set_cons_zero, List.set_cons_succ]
              refine takeD (i := 12) (v := undef) (some 85) rfl rfl (by kernel_rfl) (by kernel_rfl) (by kernel_rfl) (fun _ _ _ h => h) (Or.inr ⟨by rfl, rfl⟩) hHeld ?_
              try simp only [Act.put, List.setIfInBounds_toArray, List.set_cons_zero, List.set_cons_succ]
              refine takeD (i := 13) (v := .bool false) (some 86) rfl rfl (by kernel_rfl) (by kernel_rfl) (by kernel_rfl) (fun _ _ _ h => h) (Or.inl ⟨by rfl, fun w' hw' => ?_⟩) hHeld ?_
              · first | (go_simp; done) | (obtain ⟨s0, s1, s2⟩ := hw'; go_simp; done)
              try simp only [Act.put, List.setIfInBounds_toArray, List.set_cons_zero, List.set_cons_succ]
              refine takeD (i := 14) (v := .bool false) (some 12) rfl rfl (by kernel_rfl) (by kernel_rfl) (by kernel_rfl) (fun _ _ _ h => h) (Or.inl ⟨by rfl, fun w' hw' => ?_⟩) hHeld ?_
              · first | (go_simp; done) | (obtain ⟨s0, s1, s2⟩ := hw'; go_simp; done)
              try simp only [Act.put, List.setIfInBounds_toArray, List.set_cons_zero, List.set_cons_succ]
              refine wpAnyH_done (by kernel_rfl) ?_ _
              go_wp2
              go_roundw
              case rel => exact ⟨j + 1, by omega, by go_num, by rw [hst.out]; rfl, hbo.drew⟩
              case measure => simp [intOf]; omega
            · go_upto_region 23 with fail
              refine wp_region_held_drew (S := fun W' => W'.cell? ⟨w1.heap.size, 7, none⟩ = some (.slice (some ⟨b9, off9, none⟩) p.assume.length k7) ∧ W'.cell? ⟨bL, offL + k, none⟩ = some (.slice ax x.length nx) ∧ W'.cell? ⟨b9, off9 + j, none⟩ = some (.int .i64 l)) (by kernel_rfl) ⟨y7, u0, hcj⟩ (fun hHeld => ?_)
              refine takeD (i := 0) (v := .bool true) (some 73) rfl rfl (by kernel_rfl) (by kernel_rfl) (by kernel_rfl) (fun _ _ _ h => h) (Or.inl ⟨by rfl, fun w' hw' => ?_⟩) hHeld ?_
              · first | (go_simp; done) | (obtain ⟨s0, s1, s2⟩ := hw'; go_simp; done)
              try simp only [Act.put, List.setIfInBounds_toArray, List.set_cons_zero, List.set_cons_succ]
              refine takeD (i := 1) (v := .bool true) (some 74) rfl rfl (by kernel_rfl) (by kernel_rfl) (by kernel_rfl) (fun _ _ _ h => h) (Or.inl ⟨by rfl, fun w' hw' => ?_⟩) hHeld ?_
              · first | (go_simp; done) | (obtain ⟨s0, s1, s2⟩ := hw'; go_simp; done)
              try simp only [Act.put, List.setIfInBounds_toArray, List.set_cons_zero, List.set_cons_succ]
              refine takeD (i := 2) (v := .slice (some ⟨bL, offL, none⟩) L.length kL) (some 75) rfl rfl (by kernel_rfl) (by kernel_rfl) (by kernel_rfl) (fun _ _ _ h => h) (Or.inl ⟨by rfl, fun w' hw' => ?_⟩) hHeld ?_
              · first | (go_simp; done) | (obtain ⟨s0, s1, s2⟩ := hw'; go_simp; done)
              try simp only [Act.put, List.setIfInBounds_toArray, List.set_cons_zero, List.set_cons_succ]
              refine takeD (i := 3) (v := .int .i64 (k : Int)) (some 76) rfl rfl (by kernel_rfl) (by kernel_rfl) (by kernel_rfl) (fun _ _ _ h => h) (Or.inl ⟨by rfl, fun w' hw' => ?_⟩) hHeld ?_
              · first | (go_simp; done) | (obtain ⟨s0, s1, s2⟩ := hw'; go_simp; done)
              try simp only [Act.put, List.setIfInBounds_toArray, List.set_cons_zero, List.set_cons_succ]
              refine takeD (i := 4) (v := .pointer (some ⟨bL, offL + k, none⟩)) (some 77) rfl rfl (by kernel_rfl) (by kernel_rfl) (by kernel_rfl) (fun _ _ _ h => h) (Or.inl ⟨by rfl, fun w' hw' => ?_⟩) hHeld ?_
              · first | (go_simp; done) | (obtain ⟨s0, s1, s2⟩ := hw'; go_simp; done)
              try simp only [Act.put, List.setIfInBounds_toArray, List.set_cons_zero, List.set_cons_succ]
              refine takeD (i := 5) (v := .pointer (some ⟨bL, offL + k, none⟩)) (some 78) rfl rfl (by kernel_rfl) (by kernel_rfl) (by kernel_rfl) (fun _ _ _ h => h) (Or.inl ⟨by rfl, fun w' hw' => ?_⟩) hHeld ?_
              · first | (go_simp; done) | (obtain ⟨s0, s1, s2⟩ := hw'; go_simp; done)
              try simp only [Act.put, List.setIfInBounds_toArray, List.set_cons_zero, List.set_cons_succ]
              refine takeD (i := 6) (v := .slice ax x.length nx) (some 79) rfl rfl (by kernel_rfl) (by kernel_rfl) (by kernel_rfl) (fun _ _ _ h => h) (Or.inl ⟨by rfl, fun w' hw' => ?_⟩) hHeld ?_
              · first | (go_simp; done) | (obtain ⟨s0, s1, s2⟩ := hw'; go_simp; done)
              try simp only [Act.put, List.setIfInBounds_toArray, List.set_cons_zero, List.set_cons_succ]
              refine takeD (i := 7) (v := .pointer (some ⟨w1.heap.size, 7, none⟩)) (some 80) rfl rfl (by kernel_rfl) (by kernel_rfl) (by kernel_rfl) (fun _ _ _ h => h) (Or.inl ⟨by rfl, fun w' hw' => ?_⟩) hHeld ?_
              · first | (go_simp; done) | (obtain ⟨s0, s1, s2⟩ := hw'; go_simp; done)
              try simp only [Act.put, List.setIfInBounds_toArray, List.set_cons_zero, List.set_cons_succ]
              refine takeD (i := 8) (v := .slice (some ⟨b9, off9, none⟩) p.assume.length k7) (some 81) rfl rfl (by kernel_rfl) (by kernel_rfl) (by kernel_rfl) (fun _ _ _ h => h) (Or.inl ⟨by rfl, fun w' hw' => ?_⟩) hHeld ?_
              · first | (go_simp; done) | (obtain ⟨s0, s1, s2⟩ := hw'; go_simp; done)
              try simp only [Act.put, List.setIfInBounds_toArray, List.set_cons_zero, List.set_cons_succ]
              refine takeD (i := 9) (v := .int .i64 (j : Int)) (some 82) rfl rfl (by kernel_rfl) (by kernel_rfl) (by kernel_rfl) (fun _ _ _ h => h) (Or.inl ⟨by rfl, fun w' hw' => ?_⟩) hHeld ?_
              · first | (go_simp; done) | (obtain ⟨s0, s1, s2⟩ := hw'; go_simp; done)
              try simp only [Act.put, List.setIfInBounds_toArray, List.set_cons_zero, List.set_cons_succ]
              refine takeD (i := 10) (v := .pointer (some ⟨b9, off9 + j, none⟩)) (some 83) rfl rfl (by kernel_rfl) (by kernel_rfl) (by kernel_rfl) (fun _ _ _ h => h) (Or.inl ⟨by rfl, fun w' hw' => ?_⟩) hHeld ?_
              · first | (go_simp; done) | (obtain ⟨s0, s1, s2⟩ := hw'; go_simp; done)
              try simp only [Act.put, List.setIfInBounds_toArray, List.set_cons_zero, List.set_cons_succ]
              refine takeD (i := 11) (v := .int .i64 l) (some 84) rfl rfl (by kernel_rfl) (by kernel_rfl) (by kernel_rfl) (fun _ _ _ h => h) (Or.inl ⟨by rfl, fun w' hw' => ?_⟩) hHeld ?_
              · first | (go_simp; done) | (obtain ⟨s0, s1, s2⟩ := hw'; go_simp; done)
              try simp only [Act.put, List.setIfInBounds_toArray, List.set_cons_zero, List.set_cons_succ]
              refine wpAnyH_ready (rs := [12]) (by kernel_rfl) (by simp) ?_
              refine AllReadyH.cons rfl (fun K hK => ?_) AllReadyH.nil
              go_simp
              refine (specHolds_calls _ _ _ _ _ hIx hF9).mono ?_
              rintro e w' ⟨rfl, rfl⟩
              refine hK.out _ _ hHeld (fun hHeld => ?_)
              clear hK K
              try simp only [Act.put, List.setIfInBounds_toArray, List.set_cons_zero, List.set_cons_succ]
              refine takeD (i := 13) (v := .bool (holdsB x l)) (some 86) rfl rfl (by kernel_rfl) (by kernel_rfl) (by kernel_rfl) (fun _ _ _ h => h) (Or.inl ⟨by rfl, fun w' hw' => ?_⟩) hHeld ?_
              · first | (go_simp; done) | (obtain ⟨s0, s1, s2⟩ := hw'; go_simp; done)
              try simp only [Act.put, List.setIfInBounds_toArray, List.set_cons_zero, List.set_cons_succ]
              refine takeD (i := 14) (v := .bool (holdsB x l)) (some 12) rfl rfl (by kernel_rfl) (by kernel_rfl) (by kernel_rfl) (fun _ _ _ h => h) (Or.inl ⟨by rfl, fun w' hw' => ?_⟩) hHeld ?_
              · first | (go_simp; done) | (obtain ⟨s0, s1, s2⟩ := hw'; go_simp; done)
              try simp only [Act.put, List.setIfInBounds_toArray, List.set_cons_zero, List.set_cons_succ]
              refine wpAnyH_done (by kernel_rfl) ?_ _
              go_wp2
              go_roundw
              case rel => exact ⟨j + 1, by omega, by go_num, by rw [hst.out]; rfl, hbo.drew⟩
              case measure => simp [intOf]; omega
          · have hP : Hid ((p.assume.take j).all (holdsB x) = p.assume.all (holdsB x)) := by show _ = _; rw [List.take_of_length_le (by omega)]
            rw [hP.out]
            have ho := ownsRow_bel ho hbo
            have u0 := (hC.later hb2).c0
            have hvl : vs.length ≤ 4096 := by
              have h1 := hr.1
              have h2 := List.length_filter_le (fun x => p.assume.all (holdsB x)) (L.take k)
              rw [List.length_take] at h2
              omega
            cases hPx : p.assume.all (holdsB x)
            · have hE := Lib.hid (HN.out hPx)
              go_wp2
              go_roundw
              case rel => exact ⟨k + 1, vs, by omega, by go_num, ho, by rw [hE.out]; exact hr, hb2⟩
              case measure => simp [intOf]; omega
            · have hE := Lib.hid (HY.out hPx)
              have hz := hb2.size
              have hoa := ho.alloc (.cells #[.slice ax x.length nx] 60)
              obtain ⟨v', w10, r1, r2, r3, _, r5⟩ := run_append_own_at (P := Tryz.prog) (w := wr.alloc (.cells #[.slice ax x.length nx] 60)) w8.heap.size 46 46 60 i3 (.agg #[.slice none 0 0]) 1 24 Tryz.underlying46 hi3 hz30 hz31 hz32 rfl (by decide) _ vs.length _ hoa ⟨wr.heap.size, 0, none⟩ 1 1 [.slice ax x.length nx] rfl (cell_one_new _ _ _) (by simp [Value.oneCell']) (by unfold maxLen; omega) (by omega) (by rw [World.size_alloc]; omega)
              obtain ⟨a10, n10, rfl⟩ := ownsRow_form r2
              have hb3 := (hb2.alloc hb2.size (.cells #[.slice ax x.length nx] 60)).grown r3 (by rw [World.size_alloc]; omega) (fun k hk => (hoa.lt k hk).1)
              go_wp2_with (at_builtin; refine wpList_append_of rfl _ _ rfl rfl rfl r1 ?_)
              go_roundw
              case rel => exact ⟨k + 1, vs ++ [.slice ax x.length nx], by omega, by go_num, by rw [List.length_append]; exact r2, by rw [hE.out]; exact hr.snoc hRu, hb3⟩
              case measure => simp [intOf]; omega
      · have hLk : (L.take k).filter (fun x => p.assume.all (holdsB x)) = L.filter fun x => p.assume.all (holdsB x) := by rw [List.take_of_length_le (by omega)]
        rw [hLk, ← hAA.out] at hr
        have hrow := hr.row ho hb (ans_lenF p)
        have hp := Rd.mono hb hp
        go_wp2_with fail
        refine (implAnswers_calls hp).mono ?_
        rintro e w9 ⟨u9, rfl, o9, b9⟩
        go_wp2_with fail
        refine (sameSets_calls o9.rd (Rd.mono (α := List (List Int)) b9 hrow)).mono ?_
        rintro e w10 ⟨rfl, b10⟩
        go_wp2
        go_ret
        exact ⟨rfl, ((t9.step hb).step b9).step b10⟩
set_option maxRecDepth 100000 in
theorem law {a : Option Addr} {len cap : Nat} {zs : List Int} {w : World} (h : IsRow .u8 w a len cap zs) :
    Calls Tryz.prog 7 #[.slice a len cap] w fun e w' => e = .returned (.bool true) ∧ Below w.heap.size w w' := by
  by_cases hbig : len ≤ 1048576
  · obtain ⟨bs, rfl, hB⟩ := isRow_bytes h hbig
    exact law0 hB
  · have hb1 : decide (1048576 < (len : Int)) = true := decide_eq_true (by omega)
    go_enter Tryz.func7, Tryz.ntmps7
    go_wp2_with fail
    refine (big_calls _ _ _ _ _ hb1).mono ?_
    rintro e w' ⟨rfl, rfl⟩
    go_wp2
    go_ret
    exact ⟨rfl, Below.refl _ _⟩

set_option maxRecDepth 100000 in
theorem lifted (os : Os) (started : os.Started) (H : Type) (enc : TypeId × Value → H) :
    ReturnsInHanded {} Tryz.checked os 7 .any (Rows.fnFoldedSpec.pre6 enc Tryz.prog Tryz.f7 Rows.fnFoldedRow.domain false) (Rows.fnFoldedSpec.post enc Tryz.prog Tryz.f7 false true false false) := by
  refine returnsInHanded_of_change (C := Tryz.checked) own started (by kernel_rfl) Tryz.func7
    (ChangeSpec.witness6 (enc := enc) (C := Tryz.checked) false ⟨#[], #[.slice none 0 0], []⟩ 8 (by kernel_rfl) (by kernel_rfl) (by kernel_rfl) (by kernel_rfl)) ?_
  intro W base args ds gs before hval0 hW hcnd _
  have hval : ∀ (j : Nat) t v, Tryz.f7.params[j]? = some t → args[j]? = some v → Value.okWide Tryz.prog W .any base t v := hval0
  have hW' := hW
  obtain ⟨p, q, hA0, hV, rfl, hfz, hnd⟩ := hW
  have hA : DataW.TrodAll enc Tryz.prog W 0 (fun _ => true) true Tryz.f7.params.toList args.toList ds p := hA0
  rw [Tryz.params7] at hA hval
  obtain ⟨v0, vs0, d0, ds0, p0, q0, hargs, rfl, rfl, h0, r0⟩ := trodAll_cons hA
  obtain ⟨rfl, rfl, rfl⟩ := trodAll_nil r0
  obtain rfl : args = #[v0] := by cases args; simp_all
  obtain ⟨rfl, rfl⟩ := trodVars_none hV
  obtain ⟨a0, len0, cap0, rfl⟩ := okWide_slice Tryz.underlying52 (hval 0 52 v0 rfl rfl)
  have k0 := h0
  have lt0 : ∀ x ∈ p0, x.block < W.heap.size := by obtain ⟨m, hm⟩ := k0; exact DataW.trod_lt m _ _ _ hm
  obtain ⟨z0, w0⟩ : ∃ zs, IsRow .u8 W a0 len0 cap0 zs := by
    obtain ⟨fuel, hf⟩ := h0
    rcases open_ints Tryz.underlying52 Tryz.underlying5 (by kernel_rfl) hf with ⟨hcs, _⟩ | ⟨x, l, c, zs, hcs, _, hl, hm, hz, _, hcell, hwz⟩
    · simp [Value.cells] at hcs
      obtain ⟨rfl, rfl, rfl⟩ := hcs
      exact ⟨[], .inl ⟨rfl, rfl, rfl, rfl⟩⟩
    · simp [Value.cells] at hcs
      obtain ⟨rfl, rfl, rfl⟩ := hcs
      exact ⟨zs, .inr ⟨_, rfl, hl, hm, by simpa using hz, hcell, hwz⟩⟩
  clear hA0 hval0
  refine (law w0).mono fun e W' ⟨he, bel⟩ => ?_
  subst he
  exact ⟨_, rfl, _, _, _, [], _, [], hW', trodAll_mk1 (shut_bool Tryz.underlying4 _), (trodAll_cons_mk (Below.trod laidOut (by kernel_rfl) (of_decide_eq_true (by kernel_rfl)) k0 bel lt0) trodAll_mk0), rfl, bel.frame _, fun h => by cases h⟩

theorem over : Rows.fnFoldedRow.holds Tryz.pinned (OpenSpec.ofChange Rows.fnFoldedSpec) :=
  OpenClaim.holds_of_wide 7 Tryz.f7 rfl rfl rfl rfl rfl rfl rfl ⟨rfl, rfl, rfl, rfl, rfl⟩ rfl rfl rfl rfl rfl (by kernel_rfl) Tryz.func7 (by kernel_rfl)
    (of_decide_eq_true (by kernel_rfl)) (by unfold Func.isWrapper; first | (rw [if_pos (by decide +kernel)]; kernel_rfl) | (rw [if_neg (by decide +kernel)]; exact ⟨rfl, rfl⟩))
    (fun os started H enc _ => lifted os started H enc)

theorem proved : Rows.FnFoldedSaid := over
end Go.Proofs.YtjainjpcpnoikaaGreat.fnFolded
