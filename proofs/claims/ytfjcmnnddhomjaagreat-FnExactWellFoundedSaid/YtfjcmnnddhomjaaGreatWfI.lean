/-
  The well-founded part: what the program answers. No condition of its own.
-/
import Derived.Test.YtfjcmnnddhomjaaGreatAnsL
import Derived.Test.YtfjcmnnddhomjaaGreatWfD
import Derived.Test.YtfjcmnnddhomjaaGreatBothI
namespace Go.Proofs.YtfjcmnnddhomjaaGreat
set_option linter.unusedVariables false
set_option linter.unusedSimpArgs false
open Go.RowKit
set_option maxRecDepth 100000


theorem Own.putB {α : Type} [Ow α] {lo : Nat} {w : World} {cs : List Value} {x : α} (h : Own lo w cs x) {g : Nat} (hg : g < lo) (o : Nat) (vs : List Value) : Own lo (put w g o vs) cs x := by
  obtain ⟨fp, h, hl⟩ := h
  exact ⟨fp, Ow.kept h fun b hb => (put_chg g vs w o).block b (by have := hl b hb; simp; omega), hl⟩
theorem cellsAt {W : World} {b : Nat} {cs : List Value} {t : TypeId} (h : W.heap[b]? = some (.cells cs.toArray t (0, 0))) : Cells W b 0 cs := fun j v hv => by
  rw [Nat.zero_add, cell_of_row W b j _ _ _ h]; simpa using hv
theorem allCh_no {rs : List RuleD} {k : Nat} (h : k < rs.length) (hc : (nth rs k).choice = true) : rs.all noCh = false := by
  rw [List.all_eq_false]
  exact ⟨_, nth_mem h, by simp [noCh, hc]⟩
theorem allCh_yes {rs : List RuleD} (h : ∀ j, j < rs.length → (nth rs j).choice = false) : rs.all noCh = true := by
  rw [List.all_eq_true]
  intro r hr
  obtain ⟨i, hi, rfl⟩ := List.getElem_of_mem hr
  rw [← nth_eq hi]
  simp [noCh, h i hi]

theorem choice_calls {cs : List Value} {r : RuleD} {w : World} (h : Rd.R w cs r) :
    Calls Tryz.prog 141 #[.agg cs.toArray] w fun e w' => e = .returned (.bool r.choice) ∧ Below w.heap.size w w' := by
  obtain ⟨d1, d4, rfl, hf', r1, r4⟩ := h
  have so1 := sto Tryz.prog r1.one1
  have so4 := sto Tryz.prog r4.one1
  have t0 : Below w.heap.size w (w.alloc (.cells #[.bool r.choice, d1, .bool r.weight, .int .i64 r.bound, d4] 63)) := (Below.refl _ _).alloc (Nat.le_refl _) _
  clear r1 r4
  go_enter Tryz.func141, Tryz.ntmps141
  go_wp2
  go_ret
  exact ⟨rfl, t0⟩

set_option maxHeartbeats 1000000 in
theorem indexCh_calls {w : World} {v : Value} {rs : List RuleD} (h : RdL w [v] rs) :
    Calls Tryz.prog 189 #[v, .func (.func 141) #[] #[]] w fun e w' => ∃ i : Int, e = .returned (.int .i64 i) ∧ decide (0 ≤ i) = !rs.all noCh ∧ Below w.heap.size w w' := by
  obtain ⟨a1, k1, rfl, _, h1⟩ := h.sl
  have hm1 := h1.1
  go_enter Tryz.func189, Tryz.ntmps189
  go_wp2
  go_loopw [5, 8] (fun _ i wr => ∃ k : Nat, k ≤ rs.length ∧ i = .int .i64 k ∧ (∀ j, j < k → (nth rs j).choice = false) ∧ Below w.heap.size w wr) (fun _ i _ => rs.length - (intOf i).toNat)
  case atStart => exact ⟨0, Nat.zero_le _, rfl, fun j hj => absurd hj (Nat.not_lt_zero _), Below.refl _ _⟩
  case round =>
    obtain ⟨k, hk, rfl, hA, hb⟩ := hrel
    have HA := Lib.hid hA
    clear hA
    by_cases hlt : k < rs.length
    · obtain ⟨b, off, rfl, hc⟩ := h1.base (by omega)
      obtain ⟨ecs, hC, hR⟩ := hc k hlt
      have hC := hC.later hb
      have hR := Rd.mono hb hR
      have hR0 := hR
      obtain ⟨d1, d4, rfl, hf', r1, r4⟩ := hR0
      have so1 := sto Tryz.prog r1.one1
      have so4 := sto Tryz.prog r4.one1
      have u0 := hC.c0
      have u1 := hC.c1
      have u2 := hC.c2
      have u3 := hC.c3
      have u4 := hC.c4
      rw [show Rd.k RuleD = 5 from rfl] at u0 u1 u2 u3 u4
      clear hC hc h1 r1 r4
      cases hch : (nth rs k).choice
      · have hN := Lib.hid hch
        clear hch
        go_wp2_with (go_at_call 141; refine (choice_calls hR).mono ?_; rintro e w' ⟨he, hb'⟩; rw [hN.out] at he; subst he)
        go_roundw
        case rel => exact ⟨k + 1, by omega, by go_num, fun j hj => by
          rcases Nat.lt_succ_iff_lt_or_eq.1 hj with h | h
          · exact HA.out j h
          · subst h; exact hN.out, hb.step hb'⟩
        case measure => simp [intOf]; omega
      · have hN := Lib.hid hch
        clear hch
        go_wp2_with (go_at_call 141; refine (choice_calls hR).mono ?_; rintro e w' ⟨he, hb'⟩; rw [hN.out] at he; subst he)
        go_ret
        exact ⟨_, rfl, by rw [allCh_no hlt hN.out]; simp, hb.step hb'⟩
    · obtain rfl : k = rs.length := by omega
      go_wp2
      go_ret
      exact ⟨_, rfl, by rw [allCh_yes HA.out]; simp, hb⟩

theorem hasCh_calls {w : World} {v : Value} {rs : List RuleD} (h : RdL w [v] rs) :
    Calls Tryz.prog 140 #[v, .func (.func 141) #[] #[]] w fun e w' => e = .returned (.bool (!rs.all noCh)) ∧ Below w.heap.size w w' := by
  obtain ⟨a1, k1, rfl, _, h1⟩ := h.sl
  go_enter Tryz.func140, Tryz.ntmps140
  go_wp2_with fail
  refine (indexCh_calls h).mono ?_
  rintro e w1 ⟨i, rfl, hi, b1⟩
  have HI := Lib.hid hi
  clear hi
  go_wp2
  go_ret
  exact ⟨ret_bool (by rw [← HI.out]), b1⟩

/-- What Fold makes of a program without Choice. -/
def plainP (p : ProgD) : ProgD := if plainB p then foldD p else default
theorem plainP_no {p : ProgD} (h : plainB p = false) : plainP p = default := by simp [plainP, h]
theorem plainP_yes {p : ProgD} (h : plainB p = true) : plainP p = foldD p := by simp [plainP, h]

set_option maxHeartbeats 4000000 in
theorem plain_calls {cs : List Value} {p : ProgD} {w : World} (h : Rd.R w cs p) :
    Calls Tryz.prog 75 #[.agg cs.toArray] w fun e w' => ∃ cs', e = .returned (.tuple #[.agg cs'.toArray, .bool (plainB p)]) ∧ Own w.heap.size w' cs' (plainP p) ∧ Below w.heap.size w w' := by
  obtain ⟨p0, p1, p2, p3, p4, p5, p6, p7, rfl⟩ := list8 (Rd.len h)
  have t0 : Below w.heap.size w ((w.alloc (.cells #[p0, p1, p2, p3, p4, p5, p6, p7] 37)).alloc (.cells #[.int .i64 0, .slice none 0 0, .slice none 0 0, .bool false, .slice none 0 0, .slice none 0 0, .slice none 0 0, .slice none 0 0] 37)) := ((Below.refl _ _).alloc (by simp) _).alloc (by simp) _
  have hb0 := alloc_block (w.alloc (.cells #[p0, p1, p2, p3, p4, p5, p6, p7] 37)) #[.int .i64 0, .slice none 0 0, .slice none 0 0, .bool false, .slice none 0 0, .slice none 0 0, .slice none 0 0, .slice none 0 0] 37
  rw [World.size_alloc] at hb0
  have hzs : ((w.alloc (.cells #[p0, p1, p2, p3, p4, p5, p6, p7] 37)).alloc (.cells #[.int .i64 0, .slice none 0 0, .slice none 0 0, .bool false, .slice none 0 0, .slice none 0 0, .slice none 0 0, .slice none 0 0] 37)).heap.size = w.heap.size + 2 := by simp
  go_enter Tryz.func75, Tryz.ntmps75
  go_wp2_with fail
  refine (implFold_calls (Rd.mono t0 h)).mono ?_
  rintro e w1 ⟨cs1, he, o1, b1⟩
  rw [hzs] at o1
  have hb1 := (b1.block (w.heap.size + 1) (by rw [hzs]; omega)).trans hb0
  have hz1 : w.heap.size + 2 ≤ w1.heap.size := by have := b1.size; omega
  cases hF : foldB p
  · have hP : Hid (plainB p = false) := plainB_A hF
    rw [hF] at he
    subst he
    have t1 := t0.step b1
    have l1 := Rd.one o1.rd
    obtain ⟨x0, x1, x2, x3, x4, x5, x6, x7, rfl⟩ := list8 (Rd.len o1.rd)
    have st0 := sto Tryz.prog (l1 x0 (by simp))
    have st1 := sto Tryz.prog (l1 x1 (by simp))
    have st2 := sto Tryz.prog (l1 x2 (by simp))
    have st3 := sto Tryz.prog (l1 x3 (by simp))
    have st4 := sto Tryz.prog (l1 x4 (by simp))
    have st5 := sto Tryz.prog (l1 x5 (by simp))
    have st6 := sto Tryz.prog (l1 x6 (by simp))
    have st7 := sto Tryz.prog (l1 x7 (by simp))
    have o1 := o1.alloc (.cells #[x0, x1, x2, x3, x4, x5, x6, x7] 37)
    have CX1 := Cells.new w1 [x0, x1, x2, x3, x4, x5, x6, x7] 37
    have t1 := t1.alloc t1.size (.cells #[x0, x1, x2, x3, x4, x5, x6, x7] 37)
    clear l1
    have hb2 := (Below.heap_alloc w1 (.cells #[x0, x1, x2, x3, x4, x5, x6, x7] 37) (w.heap.size + 1) (by omega)).trans hb1
    obtain ⟨z0, z1, z2, z3, z4, z5, z6, z7⟩ := cells8 (cellsAt hb2)
    have hfz := fun j => frozen_of_row _ (w.heap.size + 1) j _ _ hb2
    clear o1 CX1 hb0 hb1 b1
    go_wp2
    exact bodyPost_ret (v := .tuple #[.agg #[.int .i64 0, .slice none 0 0, .slice none 0 0, .bool false, .slice none 0 0, .slice none 0 0, .slice none 0 0, .slice none 0 0], .bool false])
      (by simp [results, Tryz.results75, go_sem, z0, z1, z2, z3, z4, z5, z6, z7]) rfl ⟨_, by rw [hP.out], by rw [plainP_no hP.out]; exact own_zero _ _, by
      repeat (refine Below.setCell ?_ (by simp; try omega) _)
      exact t1⟩
  · rw [foldR_yes hF] at o1
    rw [hF] at he
    subst he
    have t1 := t0.step b1
    have l1 := Rd.one o1.rd
    obtain ⟨x0, x1, x2, x3, x4, x5, x6, x7, rfl⟩ := list8 (Rd.len o1.rd)
    have st0 := sto Tryz.prog (l1 x0 (by simp))
    have st1 := sto Tryz.prog (l1 x1 (by simp))
    have st2 := sto Tryz.prog (l1 x2 (by simp))
    have st3 := sto Tryz.prog (l1 x3 (by simp))
    have st4 := sto Tryz.prog (l1 x4 (by simp))
    have st5 := sto Tryz.prog (l1 x5 (by simp))
    have st6 := sto Tryz.prog (l1 x6 (by simp))
    have st7 := sto Tryz.prog (l1 x7 (by simp))
    have o1 := o1.alloc (.cells #[x0, x1, x2, x3, x4, x5, x6, x7] 37)
    have CX1 := Cells.new w1 [x0, x1, x2, x3, x4, x5, x6, x7] 37
    have t1 := t1.alloc t1.size (.cells #[x0, x1, x2, x3, x4, x5, x6, x7] 37)
    clear l1
    have oR := o1.rd
    obtain ⟨_, _, _, _, _, _, hl, hfa, g1, _⟩ := oR
    simp only [List.cons.injEq, and_true] at hl
    obtain ⟨rfl, rfl, -⟩ := hl
    obtain ⟨y0, y1, y2, y3, y4, y5, y6, y7⟩ := cells8 CX1
    have hz2 := World.size_alloc w1 (.cells #[.int .i64 (foldD p).atoms, x1, x2, x3, x4, x5, x6, x7] 37)
    have hb2 := (Below.heap_alloc w1 (.cells #[.int .i64 (foldD p).atoms, x1, x2, x3, x4, x5, x6, x7] 37) (w.heap.size + 1) (by omega)).trans hb1
    cases hC : (foldD p).rules.all noCh
    · have hP : Hid (plainB p = false) := (plainB_B hF).trans hC
      go_wp2_with fail
      refine (hasCh_calls g1).mono ?_
      rintro e w3 ⟨he, b3⟩
      rw [hC] at he
      subst he
      have hb3 := (b3.block (w.heap.size + 1) (by omega)).trans hb2
      have hz3 := b3.size
      obtain ⟨z0, z1, z2, z3, z4, z5, z6, z7⟩ := cells8 (cellsAt hb3)
      have hfz := fun j => frozen_of_row _ (w.heap.size + 1) j _ _ hb3
      have t3 := t1.step b3
      clear o1 CX1 hb0 hb1 hb2 hb3 b1 y0 y1 y2 y3 y4 y5 y6 y7 hC
      go_wp2
      exact bodyPost_ret (v := .tuple #[.agg #[.int .i64 0, .slice none 0 0, .slice none 0 0, .bool false, .slice none 0 0, .slice none 0 0, .slice none 0 0, .slice none 0 0], .bool false])
        (by simp [results, Tryz.results75, go_sem, z0, z1, z2, z3, z4, z5, z6, z7]) rfl ⟨_, by rw [hP.out], by rw [plainP_no hP.out]; exact own_zero _ _, by
        repeat (refine Below.setCell ?_ (by simp; try omega) _)
        exact t3⟩
    · have hP : Hid (plainB p = true) := (plainB_B hF).trans hC
      go_wp2_with fail
      refine (hasCh_calls g1).mono ?_
      rintro e w3 ⟨he, b3⟩
      rw [hC] at he
      subst he
      have hb3 := (b3.block (w.heap.size + 1) (by omega)).trans hb2
      have hz3 := b3.size
      obtain ⟨z0, z1, z2, z3, z4, z5, z6, z7⟩ := cells8 (cellsAt hb3)
      have hfz := fun j => frozen_of_row _ (w.heap.size + 1) j _ _ hb3
      have t3 := t1.step b3
      have o3 := Lib.hid (o1.later b3)
      obtain ⟨v0, v1, v2, v3, v4, v5, v6, v7⟩ := cells8 (CX1.later b3)
      clear o1 CX1 hb0 hb1 hb2 hb3 b1 y0 y1 y2 y3 y4 y5 y6 y7 hC
      go_wp2
      refine bodyPost_ret (v := .tuple #[.agg #[.int .i64 (foldD p).atoms, x1, x2, x3, x4, x5, x6, x7], .bool true])
        (by simp [results, Tryz.results75, go_sem, z0, z1, z2, z3, z4, z5, z6, z7]) rfl ⟨_, by rw [hP.out], ?_, ?_⟩
      · rw [plainP_yes hP.out]
        exact (o3.out.putB (g := w.heap.size + 1) (by omega) 0 [.int .i64 (foldD p).atoms, x1, x2, x3, x4, x5, x6, x7]).mono (by omega)
      · exact t3.trans ((put_chg (w.heap.size + 1) [.int .i64 (foldD p).atoms, x1, x2, x3, x4, x5, x6, x7] _ 0).below fun g hg => by simp at hg; omega)

theorem step_calls {cs : List Value} {p : ProgD} {w : World} {B m : Nat} (hB : Cells w B 0 cs) (h : Rd.R w cs p) (hok : ∀ r ∈ p.rules, ruleOkB r 12 = true) (hm : m < 4096) :
    Calls Tryz.prog 142 #[.int .u16 (m : Int), .pointer (some ⟨B, 0, none⟩)] w fun e w' => ∃ m1 m2 : Nat, e = .returned (.tuple #[.int .u16 (m1 : Int), .int .u16 (m2 : Int)]) ∧ (m1 < 4096 ∧ mset m1 = leastL p.rules (leastL p.rules (mset m) false) false) ∧ (m2 < 4096 ∧ mset m2 = leastL p.rules (mset m) false) ∧ Below w.heap.size w w' := by
  obtain ⟨e0, e1, e2, e3, e4, e5, e6, e7, rfl⟩ := list8 (Rd.len h)
  obtain ⟨y0, y1, y2, y3, y4, y5, y6, y7⟩ := cells8 hB
  have h1 := leastP_calls (mset m) h hok
  rw [mask_mset hm] at h1
  have H1 := Lib.hid h1
  have HOK := Lib.hid hok
  clear h1 hok
  go_enter Tryz.func142, Tryz.ntmps142
  go_wp2_with fail
  refine H1.out.mono ?_
  rintro e w1 ⟨m2, rfl, ⟨hm2, hl2⟩, b1⟩
  have h2 := leastP_calls (mset m2) (Rd.mono b1 h) HOK.out
  rw [mask_mset hm2] at h2
  have H2 := Lib.hid h2
  have HL2 := Lib.hid hl2
  clear h2 hl2 y0 y1 y2 y3 y4 y5 y6 y7
  obtain ⟨y0, y1, y2, y3, y4, y5, y6, y7⟩ := cells8 (hB.later b1)
  go_wp2_with fail
  refine H2.out.mono ?_
  rintro e w2 ⟨m1, rfl, ⟨hm1, hl1⟩, b2⟩
  rw [HL2.out] at hl1
  have HL1 := Lib.hid hl1
  clear hl1
  go_wp2
  go_ret2
  exact ⟨m1, m2, rfl, ⟨hm1, HL1.out⟩, ⟨hm2, HL2.out⟩, b1.step b2⟩

theorem mset_inj {a b : Nat} (ha : a < 4096) (hb : b < 4096) (h : mset a = mset b) : a = b := by
  rw [← mask_mset ha, ← mask_mset hb, h]

set_option maxHeartbeats 2000000 in
theorem wellP_calls {cs : List Value} {q : ProgD} {w : World} (h : Rd.R w cs q) (hok : ∀ r ∈ q.rules, ruleOkB r 12 = true) (hch : ∀ r ∈ q.rules, r.choice = false) :
    Calls Tryz.prog 76 #[.agg cs.toArray] w fun e w' => ∃ m1 m2 : Nat, e = .returned (.tuple #[.int .u16 (m1 : Int), .int .u16 (m2 : Int)]) ∧ (m1 < 4096 ∧ mset m1 = wfT q.rules) ∧ (m2 < 4096 ∧ mset m2 = wfF q.rules) ∧ Below w.heap.size w w' := by
  have hmf : ∀ (fn : Fn) (first cap : Array Value) (w : World), (Instr.makeFunc fn first cap).run Tryz.prog w = .ok (.func fn first cap) w := fun _ _ _ _ => rfl
  have HW := Lib.hid (wts_ok hok)
  have HOK := Lib.hid hok
  have HCH := Lib.hid hch
  clear hok hch
  obtain ⟨e0, e1, e2, e3, e4, e5, e6, e7, rfl⟩ := list8 (Rd.len h)
  have t0 : Below w.heap.size w (w.alloc (.cells #[e0, e1, e2, e3, e4, e5, e6, e7] 37)) := (Below.refl _ _).alloc (by simp) _
  have CX := Lib.hid (Cells.new w [e0, e1, e2, e3, e4, e5, e6, e7] 37)
  have R0 := Rd.mono t0 h
  have hza : w.heap.size < (w.alloc (.cells #[e0, e1, e2, e3, e4, e5, e6, e7] 37)).heap.size := by simp
  go_enter Tryz.func76, Tryz.ntmps76
  go_wp2
  generalize w.alloc (.cells #[e0, e1, e2, e3, e4, e5, e6, e7] 37) = wa at *
  go_loopw [2] (fun s wr => ∃ n m : Nat, s = .int .u16 (m : Int) ∧ m < 4096 ∧ mset m = wfIt q.rules n ∧ n ≤ (wfIt q.rules n).length ∧ Below wa.heap.size wa wr) (fun s _ => 13 - (mset (natOf s)).length)
  case atStart => exact ⟨0, 0, rfl, by omega, mset_zero, Nat.zero_le _, Below.refl _ _⟩
  case round =>
    obtain ⟨n, m, rfl, hm, hl, hn, hb⟩ := hrel
    have HL := Lib.hid hl
    have HN := Lib.hid hn
    clear hl hn
    go_wp2_with (go_at_call 142; refine (step_calls (CX.out.later hb) (Rd.mono hb R0) HOK.out hm).mono ?_; rintro e w2 ⟨m1, m2, rfl, ⟨hm1, hl1⟩, ⟨hm2, hl2⟩, b2⟩)
    · rename_i h9
      have hq : m1 = m := by have := eq_of_beq h9; omega
      have HL1 := Lib.hid (hl1.trans (by rw [HL.out]; rfl : _ = wfIt q.rules (n + 1)))
      have HL2 := Lib.hid (hl2.trans (by rw [HL.out] : _ = leastL q.rules (wfIt q.rules n) false))
      clear hl1 hl2 h9
      subst hq
      have hE := Lib.hid (wfIt_end (rs := q.rules) (n := n) (by have := HN.out; have := (wfIt_isP (rs := q.rules) n).le; omega) (HL1.out.symm.trans HL.out))
      try go_wp2
      go_ret2
      refine ⟨m1, m2, rfl, ⟨hm1, HL.out.trans hE.out⟩, ⟨hm2, ?_⟩, t0.step (hb.step b2)⟩
      rw [HL2.out]; unfold wfF; rw [hE.out]
    · rename_i h9
      have hq : m1 ≠ m := fun e => by subst e; simp at h9
      have HL1 := Lib.hid (hl1.trans (by rw [HL.out]; rfl : _ = wfIt q.rules (n + 1)))
      have hne : wfIt q.rules (n + 1) ≠ wfIt q.rules n := fun e => hq (mset_inj hm1 hm ((HL1.out.trans e).trans HL.out.symm))
      have hM := wfIt_more HW.out HCH.out HN.out hne
      have hl12 := mset_len m1
      have HM1 : (mset m).length < (mset m1).length := by rw [HL.out, HL1.out]; exact hM.2
      clear hq hne h9
      refine ⟨⟨n + 1, m1, rfl, hm1, HL1.out, hM.1, hb.step b2⟩, ?_⟩
      simp [natOf]; omega


set_option maxHeartbeats 1000000 in
theorem implWellFounded_calls {cs : List Value} {p : ProgD} {w : World} (h : Rd.R w cs p) :
    Calls Tryz.prog 16 #[.agg cs.toArray] w fun e w' => ∃ u1 u2 M, e = .returned (.tuple #[u1, u2, .bool (plainB p)]) ∧ OwnIn w.heap.size M w' [u1] (wfTR p) ∧ Own M w' [u2] (wfFR p) ∧ w.heap.size ≤ M ∧ Below w.heap.size w w' := by
  obtain ⟨p0, p1, p2, p3, p4, p5, p6, p7, rfl⟩ := list8 (Rd.len h)
  have t0 : Below w.heap.size w (w.alloc (.cells #[p0, p1, p2, p3, p4, p5, p6, p7] 37)) := (Below.refl _ _).alloc (by simp) _
  go_enter Tryz.func16, Tryz.ntmps16
  go_wp2_with fail
  refine (plain_calls (Rd.mono t0 h)).mono ?_
  rintro e w1 ⟨cs1, he, o1, b1⟩
  cases hP : plainB p
  · have HPB := Lib.hid hP
    have hv1 := Lib.hid (wfTR_no hP)
    have hv2 := Lib.hid (wfFR_no hP)
    rw [hP] at he
    subst he
    have t1 := t0.step b1
    have l1 := Rd.one o1.rd
    obtain ⟨x0, x1, x2, x3, x4, x5, x6, x7, rfl⟩ := list8 (Rd.len o1.rd)
    have st0 := sto Tryz.prog (l1 x0 (by simp))
    have st1 := sto Tryz.prog (l1 x1 (by simp))
    have st2 := sto Tryz.prog (l1 x2 (by simp))
    have st3 := sto Tryz.prog (l1 x3 (by simp))
    have st4 := sto Tryz.prog (l1 x4 (by simp))
    have st5 := sto Tryz.prog (l1 x5 (by simp))
    have st6 := sto Tryz.prog (l1 x6 (by simp))
    have st7 := sto Tryz.prog (l1 x7 (by simp))
    have o1 := o1.alloc (.cells #[x0, x1, x2, x3, x4, x5, x6, x7] 37)
    have CX1 := Cells.new w1 [x0, x1, x2, x3, x4, x5, x6, x7] 37
    have t1 := t1.alloc t1.size (.cells #[x0, x1, x2, x3, x4, x5, x6, x7] 37)
    clear l1
    go_wp2
    refine bodyPost_ret (v := .tuple #[.slice none 0 0, .slice none 0 0, .bool false]) (by simp [results, Tryz.results16, go_sem]) rfl ?_
    refine ⟨_, _, w.heap.size, by rw [HPB.out], ?_, ?_, Nat.le_refl _, t1⟩
    · rw [hv1.out]; exact ⟨[], ⟨_, _, rfl, by simp, by simp, .inl ⟨rfl, rfl⟩⟩, by simp⟩
    · rw [hv2.out]; exact (OwnI.nil _ _).own
  · have HPB := Lib.hid hP
    have hv1 := Lib.hid (wfTR_yes hP)
    have hv2 := Lib.hid (wfFR_yes hP)
    have hF := plainB_fold hP
    have hok : progOkB (foldD p) = true := foldR_ok hF
    have hr12 := Lib.hid (rules12 hok)
    have HCH := Lib.hid (plainB_ch hP)
    rw [hP] at he
    rw [plainP_yes hP] at o1
    subst he
    have t1 := t0.step b1
    have l1 := Rd.one o1.rd
    obtain ⟨x0, x1, x2, x3, x4, x5, x6, x7, rfl⟩ := list8 (Rd.len o1.rd)
    have st0 := sto Tryz.prog (l1 x0 (by simp))
    have st1 := sto Tryz.prog (l1 x1 (by simp))
    have st2 := sto Tryz.prog (l1 x2 (by simp))
    have st3 := sto Tryz.prog (l1 x3 (by simp))
    have st4 := sto Tryz.prog (l1 x4 (by simp))
    have st5 := sto Tryz.prog (l1 x5 (by simp))
    have st6 := sto Tryz.prog (l1 x6 (by simp))
    have st7 := sto Tryz.prog (l1 x7 (by simp))
    have o1 := o1.alloc (.cells #[x0, x1, x2, x3, x4, x5, x6, x7] 37)
    have CX1 := Cells.new w1 [x0, x1, x2, x3, x4, x5, x6, x7] 37
    have t1 := t1.alloc t1.size (.cells #[x0, x1, x2, x3, x4, x5, x6, x7] 37)
    clear l1
    obtain ⟨y0, y1, y2, y3, y4, y5, y6, y7⟩ := cells8 CX1
    go_wp2_with fail
    refine (wellP_calls o1.rd hr12.out HCH.out).mono ?_
    rintro e w2 ⟨m1, m2, rfl, ⟨hm1, hl1⟩, ⟨hm2, hl2⟩, b2⟩
    have HL1 := Lib.hid hl1
    have HL2 := Lib.hid hl2
    have t2 := t1.step b2
    clear hl1 hl2 y0 y1 y2 y3 y4 y5 y6 y7
    go_wp2_with fail
    refine (list_calls m1 _ hm1).mono ?_
    rintro e w3 ⟨u1, rfl, o3, b3⟩
    go_wp2_with fail
    refine (list_calls m2 _ hm2).mono ?_
    rintro e w4 ⟨u2, rfl, o4, b4⟩
    have hz := t2.size
    have hz3 := b3.size
    go_wp2
    refine bodyPost_ret (v := .tuple #[u1, u2, .bool true]) (by simp [results, Tryz.results16, go_sem]) rfl ?_
    refine ⟨_, _, w3.heap.size, by rw [HPB.out], ?_, ?_, by omega, (t2.step b3).step b4⟩
    · rw [hv1.out, ← HL1.out]; exact ((o3.own.shut).later b4).mono hz (Nat.le_refl _)
    · rw [hv2.out, ← HL2.out]; exact o4.own

theorem implSettled_calls {cs : List Value} {p : ProgD} {w : World} (h : Rd.R w cs p) :
    Calls Tryz.prog 23 #[.agg cs.toArray] w fun e w' => e = .returned (.bool (setlB p)) ∧ Below w.heap.size w w' := by
  obtain ⟨p0, p1, p2, p3, p4, p5, p6, p7, rfl⟩ := list8 (Rd.len h)
  have t0 : Below w.heap.size w (w.alloc (.cells #[p0, p1, p2, p3, p4, p5, p6, p7] 37)) := (Below.refl _ _).alloc (by simp) _
  go_enter Tryz.func23, Tryz.ntmps23
  go_wp2_with fail
  refine (plain_calls (Rd.mono t0 h)).mono ?_
  rintro e w1 ⟨cs1, he, o1, b1⟩
  cases hP : plainB p
  · have hv := Lib.hid (setlB_no hP)
    rw [hP] at he
    subst he
    have t1 := t0.step b1
    have l1 := Rd.one o1.rd
    obtain ⟨x0, x1, x2, x3, x4, x5, x6, x7, rfl⟩ := list8 (Rd.len o1.rd)
    have st0 := sto Tryz.prog (l1 x0 (by simp))
    have st1 := sto Tryz.prog (l1 x1 (by simp))
    have st2 := sto Tryz.prog (l1 x2 (by simp))
    have st3 := sto Tryz.prog (l1 x3 (by simp))
    have st4 := sto Tryz.prog (l1 x4 (by simp))
    have st5 := sto Tryz.prog (l1 x5 (by simp))
    have st6 := sto Tryz.prog (l1 x6 (by simp))
    have st7 := sto Tryz.prog (l1 x7 (by simp))
    have o1 := o1.alloc (.cells #[x0, x1, x2, x3, x4, x5, x6, x7] 37)
    have CX1 := Cells.new w1 [x0, x1, x2, x3, x4, x5, x6, x7] 37
    have t1 := t1.alloc t1.size (.cells #[x0, x1, x2, x3, x4, x5, x6, x7] 37)
    clear l1
    go_wp2
    go_ret
    exact ⟨ret_bool hv.out.symm, t1⟩
  · have hv := Lib.hid (setlB_yes hP)
    have hF := plainB_fold hP
    have hok : progOkB (foldD p) = true := foldR_ok hF
    have hr12 := Lib.hid (rules12 hok)
    have HCH := Lib.hid (plainB_ch hP)
    rw [hP] at he
    rw [plainP_yes hP] at o1
    subst he
    have t1 := t0.step b1
    have l1 := Rd.one o1.rd
    obtain ⟨x0, x1, x2, x3, x4, x5, x6, x7, rfl⟩ := list8 (Rd.len o1.rd)
    have st0 := sto Tryz.prog (l1 x0 (by simp))
    have st1 := sto Tryz.prog (l1 x1 (by simp))
    have st2 := sto Tryz.prog (l1 x2 (by simp))
    have st3 := sto Tryz.prog (l1 x3 (by simp))
    have st4 := sto Tryz.prog (l1 x4 (by simp))
    have st5 := sto Tryz.prog (l1 x5 (by simp))
    have st6 := sto Tryz.prog (l1 x6 (by simp))
    have st7 := sto Tryz.prog (l1 x7 (by simp))
    have o1 := o1.alloc (.cells #[x0, x1, x2, x3, x4, x5, x6, x7] 37)
    have CX1 := Cells.new w1 [x0, x1, x2, x3, x4, x5, x6, x7] 37
    have t1 := t1.alloc t1.size (.cells #[x0, x1, x2, x3, x4, x5, x6, x7] 37)
    clear l1
    obtain ⟨y0, y1, y2, y3, y4, y5, y6, y7⟩ := cells8 CX1
    go_wp2_with fail
    refine (wellP_calls o1.rd hr12.out HCH.out).mono ?_
    rintro e w2 ⟨m1, m2, rfl, ⟨hm1, hl1⟩, ⟨hm2, hl2⟩, b2⟩
    have HL1 := Lib.hid hl1
    have HL2 := Lib.hid hl2
    have t2 := t1.step b2
    clear hl1 hl2 y0 y1 y2 y3 y4 y5 y6 y7
    have hE : ((m1 : Int) == (m2 : Int)) = decide (wfT (foldD p).rules = wfF (foldD p).rules) := by
      rw [← HL1.out, ← HL2.out, Bool.eq_iff_iff]
      simp only [beq_iff_eq, decide_eq_true_eq]
      exact ⟨fun e => by have e : m1 = m2 := by omega
                         rw [e], fun e => by rw [mset_inj hm1 hm2 e]⟩
    have HE := Lib.hid hE
    clear hE
    go_wp2
    go_ret
    exact ⟨ret_bool (by first | exact HE.out.trans hv.out.symm | (rw [hv.out, ← HE.out])), t2⟩

end Go.Proofs.YtfjcmnnddhomjaaGreat
