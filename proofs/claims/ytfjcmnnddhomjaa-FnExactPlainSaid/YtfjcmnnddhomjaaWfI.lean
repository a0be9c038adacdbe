/-
  The well-founded part: what the program answers. No condition of its own.
-/
import Derived.Test.YtfjcmnnddhomjaaAnsL
import Derived.Test.YtfjcmnnddhomjaaWfD
import Derived.Test.YtfjcmnnddhomjaaBothI
namespace Go.Proofs.Ytfjcmnnddhomjaa
set_option linter.unusedVariables false
set_option linter.unusedSimpArgs false
open Go.RowKit
set_option maxRecDepth 100000


theorem Own.putB {α : Type} [Ow α] {lo : Nat} {w : World} {cs : List Value} {x : α} (h : Own lo w cs x) {g : Nat} (hg : g < lo) (o : Nat) (vs : List Value) : Own lo (put w g o vs) cs x := by
  obtain ⟨fp, h, hl⟩ := h
  exact ⟨fp, Ow.kept h fun b hb => (put_chg g vs w o).block b (by have := hl b hb; simp; omega), hl⟩
theorem cellsAt {W : World} {b : Nat} {cs : List Value} {t : TypeId} (h : W.heap[b]? = some (.cells cs.toArray t (0, 0))) : Cells W b 0 cs := fun j v hv => by
  rw [Nat.zero_add, cell_of_row W b j _ _ _ h]; simpa using hv
theorem allCh_no {rs : List RuleD} {k : Nat} (h : k < rs.length) (hc : (nth rs k).choice = true) : rs.all noCh = false := by
  rw [List.all_eq_false]
  exact ⟨_, nth_mem h, by simp [noCh, hc]⟩
theorem allCh_yes {rs : List RuleD} (h : ∀ j, j < rs.length → (nth rs j).choice = false) : rs.all noCh = true := by
  rw [List.all_eq_true]
  intro r hr
  obtain ⟨i, hi, rfl⟩ := List.getElem_of_mem hr
  rw [← nth_eq hi]
  simp [noCh, h i hi]

theorem choice_calls {cs : List Value} {r : RuleD} {w : World} (h : Rd.R w cs r) :
    Calls Try.prog 56 #[.agg cs.toArray] w fun e w' => e = .returned (.bool r.choice) ∧ Below w.heap.size w w' := by
  obtain ⟨d1, d4, rfl, hf', r1, r4⟩ := h
  have so1 := sto Try.prog r1.one1
  have so4 := sto Try.prog r4.one1
  have t0 : Below w.heap.size w (w.alloc (.cells #[.bool r.choice, d1, .bool r.weight, .int .i64 r.bound, d4] 58)) := (Below.refl _ _).alloc (Nat.le_refl _) _
  clear r1 r4
  go_enter Try.func56, Try.ntmps56
  go_wp2
  go_ret
  exact ⟨rfl, t0⟩

set_option maxHeartbeats 1000000 in
theorem indexCh_calls {w : World} {v : Value} {rs : List RuleD} (h : RdL w [v] rs) :
    Calls Try.prog 85 #[v, .func (.func 56) #[] #[]] w fun e w' => ∃ i : Int, e = .returned (.int .i64 i) ∧ decide (0 ≤ i) = !rs.all noCh ∧ Below w.heap.size w w' := by
  obtain ⟨a1, k1, rfl, _, h1⟩ := h.sl
  have hm1 := h1.1
  go_enter Try.func85, Try.ntmps85
  go_wp2
  go_loopw [5, 8] (fun _ i wr => ∃ k : Nat, k ≤ rs.length ∧ i = .int .i64 k ∧ (∀ j, j < k → (nth rs j).choice = false) ∧ Below w.heap.size w wr) (fun _ i _ => rs.length - (intOf i).toNat)
  case atStart => exact ⟨0, Nat.zero_le _, rfl, fun j hj => absurd hj (Nat.not_lt_zero _), Below.refl _ _⟩
  case round =>
    obtain ⟨k, hk, rfl, hA, hb⟩ := hrel
    have HA := Lib.hid hA
    clear hA
    by_cases hlt : k < rs.length
    · obtain ⟨b, off, rfl, hc⟩ := h1.base (by omega)
      obtain ⟨ecs, hC, hR⟩ := hc k hlt
      have hC := hC.later hb
      have hR := Rd.mono hb hR
      have hR0 := hR
      obtain ⟨d1, d4, rfl, hf', r1, r4⟩ := hR0
      have so1 := sto Try.prog r1.one1
      have so4 := sto Try.prog r4.one1
      have u0 := hC.c0
      have u1 := hC.c1
      have u2 := hC.c2
      have u3 := hC.c3
      have u4 := hC.c4
      rw [show Rd.k RuleD = 5 from rfl] at u0 u1 u2 u3 u4
      clear hC hc h1 r1 r4
      cases hch : (nth rs k).choice
      · have hN := Lib.hid hch
        clear hch
        go_wp2_with (go_at_call 56; refine (choice_calls hR).mono ?_; rintro e w' ⟨he, hb'⟩; rw [hN.out] at he; subst he)
        go_roundw
        case rel => exact ⟨k + 1, by omega, by go_num, fun j hj => by
          rcases Nat.lt_succ_iff_lt_or_eq.1 hj with h | h
          · exact HA.out j h
          · subst h; exact hN.out, hb.step hb'⟩
        case measure => simp [intOf]; omega
      · have hN := Lib.hid hch
        clear hch
        go_wp2_with (go_at_call 56; refine (choice_calls hR).mono ?_; rintro e w' ⟨he, hb'⟩; rw [hN.out] at he; subst he)
        go_ret
        exact ⟨_, rfl, by rw [allCh_no hlt hN.out]; simp, hb.step hb'⟩
    · obtain rfl : k = rs.length := by omega
      go_wp2
      go_ret
      exact ⟨_, rfl, by rw [allCh_yes HA.out]; simp, hb⟩

theorem hasCh_calls {w : World} {v : Value} {rs : List RuleD} (h : RdL w [v] rs) :
    Calls Try.prog 55 #[v, .func (.func 56) #[] #[]] w fun e w' => e = .returned (.bool (!rs.all noCh)) ∧ Below w.heap.size w w' := by
  obtain ⟨a1, k1, rfl, _, h1⟩ := h.sl
  go_enter Try.func55, Try.ntmps55
  go_wp2_with fail
  refine (indexCh_calls h).mono ?_
  rintro e w1 ⟨i, rfl, hi, b1⟩
  have HI := Lib.hid hi
  clear hi
  go_wp2
  go_ret
  exact ⟨ret_bool (by rw [← HI.out]), b1⟩

/-- What Fold makes of a program without Choice. -/
def plainP (p : ProgD) : ProgD := if plainB p then foldD p else default
theorem plainP_no {p : ProgD} (h : plainB p = false) : plainP p = default := by simp [plainP, h]
theorem plainP_yes {p : ProgD} (h : plainB p = true) : plainP p = foldD p := by simp [plainP, h]

set_option maxHeartbeats 4000000 in
theorem plain_calls {cs : List Value} {p : ProgD} {w : World} (h : Rd.R w cs p) :
    Calls Try.prog 29 #[.agg cs.toArray] w fun e w' => ∃ cs', e = .returned (.tuple #[.agg cs'.toArray, .bool (plainB p)]) ∧ Own w.heap.size w' cs' (plainP p) ∧ Below w.heap.size w w' := by
  obtain ⟨p0, p1, p2, p3, p4, p5, p6, p7, rfl⟩ := list8 (Rd.len h)
  have t0 : Below w.heap.size w ((w.alloc (.cells #[p0, p1, p2, p3, p4, p5, p6, p7] 36)).alloc (.cells #[.int .i64 0, .slice none 0 0, .slice none 0 0, .bool false, .slice none 0 0, .slice none 0 0, .slice none 0 0, .slice none 0 0] 36)) := ((Below.refl _ _).alloc (by simp) _).alloc (by simp) _
  have hb0 := alloc_block (w.alloc (.cells #[p0, p1, p2, p3, p4, p5, p6, p7] 36)) #[.int .i64 0, .slice none 0 0, .slice none 0 0, .bool false, .slice none 0 0, .slice none 0 0, .slice none 0 0, .slice none 0 0] 36
  rw [World.size_alloc] at hb0
  have hzs : ((w.alloc (.cells #[p0, p1, p2, p3, p4, p5, p6, p7] 36)).alloc (.cells #[.int .i64 0, .slice none 0 0, .slice none 0 0, .bool false, .slice none 0 0, .slice none 0 0, .slice none 0 0, .slice none 0 0] 36)).heap.size = w.heap.size + 2 := by simp
  go_enter Try.func29, Try.ntmps29
  go_wp2_with fail
  refine (implFold_calls (Rd.mono t0 h)).mono ?_
  rintro e w1 ⟨cs1, he, o1, b1⟩
  rw [hzs] at o1
  have hb1 := (b1.block (w.heap.size + 1) (by rw [hzs]; omega)).trans hb0
  have hz1 : w.heap.size + 2 ≤ w1.heap.size := by have := b1.size; omega
  cases hF : foldB p
  · have hP : Hid (plainB p = false) := plainB_A hF
    rw [hF] at he
    subst he
    have t1 := t0.step b1
    have l1 := Rd.one o1.rd
    obtain ⟨x0, x1, x2, x3, x4, x5, x6, x7, rfl⟩ := list8 (Rd.len o1.rd)
    have st0 := sto Try.prog (l1 x0 (by simp))
    have st1 := sto Try.prog (l1 x1 (by simp))
    have st2 := sto Try.prog (l1 x2 (by simp))
    have st3 := sto Try.prog (l1 x3 (by simp))
    have st4 := sto Try.prog (l1 x4 (by simp))
    have st5 := sto Try.prog (l1 x5 (by simp))
    have st6 := sto Try.prog (l1 x6 (by simp))
    have st7 := sto Try.prog (l1 x7 (by simp))
    have o1 := o1.alloc (.cells #[x0, x1, x2, x3, x4, x5, x6, x7] 36)
    have CX1 := Cells.new w1 [x0, x1, x2, x3, x4, x5, x6, x7] 36
    have t1 := t1.alloc t1.size (.cells #[x0, x1, x2, x3, x4, x5, x6, x7] 36)
    clear l1
    have hb2 := (Below.heap_alloc w1 (.cells #[x0, x1, x2, x3, x4, x5, x6, x7] 36) (w.heap.size + 1) (by omega)).trans hb1
    obtain ⟨z0, z1, z2, z3, z4, z5, z6, z7⟩ := cells8 (cellsAt hb2)
    have hfz := fun j => frozen_of_row _ (w.heap.size + 1) j _ _ hb2
    clear o1 CX1 hb0 hb1 b1
    go_wp2
    exact bodyPost_ret (v := .tuple #[.agg #[.int .i64 0, .slice none 0 0, .slice none 0 0, .bool false, .slice none 0 0, .slice none 0 0, .slice none 0 0, .slice none 0 0], .bool false])
      (by simp [results, Try.results29, go_sem, z0, z1, z2, z3, z4, z5, z6, z7]) rfl ⟨_, by rw [hP.out], by rw [plainP_no hP.out]; exact own_zero _ _, by
      repeat (refine Below.setCell ?_ (by simp; try omega) _)
      exact t1⟩
  · rw [foldR_yes hF] at o1
    rw [hF] at he
    subst he
    have t1 := t0.step b1
    have l1 := Rd.one o1.rd
    obtain ⟨x0, x1, x2, x3, x4, x5, x6, x7, rfl⟩ := list8 (Rd.len o1.rd)
    have st0 := sto Try.prog (l1 x0 (by simp))
    have st1 := sto Try.prog (l1 x1 (by simp))
    have st2 := sto Try.prog (l1 x2 (by simp))
    have st3 := sto Try.prog (l1 x3 (by simp))
    have st4 := sto Try.prog (l1 x4 (by simp))
    have st5 := sto Try.prog (l1 x5 (by simp))
    have st6 := sto Try.prog (l1 x6 (by simp))
    have st7 := sto Try.prog (l1 x7 (by simp))
    have o1 := o1.alloc (.cells #[x0, x1, x2, x3, x4, x5, x6, x7] 36)
    have CX1 := Cells.new w1 [x0, x1, x2, x3, x4, x5, x6, x7] 36
    have t1 := t1.alloc t1.size (.cells #[x0, x1, x2, x3, x4, x5, x6, x7] 36)
    clear l1
    have oR := o1.rd
    obtain ⟨_, _, _, _, _, _, hl, hfa, g1, _⟩ := oR
    simp only [List.cons.injEq, and_true] at hl
    obtain ⟨rfl, rfl, -⟩ := hl
    obtain ⟨y0, y1, y2, y3, y4, y5, y6, y7⟩ := cells8 CX1
    have hz2 := World.size_alloc w1 (.cells #[.int .i64 (foldD p).atoms, x1, x2, x3, x4, x5, x6, x7] 36)
    have hb2 := (Below.heap_alloc w1 (.cells #[.int .i64 (foldD p).atoms, x1, x2, x3, x4, x5, x6, x7] 36) (w.heap.size + 1) (by omega)).trans hb1
    cases hC : (foldD p).rules.all noCh
    · have hP : Hid (plainB p = false) := (plainB_B hF).trans hC
      go_wp2_with fail
      refine (hasCh_calls g1).mono ?_
      rintro e w3 ⟨he, b3⟩
      rw [hC] at he
      subst he
      have hb3 := (b3.block (w.heap.size + 1) (by omega)).trans hb2
      have hz3 := b3.size
      obtain ⟨z0, z1, z2, z3, z4, z5, z6, z7⟩ := cells8 (cellsAt hb3)
      have hfz := fun j => frozen_of_row _ (w.heap.size + 1) j _ _ hb3
      have t3 := t1.step b3
      clear o1 CX1 hb0 hb1 hb2 hb3 b1 y0 y1 y2 y3 y4 y5 y6 y7 hC
      go_wp2
      exact bodyPost_ret (v := .tuple #[.agg #[.int .i64 0, .slice none 0 0, .slice none 0 0, .bool false, .slice none 0 0, .slice none 0 0, .slice none 0 0, .slice none 0 0], .bool false])
        (by simp [results, Try.results29, go_sem, z0, z1, z2, z3, z4, z5, z6, z7]) rfl ⟨_, by rw [hP.out], by rw [plainP_no hP.out]; exact own_zero _ _, by
        repeat (refine Below.setCell ?_ (by simp; try omega) _)
        exact t3⟩
    · have hP : Hid (plainB p = true) := (plainB_B hF).trans hC
      go_wp2_with fail
      refine (hasCh_calls g1).mono ?_
      rintro e w3 ⟨he, b3⟩
      rw [hC] at he
      subst he
      have hb3 := (b3.block (w.heap.size + 1) (by omega)).trans hb2
      have hz3 := b3.size
      obtain ⟨z0, z1, z2, z3, z4, z5, z6, z7⟩ := cells8 (cellsAt hb3)
      have hfz := fun j => frozen_of_row _ (w.heap.size + 1) j _ _ hb3
      have t3 := t1.step b3
      have o3 := Lib.hid (o1.later b3)
      obtain ⟨v0, v1, v2, v3, v4, v5, v6, v7⟩ := cells8 (CX1.later b3)
      clear o1 CX1 hb0 hb1 hb2 hb3 b1 y0 y1 y2 y3 y4 y5 y6 y7 hC
      go_wp2
      refine bodyPost_ret (v := .tuple #[.agg #[.int .i64 (foldD p).atoms, x1, x2, x3, x4, x5, x6, x7], .bool true])
        (by simp [results, Try.results29, go_sem, z0, z1, z2, z3, z4, z5, z6, z7]) rfl ⟨_, by rw [hP.out], ?_, ?_⟩
      · rw [plainP_yes hP.out]
        exact (o3.out.putB (g := w.heap.size + 1) (by omega) 0 [.int .i64 (foldD p).atoms, x1, x2, x3, x4, x5, x6, x7]).mono (by omega)
      · exact t3.trans ((put_chg (w.heap.size + 1) [.int .i64 (foldD p).atoms, x1, x2, x3, x4, x5, x6, x7] _ 0).below fun g hg => by simp at hg; omega)

theorem mset_inj {a b : Nat} (ha : a < 4096) (hb : b < 4096) (h : mset a = mset b) : a = b := by
  rw [← mask_mset ha, ← mask_mset hb, h]

theorem implPlain_calls {cs : List Value} {p : ProgD} {w : World} (h : Rd.R w cs p) :
    Calls Try.prog 8 #[.agg cs.toArray] w fun e w' => e = .returned (.bool (plainB p)) ∧ Below w.heap.size w w' := by
  obtain ⟨p0, p1, p2, p3, p4, p5, p6, p7, rfl⟩ := list8 (Rd.len h)
  have t0 : Below w.heap.size w (w.alloc (.cells #[p0, p1, p2, p3, p4, p5, p6, p7] 36)) := (Below.refl _ _).alloc (by simp) _
  go_enter Try.func8, Try.ntmps8
  go_wp2_with fail
  refine (plain_calls (Rd.mono t0 h)).mono ?_
  rintro e w1 ⟨cs1, he, o1, b1⟩
  subst he
  have t1 := t0.step b1
  have l1 := Rd.one o1.rd
  obtain ⟨x0, x1, x2, x3, x4, x5, x6, x7, rfl⟩ := list8 (Rd.len o1.rd)
  have st0 := sto Try.prog (l1 x0 (by simp))
  have st1 := sto Try.prog (l1 x1 (by simp))
  have st2 := sto Try.prog (l1 x2 (by simp))
  have st3 := sto Try.prog (l1 x3 (by simp))
  have st4 := sto Try.prog (l1 x4 (by simp))
  have st5 := sto Try.prog (l1 x5 (by simp))
  have st6 := sto Try.prog (l1 x6 (by simp))
  have st7 := sto Try.prog (l1 x7 (by simp))
  have o1 := o1.alloc (.cells #[x0, x1, x2, x3, x4, x5, x6, x7] 36)
  have CX1 := Cells.new w1 [x0, x1, x2, x3, x4, x5, x6, x7] 36
  have t1 := t1.alloc t1.size (.cells #[x0, x1, x2, x3, x4, x5, x6, x7] 36)
  clear l1
  go_wp2
  go_ret
  exact ⟨rfl, t1⟩

end Go.Proofs.Ytfjcmnnddhomjaa
