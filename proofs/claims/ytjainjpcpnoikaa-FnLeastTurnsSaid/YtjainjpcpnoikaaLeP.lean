/-
  Least (and Base): what the program answers; Plain: what spec answers. No condition of its own.
-/
import Derived.Test.YtjainjpcpnoikaaAnsI
import Derived.Test.YtjainjpcpnoikaaAnsS
import Derived.Test.YtjainjpcpnoikaaSeq
namespace Go.Proofs.Ytjainjpcpnoikaa
set_option linter.unusedVariables false
set_option linter.unusedSimpArgs false
open Go.RowKit
set_option maxRecDepth 100000


set_option maxHeartbeats 2000000 in
theorem implLeast_calls {cs : List Value} {p : ProgD} {w : World} {v : Value} {xs : List Int} (h : Rd.R w cs p) (gx : RdL w [v] xs) :
    Calls Try.prog 32 #[.agg cs.toArray, v] w fun e w' => ∃ u, e = .returned u ∧ OwnI w.heap.size w' u (leastR p xs false) ∧ Below w.heap.size w w' := by
  obtain ⟨p0, p1, p2, p3, p4, p5, p6, p7, rfl⟩ := list8 (Rd.len h)
  obtain ⟨ax, cx, rfl, _, hx⟩ := gx.sl
  have t0 : Below w.heap.size w (w.alloc (.cells #[p0, p1, p2, p3, p4, p5, p6, p7] 36)) := (Below.refl _ _).alloc (by simp) _
  cases hF : foldB p
  · have hv := Lib.hid (leastR_no (xs := xs) (all := false) hF)
    go_enter Try.func32, Try.ntmps32
    go_wp2_with fail
    refine (implFold_calls (Rd.mono t0 h)).mono ?_
    rintro e w1 ⟨cs1, he, o1, b1⟩
    rw [hF] at he
    subst he
    have t1 := t0.step b1
    have l1 := Rd.one o1.rd
    obtain ⟨x0, x1, x2, x3, x4, x5, x6, x7, rfl⟩ := list8 (Rd.len o1.rd)
    have st0 := sto Try.prog (l1 x0 (by simp))
    have st1 := sto Try.prog (l1 x1 (by simp))
    have st2 := sto Try.prog (l1 x2 (by simp))
    have st3 := sto Try.prog (l1 x3 (by simp))
    have st4 := sto Try.prog (l1 x4 (by simp))
    have st5 := sto Try.prog (l1 x5 (by simp))
    have st6 := sto Try.prog (l1 x6 (by simp))
    have st7 := sto Try.prog (l1 x7 (by simp))
    have o1 := o1.alloc (.cells #[x0, x1, x2, x3, x4, x5, x6, x7] 36)
    have CX1 := Cells.new w1 [x0, x1, x2, x3, x4, x5, x6, x7] 36
    have t1 := t1.alloc t1.size (.cells #[x0, x1, x2, x3, x4, x5, x6, x7] 36)
    clear l1
    go_wp2
    go_ret
    exact ⟨_, rfl, by rw [hv.out]; exact OwnI.nil _ _, t1⟩
  · have hv := Lib.hid (leastR_yes (xs := xs) (all := false) hF)
    have hok : progOkB (foldD p) = true := foldR_ok hF
    have hr12 := Lib.hid (rules12 hok)
    go_enter Try.func32, Try.ntmps32
    go_wp2_with fail
    refine (implFold_calls (Rd.mono t0 h)).mono ?_
    rintro e w1 ⟨cs1, he, o1, b1⟩
    rw [hF] at he
    rw [foldR_yes hF] at o1
    subst he
    have t1 := t0.step b1
    have l1 := Rd.one o1.rd
    obtain ⟨x0, x1, x2, x3, x4, x5, x6, x7, rfl⟩ := list8 (Rd.len o1.rd)
    have st0 := sto Try.prog (l1 x0 (by simp))
    have st1 := sto Try.prog (l1 x1 (by simp))
    have st2 := sto Try.prog (l1 x2 (by simp))
    have st3 := sto Try.prog (l1 x3 (by simp))
    have st4 := sto Try.prog (l1 x4 (by simp))
    have st5 := sto Try.prog (l1 x5 (by simp))
    have st6 := sto Try.prog (l1 x6 (by simp))
    have st7 := sto Try.prog (l1 x7 (by simp))
    have o1 := o1.alloc (.cells #[x0, x1, x2, x3, x4, x5, x6, x7] 36)
    have CX1 := Cells.new w1 [x0, x1, x2, x3, x4, x5, x6, x7] 36
    have t1 := t1.alloc t1.size (.cells #[x0, x1, x2, x3, x4, x5, x6, x7] 36)
    clear l1
    go_wp2
    go_region_held3 (fun w' => w'.cell? ⟨w1.heap.size, 0, none⟩ = some x0 ∧ w'.cell? ⟨w1.heap.size, 1, none⟩ = some x1 ∧ w'.cell? ⟨w1.heap.size, 2, none⟩ = some x2 ∧ w'.cell? ⟨w1.heap.size, 3, none⟩ = some x3 ∧ w'.cell? ⟨w1.heap.size, 4, none⟩ = some x4 ∧ w'.cell? ⟨w1.heap.size, 5, none⟩ = some x5 ∧ w'.cell? ⟨w1.heap.size, 6, none⟩ = some x6 ∧ w'.cell? ⟨w1.heap.size, 7, none⟩ = some x7)
      (first | exact cells8 CX1 | exact cells8 CX1.drew | exact cells8 (CX1.drew.later b2) | exact cells8 ((CX1.drew.later b2).later b3))
      (first | (go_at_call 57; refine (atomsIn_calls _ _ _ _ (hx.later t1.drew).ints).mono ?_; rintro e w' ⟨rfl, rfl⟩) | (go_at_call 72; refine (leastP_calls xs o1.drew.rd hr12.out).mono ?_; rintro e w2 ⟨m, rfl, ⟨hm, hl⟩, b2⟩) |
        (go_at_call 60; refine (list_calls m _ hm).mono ?_; rintro e w3 ⟨u, rfl, o3, b3⟩))
    go_wp2
    go_ret
    exact ⟨_, rfl, by rw [hv.out, ← hl]; exact o3.mono (t1.drew.step b2).size, (t1.drew.step b2).step b3⟩


def noCh (r : RuleD) : Bool := !r.choice
def plainB (p : ProgD) : Bool := foldB p && (foldD p).rules.all noCh
theorem plainB_A {p : ProgD} (h : foldB p = false) : plainB p = false := by simp only [plainB, h, Bool.false_and]
theorem plainB_B {p : ProgD} (h : foldB p = true) : plainB p = (foldD p).rules.all noCh := by simp only [plainB, h, Bool.true_and]
theorem plainB_fold {p : ProgD} (h : plainB p = true) : foldB p = true := by
  unfold plainB at h
  cases hf : foldB p
  · rw [hf] at h; cases h
  · rfl
theorem plainB_ch {p : ProgD} (h : plainB p = true) : ∀ r ∈ (foldD p).rules, r.choice = false := by
  rw [plainB_B (plainB_fold h), List.all_eq_true] at h
  intro r hr
  have := h r hr
  simpa [noCh] using this


theorem allCh_noS {rs : List RuleD} {k : Nat} (h : k < rs.length) (hc : (nth rs k).choice = true) : rs.all noCh = false := by
  rw [List.all_eq_false]
  exact ⟨_, nth_mem h, by simp [noCh, hc]⟩
theorem allCh_yesS {rs : List RuleD} (h : ∀ j, j < rs.length → (nth rs j).choice = false) : rs.all noCh = true := by
  rw [List.all_eq_true]
  intro r hr
  obtain ⟨i, hi, rfl⟩ := List.getElem_of_mem hr
  rw [← nth_eq hi]
  simp [noCh, h i hi]
theorem plainB_R {p : ProgD} {b : Bool} (hb : foldB p = b) : plainB p = (b && (foldR p).rules.all noCh) := by
  subst hb
  cases h : foldB p
  · rw [plainB_A h]; rfl
  · rw [plainB_B h, foldR_yes h, Bool.true_and]

set_option maxHeartbeats 1000000 in
theorem specPlain_calls {cs : List Value} {p : ProgD} {w : World} (h : Rd.R w cs p) :
    Calls Try.prog 34 #[.agg cs.toArray] w fun e w' => e = .returned (.bool (plainB p)) ∧ Below w.heap.size w w' := by
  obtain ⟨p0, p1, p2, p3, p4, p5, p6, p7, rfl⟩ := list8 (Rd.len h)
  have t0 : Below w.heap.size w (w.alloc (.cells #[p0, p1, p2, p3, p4, p5, p6, p7] 36)) := (Below.refl _ _).alloc (by simp) _
  go_enter Try.func34, Try.ntmps34
  go_wp2_with fail
  refine (specFold_calls (Rd.mono t0 h)).mono ?_
  rintro e w1 ⟨cs1, he, o1, b1⟩
  obtain ⟨fb, hfb⟩ : ∃ fb, foldB p = fb := ⟨_, rfl⟩
  have HP := Lib.hid (plainB_R hfb)
  rw [hfb] at he
  subst he
  clear hfb
  obtain ⟨R, hR⟩ : ∃ R, R = foldR p := ⟨_, rfl⟩
  rw [← hR] at o1 HP
  clear hR
  have t1 := t0.step b1
  have l1 := Rd.one o1.rd
  obtain ⟨x0, x1, x2, x3, x4, x5, x6, x7, rfl⟩ := list8 (Rd.len o1.rd)
  have st0 := sto Try.prog (l1 x0 (by simp))
  have st1 := sto Try.prog (l1 x1 (by simp))
  have st2 := sto Try.prog (l1 x2 (by simp))
  have st3 := sto Try.prog (l1 x3 (by simp))
  have st4 := sto Try.prog (l1 x4 (by simp))
  have st5 := sto Try.prog (l1 x5 (by simp))
  have st6 := sto Try.prog (l1 x6 (by simp))
  have st7 := sto Try.prog (l1 x7 (by simp))
  have o1 := o1.alloc (.cells #[x0, x1, x2, x3, x4, x5, x6, x7] 36)
  have CX1 := Cells.new w1 [x0, x1, x2, x3, x4, x5, x6, x7] 36
  have t1 := t1.alloc t1.size (.cells #[x0, x1, x2, x3, x4, x5, x6, x7] 36)
  clear l1
  have oR := o1.rd
  obtain ⟨_, _, _, _, _, _, hl, hfa, g1, _⟩ := oR
  simp only [List.cons.injEq, and_true] at hl
  obtain ⟨rfl, rfl, -⟩ := hl
  obtain ⟨a1, k1, rfl, _, h1⟩ := g1.sl
  have hm1 := h1.1
  have CXH := Lib.hid CX1
  have hzw : w1.heap.size < (w1.alloc (.cells #[.int .i64 (R).atoms, .slice a1 (R).rules.length k1, x2, x3, x4, x5, x6, x7] 36)).heap.size := by simp
  generalize hwa : w1.alloc (.cells #[.int .i64 (R).atoms, .slice a1 (R).rules.length k1, x2, x3, x4, x5, x6, x7] 36) = wa at *
  go_wp2
  try rw [hwa]
  clear st0 st1 st2 st3 st4 st5 st6 st7
  go_loopw [5] (fun i wr => ∃ k : Nat, k ≤ R.rules.length ∧ i = .int .i64 k ∧ (∀ j, j < k → (nth R.rules j).choice = false) ∧ Below wa.heap.size wa wr) (fun i _ => R.rules.length - (intOf i).toNat)
  case atStart => exact ⟨0, Nat.zero_le _, rfl, fun j hj => absurd hj (Nat.not_lt_zero _), Below.refl _ _⟩
  case round =>
    obtain ⟨k, hk, rfl, hA, hb⟩ := hrel
    have HA := Lib.hid hA
    clear hA
    obtain ⟨y0, y1, y2, y3, y4, y5, y6, y7⟩ := cells8 (CXH.out.later hb)
    by_cases hlt : k < R.rules.length
    · obtain ⟨b, off, rfl, hc⟩ := h1.base (by omega)
      obtain ⟨ecs, hC, hR⟩ := hc k hlt
      have hC := hC.later hb
      have hR := Rd.mono hb hR
      have hR0 := hR
      obtain ⟨d1, d4, rfl, hf', r1, r4⟩ := hR0
      have u0 := hC.c0
      rw [show Rd.k RuleD = 5 from rfl] at u0
      clear hC hc h1 r1 r4 hR
      cases hch : (nth R.rules k).choice
      · have hN := Lib.hid hch
        rw [hch] at u0
        clear hch
        go_wp2
        go_roundw
        case rel => exact ⟨k + 1, by omega, by go_num, fun j hj => by
          rcases Nat.lt_succ_iff_lt_or_eq.1 hj with h | h
          · exact HA.out j h
          · subst h; exact hN.out, hb⟩
        case measure => simp [intOf]; omega
      · have hN := Lib.hid hch
        rw [hch] at u0
        clear hch
        go_wp2
        go_ret
        exact ⟨ret_bool (by rw [HP.out, allCh_noS hlt hN.out, Bool.and_false]), t1.step hb⟩
    · obtain rfl : k = R.rules.length := by omega
      go_wp2
      go_ret
      exact ⟨ret_bool (by rw [HP.out, allCh_yesS HA.out, Bool.and_true]), t1.step hb⟩

end Go.Proofs.Ytjainjpcpnoikaa
