/-
  The well-founded part: what spec answers. No condition of its own.
-/
import Derived.Test.YtfjcmnnddhomjaaAnsS
import Derived.Test.YtfjcmnnddhomjaaWfD
import Derived.Test.YtfjcmnnddhomjaaAppend
namespace Go.Proofs.Ytfjcmnnddhomjaa
set_option linter.unusedVariables false
set_option linter.unusedSimpArgs false
open Go.RowKit
set_option maxRecDepth 100000


theorem allCh_noS {rs : List RuleD} {k : Nat} (h : k < rs.length) (hc : (nth rs k).choice = true) : rs.all noCh = false := by
  rw [List.all_eq_false]
  exact ⟨_, nth_mem h, by simp [noCh, hc]⟩
theorem allCh_yesS {rs : List RuleD} (h : ∀ j, j < rs.length → (nth rs j).choice = false) : rs.all noCh = true := by
  rw [List.all_eq_true]
  intro r hr
  obtain ⟨i, hi, rfl⟩ := List.getElem_of_mem hr
  rw [← nth_eq hi]
  simp [noCh, h i hi]
theorem plainB_R {p : ProgD} {b : Bool} (hb : foldB p = b) : plainB p = (b && (foldR p).rules.all noCh) := by
  subst hb
  cases h : foldB p
  · rw [plainB_A h]; rfl
  · rw [plainB_B h, foldR_yes h, Bool.true_and]

set_option maxHeartbeats 1000000 in
theorem specPlain_calls {cs : List Value} {p : ProgD} {w : World} (h : Rd.R w cs p) :
    Calls Try.prog 6 #[.agg cs.toArray] w fun e w' => e = .returned (.bool (plainB p)) ∧ Below w.heap.size w w' := by
  obtain ⟨p0, p1, p2, p3, p4, p5, p6, p7, rfl⟩ := list8 (Rd.len h)
  have t0 : Below w.heap.size w (w.alloc (.cells #[p0, p1, p2, p3, p4, p5, p6, p7] 36)) := (Below.refl _ _).alloc (by simp) _
  go_enter Try.func6, Try.ntmps6
  go_wp2_with fail
  refine (specFold_calls (Rd.mono t0 h)).mono ?_
  rintro e w1 ⟨cs1, he, o1, b1⟩
  obtain ⟨fb, hfb⟩ : ∃ fb, foldB p = fb := ⟨_, rfl⟩
  have HP := Lib.hid (plainB_R hfb)
  rw [hfb] at he
  subst he
  clear hfb
  obtain ⟨R, hR⟩ : ∃ R, R = foldR p := ⟨_, rfl⟩
  rw [← hR] at o1 HP
  clear hR
  have t1 := t0.step b1
  have l1 := Rd.one o1.rd
  obtain ⟨x0, x1, x2, x3, x4, x5, x6, x7, rfl⟩ := list8 (Rd.len o1.rd)
  have st0 := sto Try.prog (l1 x0 (by simp))
  have st1 := sto Try.prog (l1 x1 (by simp))
  have st2 := sto Try.prog (l1 x2 (by simp))
  have st3 := sto Try.prog (l1 x3 (by simp))
  have st4 := sto Try.prog (l1 x4 (by simp))
  have st5 := sto Try.prog (l1 x5 (by simp))
  have st6 := sto Try.prog (l1 x6 (by simp))
  have st7 := sto Try.prog (l1 x7 (by simp))
  have o1 := o1.alloc (.cells #[x0, x1, x2, x3, x4, x5, x6, x7] 36)
  have CX1 := Cells.new w1 [x0, x1, x2, x3, x4, x5, x6, x7] 36
  have t1 := t1.alloc t1.size (.cells #[x0, x1, x2, x3, x4, x5, x6, x7] 36)
  clear l1
  have oR := o1.rd
  obtain ⟨_, _, _, _, _, _, hl, hfa, g1, _⟩ := oR
  simp only [List.cons.injEq, and_true] at hl
  obtain ⟨rfl, rfl, -⟩ := hl
  obtain ⟨a1, k1, rfl, _, h1⟩ := g1.sl
  have hm1 := h1.1
  have CXH := Lib.hid CX1
  have hzw : w1.heap.size < (w1.alloc (.cells #[.int .i64 (R).atoms, .slice a1 (R).rules.length k1, x2, x3, x4, x5, x6, x7] 36)).heap.size := by simp
  generalize hwa : w1.alloc (.cells #[.int .i64 (R).atoms, .slice a1 (R).rules.length k1, x2, x3, x4, x5, x6, x7] 36) = wa at *
  go_wp2
  try rw [hwa]
  clear st0 st1 st2 st3 st4 st5 st6 st7
  go_loopw [5] (fun i wr => ∃ k : Nat, k ≤ R.rules.length ∧ i = .int .i64 k ∧ (∀ j, j < k → (nth R.rules j).choice = false) ∧ Below wa.heap.size wa wr) (fun i _ => R.rules.length - (intOf i).toNat)
  case atStart => exact ⟨0, Nat.zero_le _, rfl, fun j hj => absurd hj (Nat.not_lt_zero _), Below.refl _ _⟩
  case round =>
    obtain ⟨k, hk, rfl, hA, hb⟩ := hrel
    have HA := Lib.hid hA
    clear hA
    obtain ⟨y0, y1, y2, y3, y4, y5, y6, y7⟩ := cells8 (CXH.out.later hb)
    by_cases hlt : k < R.rules.length
    · obtain ⟨b, off, rfl, hc⟩ := h1.base (by omega)
      obtain ⟨ecs, hC, hR⟩ := hc k hlt
      have hC := hC.later hb
      have hR := Rd.mono hb hR
      have hR0 := hR
      obtain ⟨d1, d4, rfl, hf', r1, r4⟩ := hR0
      have u0 := hC.c0
      rw [show Rd.k RuleD = 5 from rfl] at u0
      clear hC hc h1 r1 r4 hR
      cases hch : (nth R.rules k).choice
      · have hN := Lib.hid hch
        rw [hch] at u0
        clear hch
        go_wp2
        go_roundw
        case rel => exact ⟨k + 1, by omega, by go_num, fun j hj => by
          rcases Nat.lt_succ_iff_lt_or_eq.1 hj with h | h
          · exact HA.out j h
          · subst h; exact hN.out, hb⟩
        case measure => simp [intOf]; omega
      · have hN := Lib.hid hch
        rw [hch] at u0
        clear hch
        go_wp2
        go_ret
        exact ⟨ret_bool (by rw [HP.out, allCh_noS hlt hN.out, Bool.and_false]), t1.step hb⟩
    · obtain rfl : k = R.rules.length := by omega
      go_wp2
      go_ret
      exact ⟨ret_bool (by rw [HP.out, allCh_yesS HA.out, Bool.and_true]), t1.step hb⟩

end Go.Proofs.Ytfjcmnnddhomjaa
