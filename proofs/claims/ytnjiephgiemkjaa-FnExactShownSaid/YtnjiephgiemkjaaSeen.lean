/-
  What is seen of a set. No condition of its own.
-/
import Derived.Test.YtnjiephgiemkjaaImplProg
import Derived.Test.YtnjiephgiemkjaaSpecProg
import Derived.Test.YtnjiephgiemkjaaSetsB
import Derived.Test.YtnjiephgiemkjaaSetsPure
import Derived.Test.YtnjiephgiemkjaaMadeD
import Derived.Test.YtnjiephgiemkjaaSeq
import Derived.Deep.RegionHeld3
namespace Go.Proofs.Ytnjiephgiemkjaa
set_option linter.unusedVariables false
set_option linter.unusedSimpArgs false
open Go.RowKit
set_option maxRecDepth 100000
set_option linter.unusedVariables false
set_option linter.unusedSimpArgs false

theorem progOk_atV {p : ProgD} (h : progOkB p = true) : 0 ≤ p.atoms ∧ p.atoms ≤ 12 := by
  simp only [progOkB, Bool.and_eq_true, btwB, decide_eq_true_eq] at h
  exact h.1
/-- The atoms that a program shows. -/
def visL (p : ProgD) : List Int := if p.projOn then p.project else setOfS (((2 ^ p.atoms.toNat : Nat) : Int) - 1)
theorem visL_on {p : ProgD} (h : p.projOn = true) : visL p = p.project := by simp [visL, h]
theorem visL_all {p : ProgD} (h : p.projOn = false) : visL p = setOfS (((2 ^ p.atoms.toNat : Nat) : Int) - 1) := by simp [visL, h]
def seenS (p : ProgD) (xs : List Int) : List Int := pickTo (pickM xs (visL p)) 12
def seenR (p : ProgD) (xs : List Int) : List Int := if progOkB p then seenS p xs else []
theorem seenR_no {p : ProgD} {xs : List Int} (h : progOkB p = false) : seenR p xs = [] := by simp [seenR, h]
theorem seenR_yes {p : ProgD} {xs : List Int} (h : progOkB p = true) : seenR p xs = seenS p xs := by simp [seenR, h]
theorem seenR_len (p : ProgD) (xs : List Int) : (seenR p xs).length ≤ 12 := by
  unfold seenR; split
  · exact pickTo_len _ _
  · simp
theorem powV {n : Int} (h0 : 0 ≤ n) (h1 : n ≤ 12) : ((2 : Int) ^ n.toNat) = ((2 ^ n.toNat : Nat) : Int) ∧ 1 ≤ 2 ^ n.toNat ∧ 2 ^ n.toNat ≤ 4096 := by
  have h1 : 2 ^ n.toNat ≤ 2 ^ 12 := Nat.pow_le_pow_right (by omega) (by omega)
  have h2 : 0 < 2 ^ n.toNat := Nat.two_pow_pos _
  exact ⟨by simp, h2, h1⟩
theorem vis_mask {p : ProgD} (hp : p.projOn = false) (h0 : 0 ≤ p.atoms) (h1 : p.atoms ≤ 12) : maskOf (visL p) = 2 ^ p.atoms.toNat - 1 := by
  obtain ⟨_, h2, h3⟩ := powV h0 h1
  rw [visL_all hp, show (((2 ^ p.atoms.toNat : Nat) : Int) - 1) = ((2 ^ p.atoms.toNat - 1 : Nat) : Int) by omega]
  have : setOfS ((2 ^ p.atoms.toNat - 1 : Nat) : Int) = mset (2 ^ p.atoms.toNat - 1) := by
    rw [← of_same]
    unfold setOf mset
    rw [if_pos (by omega)]
    rfl
  rw [this, mask_mset (by omega)]
theorem seen_mset (p : ProgD) (xs : List Int) : mset (maskOf xs &&& maskOf (visL p)) = seenS p xs := meet_same xs (visL p)

set_option maxHeartbeats 2000000 in
theorem specSeen_calls {cs : List Value} {p : ProgD} {w : World} {v : Value} {xs : List Int} (h : Rd.R w cs p) (gx : RdL w [v] xs) :
    Calls Try.prog 7 #[.agg cs.toArray, v] w fun e w' => ∃ u, e = .returned u ∧ OwnI w.heap.size w' u (seenR p xs) ∧ Below w.heap.size w w' := by
  have h0 := h
  obtain ⟨c1, c2, c4, c5, c6, c7, rfl, hf, g1, g2, g4, g5, g6, g7⟩ := h0
  obtain ⟨a4, k4, rfl, _, h4⟩ := g4.sl
  obtain ⟨ax, cx, rfl, _, hx⟩ := gx.sl
  have CX := Cells.new w [.int .i64 p.atoms, c1, c2, .bool p.projOn, .slice a4 p.project.length k4, c5, c6, c7] 36
  have t0 : Below w.heap.size w (w.alloc (.cells #[.int .i64 p.atoms, c1, c2, .bool p.projOn, .slice a4 p.project.length k4, c5, c6, c7] 36)) := (Below.refl _ _).alloc (Nat.le_refl _) _
  clear g1 g2 g4 g5 g6 g7
  cases hO : progOkB p
  · have hv := Lib.hid (seenR_no (xs := xs) hO)
    go_enter Try.func7, Try.ntmps7
    go_wp2_with fail
    refine (specProgOk_calls (Rd.mono t0 h)).mono ?_
    rintro e w1 ⟨he, b1⟩
    rw [hO] at he
    subst he
    have t1 := t0.step b1
    have hz : w.heap.size ≤ w1.heap.size := t1.size
    go_wp2
    go_ret
    exact ⟨_, rfl, by rw [hv.out]; exact OwnI.new _ _ hz, t1.alloc hz _⟩
  · have hv := Lib.hid (seenR_yes (xs := xs) hO)
    obtain ⟨ha0, ha1⟩ := progOk_atV hO
    cases hJ : p.projOn
    · have hV := Lib.hid (visL_all hJ)
      obtain ⟨hp, hp1, hp2⟩ := powV ha0 ha1
      obtain ⟨P, hP⟩ : ∃ P : Nat, P = 2 ^ p.atoms.toNat := ⟨_, rfl⟩
      rw [← hP] at hp hp1 hp2 hV
      have hw64 : wrap64 (P : Int) = (P : Int) := by unfold wrap64; omega
      rw [hJ] at h CX t0
      clear hP
      go_enter Try.func7, Try.ntmps7
      go_wp2_with fail
      refine (specProgOk_calls (Rd.mono t0 h)).mono ?_
      rintro e w1 ⟨he, b1⟩
      rw [hO] at he
      subst he
      have t1 := t0.step b1
      obtain ⟨y0, y1, y2, y3, y4, y5, y6, y7⟩ := cells8 (CX.later b1)
      go_wp2_with fail
      refine (specSetOf_calls _ _).mono ?_
      rintro e w2 ⟨v2, rfl, o2, b2⟩
      obtain ⟨p2, q2, rfl, hI2, _⟩ := o2.open
      go_wp2_with fail
      refine (specSetMeet_calls _ _ _ _ _ _ _ (hx.later (t1.step b2)).ints hI2).mono ?_
      rintro e w3 ⟨v3, rfl, o3, b3⟩
      go_wp2
      go_ret
      exact ⟨_, rfl, by rw [hv.out]; unfold seenS; rw [hV.out]; exact o3.mono (t1.step b2).size, (t1.step b2).step b3⟩
    · have hV := Lib.hid (visL_on hJ)
      rw [hJ] at h CX t0
      go_enter Try.func7, Try.ntmps7
      go_wp2_with fail
      refine (specProgOk_calls (Rd.mono t0 h)).mono ?_
      rintro e w1 ⟨he, b1⟩
      rw [hO] at he
      subst he
      have t1 := t0.step b1
      obtain ⟨y0, y1, y2, y3, y4, y5, y6, y7⟩ := cells8 (CX.later b1)
      go_wp2_with fail
      refine (specSetMeet_calls _ _ _ _ _ _ _ (hx.later t1).ints (h4.later t1).ints).mono ?_
      rintro e w3 ⟨v3, rfl, o3, b3⟩
      go_wp2
      go_ret
      exact ⟨_, rfl, by rw [hv.out]; unfold seenS; rw [hV.out]; exact o3.mono t1.size, t1.step b3⟩

theorem upV_calls (n : Int) (w : World) (h0 : 0 ≤ n) (hn : n ≤ 12) :
    Calls Try.prog 102 #[.int .i64 n] w fun e w' => e = .returned (.int .u16 ((2 ^ n.toNat - 1 : Nat) : Int)) ∧ w = w' := by
  obtain ⟨hp, h1, h2⟩ := powV h0 hn
  obtain ⟨P, hP⟩ : ∃ P : Nat, P = 2 ^ n.toNat := ⟨_, rfl⟩
  rw [← hP] at hp h1 h2
  have hv : Hid (2 ^ n.toNat = P) := hP.symm
  clear hP
  go_enter Try.func102, Try.ntmps102
  go_wp2
  go_ret
  refine ⟨ret_int ?_, rfl⟩
  rw [hv.out]
  first | omega | (unfold IntKind.wrap; simp; omega) | skip
theorem meetV_calls (a b : Nat) (w : World) (ha : a < 4096) (hb : b < 4096) :
    Calls Try.prog 74 #[.int .u16 (a : Int), .int .u16 (b : Int)] w fun e w' => e = .returned (.int .u16 ((a &&& b : Nat) : Int)) ∧ w = w' := by
  have hor := and_u16 a b ha hb
  go_enter Try.func74, Try.ntmps74
  go_wp2
  go_ret
  exact ⟨rfl, rfl⟩
set_option maxHeartbeats 1000000 in
theorem visible_calls {cs : List Value} {p : ProgD} {w : World} (h : Rd.R w cs p) (hok : progOkB p = true) :
    Calls Try.prog 75 #[.agg cs.toArray] w fun e w' => e = .returned (.int .u16 (maskOf (visL p) : Int)) ∧ Below w.heap.size w w' := by
  have h0 := h
  obtain ⟨c1, c2, c4, c5, c6, c7, rfl, hf, g1, g2, g4, g5, g6, g7⟩ := h0
  obtain ⟨a4, k4, rfl, _, h4⟩ := g4.sl
  have CX := Cells.new w [.int .i64 p.atoms, c1, c2, .bool p.projOn, .slice a4 p.project.length k4, c5, c6, c7] 36
  have t0 : Below w.heap.size w (w.alloc (.cells #[.int .i64 p.atoms, c1, c2, .bool p.projOn, .slice a4 p.project.length k4, c5, c6, c7] 36)) := (Below.refl _ _).alloc (Nat.le_refl _) _
  clear g1 g2 g4 g5 g6 g7
  obtain ⟨ha0, ha1⟩ := progOk_atV hok
  cases hJ : p.projOn
  · have hV := Lib.hid (vis_mask hJ ha0 ha1)
    rw [hJ] at h CX t0
    obtain ⟨y0, y1, y2, y3, y4, y5, y6, y7⟩ := cells8 CX
    go_enter Try.func75, Try.ntmps75
    go_wp2_with (go_at_call 102; refine (upV_calls _ _ ha0 ha1).mono ?_; rintro e w' ⟨rfl, rfl⟩)
    go_ret
    exact ⟨by rw [hV.out]; rfl, t0⟩
  · have hV := Lib.hid (visL_on hJ)
    rw [hJ] at h CX t0
    obtain ⟨y0, y1, y2, y3, y4, y5, y6, y7⟩ := cells8 CX
    go_enter Try.func75, Try.ntmps75
    go_wp2_with (go_at_call 38; refine (atomsIn_calls _ _ _ _ (h4.later t0).ints).mono ?_; rintro e w' ⟨rfl, rfl⟩)
    go_ret
    exact ⟨by rw [hV.out]; rfl, t0⟩
theorem seen_calls {cs : List Value} {p : ProgD} {w : World} (m : Nat) (hm : m < 4096) (h : Rd.R w cs p) (hok : progOkB p = true) :
    Calls Try.prog 37 #[.agg cs.toArray, .int .u16 (m : Int)] w fun e w' => e = .returned (.int .u16 ((m &&& maskOf (visL p) : Nat) : Int)) ∧ Below w.heap.size w w' := by
  obtain ⟨p0, p1, p2, p3, p4, p5, p6, p7, rfl⟩ := list8 (Rd.len h)
  have t0 : Below w.heap.size w (w.alloc (.cells #[p0, p1, p2, p3, p4, p5, p6, p7] 36)) := (Below.refl _ _).alloc (by simp) _
  have hl := maskOf_lt (visL p)
  go_enter Try.func37, Try.ntmps37
  go_wp2_with fail
  refine (visible_calls (Rd.mono t0 h) hok).mono ?_
  rintro e w1 ⟨rfl, b1⟩
  go_wp2_with (go_at_call 74; refine (meetV_calls _ _ _ hm hl).mono ?_; rintro e w' ⟨rfl, rfl⟩)
  go_ret
  exact ⟨rfl, t0.step b1⟩


set_option maxHeartbeats 2000000 in
theorem implSeen_calls {cs : List Value} {p : ProgD} {w : World} {v : Value} {xs : List Int} (h : Rd.R w cs p) (gx : RdL w [v] xs) :
    Calls Try.prog 10 #[.agg cs.toArray, v] w fun e w' => ∃ u, e = .returned u ∧ OwnI w.heap.size w' u (seenR p xs) ∧ Below w.heap.size w w' := by
  obtain ⟨p0, p1, p2, p3, p4, p5, p6, p7, rfl⟩ := list8 (Rd.len h)
  obtain ⟨ax, cx, rfl, _, hx⟩ := gx.sl
  have t0 : Below w.heap.size w (w.alloc (.cells #[p0, p1, p2, p3, p4, p5, p6, p7] 36)) := (Below.refl _ _).alloc (by simp) _
  have CX := Cells.new w [p0, p1, p2, p3, p4, p5, p6, p7] 36
  cases hO : progOkB p
  · have hv := Lib.hid (seenR_no (xs := xs) hO)
    go_enter Try.func10, Try.ntmps10
    go_wp2_with fail
    refine (implProgOk_calls (Rd.mono t0 h)).mono ?_
    rintro e w1 ⟨he, b1⟩
    rw [hO] at he
    subst he
    go_wp2
    go_ret
    exact ⟨_, rfl, by rw [hv.out]; exact OwnI.nil _ _, t0.step b1⟩
  · have hv := Lib.hid (seenR_yes (xs := xs) hO)
    have hs := Lib.hid (seen_mset p xs)
    have hl : maskOf xs &&& maskOf (visL p) < 4096 := Nat.lt_of_le_of_lt Nat.and_le_left (maskOf_lt _)
    go_enter Try.func10, Try.ntmps10
    go_wp2_with fail
    refine (implProgOk_calls (Rd.mono t0 h)).mono ?_
    rintro e w1 ⟨he, b1⟩
    rw [hO] at he
    subst he
    have t1 := t0.step b1
    have CX1 := CX.later b1
    go_wp2
    go_region_held3 (fun w' => w'.cell? ⟨w.heap.size, 0, none⟩ = some p0 ∧ w'.cell? ⟨w.heap.size, 1, none⟩ = some p1 ∧ w'.cell? ⟨w.heap.size, 2, none⟩ = some p2 ∧ w'.cell? ⟨w.heap.size, 3, none⟩ = some p3 ∧ w'.cell? ⟨w.heap.size, 4, none⟩ = some p4 ∧ w'.cell? ⟨w.heap.size, 5, none⟩ = some p5 ∧ w'.cell? ⟨w.heap.size, 6, none⟩ = some p6 ∧ w'.cell? ⟨w.heap.size, 7, none⟩ = some p7)
      (first | exact cells8 CX1 | exact cells8 CX1.drew | exact cells8 (CX1.drew.later b2) | exact cells8 ((CX1.drew.later b2).later b3))
      (first | (go_at_call 38; refine (atomsIn_calls _ _ _ _ (hx.later t1.drew).ints).mono ?_; rintro e w' ⟨rfl, rfl⟩) | (go_at_call 37; refine (seen_calls _ (maskOf_lt _) (Rd.mono t1.drew h) hO).mono ?_; rintro e w2 ⟨rfl, b2⟩) |
        (go_at_call 39; refine (list_calls _ _ hl).mono ?_; rintro e w3 ⟨u, rfl, o3, b3⟩))
    go_wp2
    go_ret
    exact ⟨_, rfl, by rw [hv.out, ← hs.out]; exact o3.mono (t1.drew.step b2).size, (t1.drew.step b2).step b3⟩

end Go.Proofs.Ytnjiephgiemkjaa
