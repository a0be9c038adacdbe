/-
 laws.FnExactTop returns true, whatever its arguments; they read afterwards as before.
 Conditions: none (what every row of this form says by itself: the arguments can be read as data).
-/
import Derived.Test.YthikhkeofcjdfaaGreatLawsP
import Derived.Test.YthikhkeofcjdfaaGreatMarkH
import Derived.Test.YthikhkeofcjdfaaGreatLawReg
import Derived.Test.YthikhkeofcjdfaaGreatTopN
import Derived.Test.YthikhkeofcjdfaaGreatTopS
import Derived.Deep.RegionHeld3
import Derived.Test.YthikhkeofcjdfaaGreatOpen
import Derived.Test.YthikhkeofcjdfaaGreatRows
import Derived.WalkKit
import Derived.ProofKit
import Derived.OpenShut
import Derived.ShutString
import Derived.ChangeOld
import Derived.Below
namespace Go.Proofs.YthikhkeofcjdfaaGreat.fnExactTop
open Go.ChangeShapes Go.WideShapes Go.ChangeAt Go.RowKit
open Go.ChangeMaps (open_string shut_string)
set_option linter.unusedVariables false
set_option linter.unusedSimpArgs false

theorem own : ownKnob Tryz.prog.godebug = none := by kernel_rfl
theorem laidOut : laidOutB Tryz.prog = true := by kernel_rfl

theorem WrF_I {fp : List Nat} {lo hi : Nat} {w w' : World} (h : WrF fp w w') (hl : ∀ g ∈ fp, lo ≤ g ∧ g < hi) : WrI lo hi w w' :=
 ⟨h.os, h.tape, h.output, h.size, fun g hg hd => h.block g hg fun hm => by have := hl g hm; omega⟩
theorem leftTo_mem {g : RuleD → Option RuleD} {rs : List RuleD} {r : RuleD} : ∀ {k : Nat}, k ≤ rs.length → r ∈ leftTo g rs k → ∃ x, x ∈ rs ∧ g x = some r
 | 0, _, h => by simp [leftTo] at h
 | k + 1, hk, h => by
  cases hg : g (nth rs k)
  ·rw [leftTo_no hg] at h
   exact leftTo_mem (by omega) h
  ·rw [leftTo_yes hg] at h
   rcases List.mem_append.1 h with h | h
   ·exact leftTo_mem (by omega) h
   ·rw [List.mem_singleton.1 h]
    exact ⟨_, nth_mem (by omega), hg⟩
theorem smPart {q : ProgD} {g : RuleD → Option RuleD} (hok : progOkB q = true) (hg : ∀ x r, g x = some r → r.heads.length ≤ x.heads.length ∧ r.body.length ≤ x.body.length) : Sm.S (partD q (leftTo g q.rules q.rules.length)) := by
 have hn := (progOk_rules hok).1
 have hl := leftTo_len (g := g) (rs := q.rules) q.rules.length
 have hnil : ∀ {α : Type} [Sm α], Sm.S ([] : List α) := ⟨Nat.zero_le _, fun _ h => by cases h⟩
 refine ⟨⟨by show (leftTo g q.rules q.rules.length).length ≤ _; omega, fun r hr => ?_⟩, hnil, hnil, hnil, hnil, hnil⟩
 obtain ⟨x, hx, hgx⟩ := leftTo_mem (Nat.le_refl _) hr
 have h1 := hg x r hgx
 have h2 := sm_ok12 (rules12 hok x hx)
 obtain ⟨⟨h3, _⟩, ⟨h4, _⟩⟩ := h2
 exact ⟨⟨by omega, fun _ _ => trivial⟩, ⟨by omega, fun _ _ => trivial⟩⟩
theorem cntTop {p : ProgD} {us xs : List Int} : (cntProgV (topD p us xs) : Int) ≤ 20000000000000 := by
 cases hb : splB p us
 ·rw [topD_no hb]; exact cntZero
 ·rw [topD_yes hb]
  refine cntSm (smPart (foldR_ok (splB_fold hb)) fun x r h => ?_)
  unfold topS at h
  split at h
  ·cases h
  ·split at h
   ·split at h
    ·cases h; exact ⟨Nat.le_refl _, Nat.zero_le _⟩
    ·cases h; exact ⟨Nat.le_refl _, opn_len⟩
   ·split at h
    ·cases h
    ·cases h; exact ⟨Nat.le_refl _, opn_len⟩
set_option maxRecDepth 100000 in
set_option maxHeartbeats 8000000 in
theorem law {cs : List Value} {p : ProgD} {v v2 : Value} {xs us : List Int} {w : World} (h : Rd.R w cs p) (g : RdL w [v] xs) (g2 : RdL w [v2] us) :
  Calls Tryz.prog 6 #[.agg cs.toArray, v, v2] w fun e w' => e = .returned (.bool true) ∧ Below w.heap.size w w' := by
 obtain ⟨e0, e1, e2, e3, e4, e5, e6, e7, rfl⟩ := list8 (Rd.len h)
 obtain ⟨ax, cx, rfl, _, hx⟩ := g.sl
 obtain ⟨au, cu, rfl, _, hu⟩ := g2.sl
 have hm := hx.1
 have hm2 := hu.1
 have t0 : Below w.heap.size w (w.alloc (.cells #[e0, e1, e2, e3, e4, e5, e6, e7] 59)) := (Below.refl _ _).alloc (by simp) _
 by_cases hbig : 1048576 < xs.length
 ·have hb' : (1048576 : Int) < (xs.length : Int) := by omega
  go_enter Tryz.func6, Tryz.ntmps6
  go_wp2
  go_ret
  exact ⟨rfl, t0⟩
 have hb' : (xs.length : Int) ≤ 1048576 := by omega
 by_cases hbig2 : 1048576 < us.length
 ·have hb2 : (1048576 : Int) < (us.length : Int) := by omega
  go_enter Tryz.func6, Tryz.ntmps6
  go_wp2
  go_ret
  exact ⟨rfl, t0⟩
 have hb2' : (us.length : Int) ≤ 1048576 := by omega
 have sx : Hid (Sm.S xs) := ⟨by omega, fun _ _ => trivial⟩
 have su : Hid (Sm.S us) := ⟨by omega, fun _ _ => trivial⟩
 clear hbig hx hbig2 hu
 have CXA := Cells.new w [e0, e1, e2, e3, e4, e5, e6, e7] 59
 go_enter Tryz.func6, Tryz.ntmps6
 go_wp2_with fail
 refine (szProg_calls 1048576 (Rd.mono t0 h) (by omega) (by omega)).mono ?_
 rintro e w1 ⟨⟨n1, rfl, _, m1, q1⟩, b1⟩
 have t1 := t0.step b1
 by_cases n01 : 0 ≤ n1
 case neg =>
  have hng : n1 < 0 := by omega
  clear n01 q1
  go_wp2
  go_ret
  exact ⟨rfl, t1⟩
 have s1 := Lib.hid (q1 n01)
 clear q1
 replace CXA := CXA.later b1
 obtain ⟨c0Aat1, c1Aat1, c2Aat1, c3Aat1, c4Aat1, c5Aat1, c6Aat1, c7Aat1⟩ := cells8 CXA
 have hlAat1 := CXA.lt
 clear c0Aat1 c1Aat1 c2Aat1 c3Aat1 c4Aat1 c5Aat1 c6Aat1 c7Aat1
 have zA := CXA.lt
 clear b1 t0
 obtain ⟨s0A, s1A, s2A, s3A, s4A, s5A, s6A, s7A⟩ := cells8 CXA
 go_wp2_with fail
 clear s0A s1A s2A s3A s4A s5A s6A s7A
 refine (toProg_calls (Rd.mono t1 h) s1.out).mono ?_
 rintro e w2 ⟨cs2, rfl, o2, b2⟩
 have t2 := t1.step b2
 replace CXA := CXA.later b2
 go_wp2_with fail
 refine (toIntSO_calls (Rd.mono (α := List Int) t2 g) sx.out).mono ?_
 rintro e w21 ⟨v21, rfl, o21, b21⟩
 have t21 := t2.step b21
 replace CXA := CXA.later b21
 go_wp2_with fail
 refine (toIntSO_calls (Rd.mono (α := List Int) t21 g2) su.out).mono ?_
 rintro e w22 ⟨v22, rfl, o22, b22⟩
 have t22 := t21.step b22
 replace CXA := CXA.later b22
 go_wp2_with fail
 refine (specTop_calls ((o2.later b21).later b22).rd (o21.later b22).rd o22.rd).mono ?_
 rintro e w3 ⟨cs3, rfl, o3, b3⟩
 have t3 := t22.step b3
 replace CXA := CXA.later b3
 have o3 := o3.shut
 have z2 := b2.size
 have z21 := b21.size
 have z22 := b22.size
 have z3 := b3.size
 clear o2 o21 o22
 have l3 := Rd.one o3.rd
 obtain ⟨x03, x13, x23, x33, x43, x53, x63, x73, rfl⟩ := list8 (Rd.len o3.rd)
 have st03 := sto Tryz.prog (l3 x03 (by simp))
 have st13 := sto Tryz.prog (l3 x13 (by simp))
 have st23 := sto Tryz.prog (l3 x23 (by simp))
 have st33 := sto Tryz.prog (l3 x33 (by simp))
 have st43 := sto Tryz.prog (l3 x43 (by simp))
 have st53 := sto Tryz.prog (l3 x53 (by simp))
 have st63 := sto Tryz.prog (l3 x63 (by simp))
 have st73 := sto Tryz.prog (l3 x73 (by simp))
 have o3 := o3.alloc (.cells #[x03, x13, x23, x33, x43, x53, x63, x73] 30)
 have CX3 := Cells.new w3 [x03, x13, x23, x33, x43, x53, x63, x73] 30
 replace CXA := CXA.alloc (.cells #[x03, x13, x23, x33, x43, x53, x63, x73] 30)
 have t3 := t3.alloc t3.size (.cells #[x03, x13, x23, x33, x43, x53, x63, x73] 30)
 clear l3
 obtain ⟨s0A, s1A, s2A, s3A, s4A, s5A, s6A, s7A⟩ := cells8 CXA
 go_wp2_with fail
 clear s0A s1A s2A s3A s4A s5A s6A s7A
 refine (toProg_calls (Rd.mono t3 h) s1.out).mono ?_
 rintro e w4 ⟨cs4, rfl, o4, b4⟩
 have t4 := t3.step b4
 replace CXA := CXA.later b4
 replace CX3 := CX3.later b4
 have o4 := o4.shut
 have z4 := b4.size
 rw [World.size_alloc] at z4
 clear st03 st13 st23 st33 st43 st53 st63 st73
 replace o3 := o3.later b4
 have l4 := Rd.one o4.rd
 obtain ⟨x04, x14, x24, x34, x44, x54, x64, x74, rfl⟩ := list8 (Rd.len o4.rd)
 have st04 := sto Tryz.prog (l4 x04 (by simp))
 have st14 := sto Tryz.prog (l4 x14 (by simp))
 have st24 := sto Tryz.prog (l4 x24 (by simp))
 have st34 := sto Tryz.prog (l4 x34 (by simp))
 have st44 := sto Tryz.prog (l4 x44 (by simp))
 have st54 := sto Tryz.prog (l4 x54 (by simp))
 have st64 := sto Tryz.prog (l4 x64 (by simp))
 have st74 := sto Tryz.prog (l4 x74 (by simp))
 have o4 := o4.alloc (.cells #[x04, x14, x24, x34, x44, x54, x64, x74] 30)
 have CX4 := Cells.new w4 [x04, x14, x24, x34, x44, x54, x64, x74] 30
 replace CXA := CXA.alloc (.cells #[x04, x14, x24, x34, x44, x54, x64, x74] 30)
 replace CX3 := CX3.alloc (.cells #[x04, x14, x24, x34, x44, x54, x64, x74] 30)
 replace o3 := o3.alloc (.cells #[x04, x14, x24, x34, x44, x54, x64, x74] 30)
 have t4 := t4.alloc t4.size (.cells #[x04, x14, x24, x34, x44, x54, x64, x74] 30)
 clear l4
 go_wp2_with fail
 refine (toIntSO_calls (Rd.mono (α := List Int) t4 g) sx.out).mono ?_
 rintro e w41 ⟨v41, rfl, o41, b41⟩
 have t41 := t4.step b41
 replace CXA := CXA.later b41
 replace CX3 := CX3.later b41
 replace CX4 := CX4.later b41
 have o41 := o41.shut
 have z41 := b41.size
 rw [World.size_alloc] at z41
 obtain ⟨a41, n41, rfl, _⟩ := retO o41.own
 clear st04 st14 st24 st34 st44 st54 st64 st74
 replace o3 := o3.later b41
 replace o4 := o4.later b41
 go_wp2_with fail
 refine (toIntSO_calls (Rd.mono (α := List Int) t41 g2) su.out).mono ?_
 rintro e w42 ⟨v42, rfl, o42, b42⟩
 have t42 := t41.step b42
 replace CXA := CXA.later b42
 replace CX3 := CX3.later b42
 replace CX4 := CX4.later b42
 have o42 := o42.shut
 have z42 := b42.size
 obtain ⟨a42, n42, rfl, _⟩ := retO o42.own
 replace o3 := o3.later b42
 replace o4 := o4.later b42
 replace o41 := o41.later b42
 obtain ⟨s04, s14, s24, s34, s44, s54, s64, s74⟩ := cells8 CX4
 go_wp2_with fail
 clear s04 s14 s24 s34 s44 s54 s64 s74
 refine (implTop_calls o4.rd o41.rd o42.rd).mono ?_
 rintro e w5 ⟨cs5, rfl, o5, b5⟩
 have t5 := t42.step b5
 replace CXA := CXA.later b5
 replace CX3 := CX3.later b5
 replace CX4 := CX4.later b5
 have o5 := o5.shut
 have z5 := b5.size
 replace o3 := o3.later b5
 replace o4 := o4.later b5
 replace o41 := o41.later b5
 replace o42 := o42.later b5
 have l5 := Rd.one o5.rd
 obtain ⟨x05, x15, x25, x35, x45, x55, x65, x75, rfl⟩ := list8 (Rd.len o5.rd)
 have st05 := sto Tryz.prog (l5 x05 (by simp))
 have st15 := sto Tryz.prog (l5 x15 (by simp))
 have st25 := sto Tryz.prog (l5 x25 (by simp))
 have st35 := sto Tryz.prog (l5 x35 (by simp))
 have st45 := sto Tryz.prog (l5 x45 (by simp))
 have st55 := sto Tryz.prog (l5 x55 (by simp))
 have st65 := sto Tryz.prog (l5 x65 (by simp))
 have st75 := sto Tryz.prog (l5 x75 (by simp))
 have o5 := o5.alloc (.cells #[x05, x15, x25, x35, x45, x55, x65, x75] 30)
 have CX5 := Cells.new w5 [x05, x15, x25, x35, x45, x55, x65, x75] 30
 replace CXA := CXA.alloc (.cells #[x05, x15, x25, x35, x45, x55, x65, x75] 30)
 replace CX3 := CX3.alloc (.cells #[x05, x15, x25, x35, x45, x55, x65, x75] 30)
 replace CX4 := CX4.alloc (.cells #[x05, x15, x25, x35, x45, x55, x65, x75] 30)
 replace o3 := o3.alloc (.cells #[x05, x15, x25, x35, x45, x55, x65, x75] 30)
 replace o4 := o4.alloc (.cells #[x05, x15, x25, x35, x45, x55, x65, x75] 30)
 replace o41 := o41.alloc (.cells #[x05, x15, x25, x35, x45, x55, x65, x75] 30)
 replace o42 := o42.alloc (.cells #[x05, x15, x25, x35, x45, x55, x65, x75] 30)
 have t5 := t5.alloc t5.size (.cells #[x05, x15, x25, x35, x45, x55, x65, x75] 30)
 clear l5
 obtain ⟨s05, s15, s25, s35, s45, s55, s65, s75⟩ := cells8 CX5
 obtain ⟨s03, s13, s23, s33, s43, s53, s63, s73⟩ := cells8 CX3
 go_wp2_with fail
 clear s05 s15 s25 s35 s45 s55 s65 s75
 clear s03 s13 s23 s33 s43 s53 s63 s73
 refine (eqProg_calls o5.rd o3.rd).mono ?_
 rintro e w6 ⟨rfl, b6⟩
 have t6 := t5.step b6
 replace CXA := CXA.later b6
 replace CX3 := CX3.later b6
 replace CX4 := CX4.later b6
 replace CX5 := CX5.later b6
 have z6 := b6.size
 rw [World.size_alloc] at z6
 clear st05 st15 st25 st35 st45 st55 st65 st75
 replace o3 := o3.later b6
 replace o4 := o4.later b6
 replace o5 := o5.later b6
 replace o41 := o41.later b6
 replace o42 := o42.later b6
 clear b2 b21 b22 b3 b4 b41 b42 b5 b6
 go_wp2_with fail
 go_region_held3 (fun w' => (w'.cell? ⟨w4.heap.size, 0, none⟩ = some x04 ∧ w'.cell? ⟨w4.heap.size, 1, none⟩ = some x14 ∧ w'.cell? ⟨w4.heap.size, 2, none⟩ = some x24 ∧ w'.cell? ⟨w4.heap.size, 3, none⟩ = some x34 ∧ w'.cell? ⟨w4.heap.size, 4, none⟩ = some x44 ∧ w'.cell? ⟨w4.heap.size, 5, none⟩ = some x54 ∧ w'.cell? ⟨w4.heap.size, 6, none⟩ = some x64 ∧ w'.cell? ⟨w4.heap.size, 7, none⟩ = some x74) ∧ (w'.cell? ⟨w.heap.size, 0, none⟩ = some e0 ∧ w'.cell? ⟨w.heap.size, 1, none⟩ = some e1 ∧ w'.cell? ⟨w.heap.size, 2, none⟩ = some e2 ∧ w'.cell? ⟨w.heap.size, 3, none⟩ = some e3 ∧ w'.cell? ⟨w.heap.size, 4, none⟩ = some e4 ∧ w'.cell? ⟨w.heap.size, 5, none⟩ = some e5 ∧ w'.cell? ⟨w.heap.size, 6, none⟩ = some e6 ∧ w'.cell? ⟨w.heap.size, 7, none⟩ = some e7))
  (first | exact ⟨cells8 CX4, cells8 CXA⟩ | exact ⟨cells8 (CX4.drew.later b7), cells8 (CXA.drew.later b7)⟩ | exact ⟨cells8 ((CX4.drew.later b7).later b8), cells8 ((CXA.drew.later b7).later b8)⟩)
  (first | (go_at_call 30; refine (toProg_calls (Rd.mono t6.drew h) s1.out).mono ?_; rintro e w7 ⟨cs7, rfl, o7, b7⟩) | (go_at_call 33; refine (eqProg_calls (o4.drew.later b7).rd o7.rd).mono ?_; rintro e w8 ⟨rfl, b8⟩))
 have t8 := (t6.drew.step b7).step b8
 have CXA := ((CXA.drew.later b7).later b8)
 have CX3 := ((CX3.drew.later b7).later b8)
 have CX4 := ((CX4.drew.later b7).later b8)
 have CX5 := ((CX5.drew.later b7).later b8)
 have o3 := ((o3.drew.later b7).later b8)
 have o4 := ((o4.drew.later b7).later b8)
 have o5 := ((o5.drew.later b7).later b8)
 have o41 := ((o41.drew.later b7).later b8)
 have o42 := ((o42.drew.later b7).later b8)
 have z7 : w6.heap.size ≤ w7.heap.size := b7.size
 have z8 := b8.size
 clear b7 b8
 go_wp2_with fail
 refine (toIntSO_calls (Rd.mono (α := List Int) t8 g) sx.out).mono ?_
 rintro e w81 ⟨v81, rfl, o81, b81⟩
 have t81 := t8.step b81
 replace CXA := CXA.later b81
 replace CX3 := CX3.later b81
 replace CX4 := CX4.later b81
 replace CX5 := CX5.later b81
 replace o3 := o3.later b81
 replace o4 := o4.later b81
 replace o5 := o5.later b81
 replace o41 := o41.later b81
 replace o42 := o42.later b81
 go_wp2_with fail
 refine (eqIntSR_calls o41.rd o81.rd).mono ?_
 rintro e w82 ⟨rfl, b82⟩
 have t82 := t81.step b82
 replace CXA := CXA.later b82
 replace CX3 := CX3.later b82
 replace CX4 := CX4.later b82
 replace CX5 := CX5.later b82
 replace o3 := o3.later b82
 replace o4 := o4.later b82
 replace o5 := o5.later b82
 replace o41 := o41.later b82
 replace o42 := o42.later b82
 go_wp2_with fail
 refine (toIntSO_calls (Rd.mono (α := List Int) t82 g2) su.out).mono ?_
 rintro e w83 ⟨v83, rfl, o83, b83⟩
 have t83 := t82.step b83
 replace CXA := CXA.later b83
 replace CX3 := CX3.later b83
 replace CX4 := CX4.later b83
 replace CX5 := CX5.later b83
 replace o3 := o3.later b83
 replace o4 := o4.later b83
 replace o5 := o5.later b83
 replace o41 := o41.later b83
 replace o42 := o42.later b83
 go_wp2_with fail
 refine (eqIntSR_calls o42.rd o83.rd).mono ?_
 rintro e w84 ⟨rfl, b84⟩
 have t84 := t83.step b84
 replace CXA := CXA.later b84
 replace CX3 := CX3.later b84
 replace CX4 := CX4.later b84
 replace CX5 := CX5.later b84
 replace o3 := o3.later b84
 replace o4 := o4.later b84
 replace o5 := o5.later b84
 replace o41 := o41.later b84
 replace o42 := o42.later b84
 have z81 := b81.size
 have z82 := b82.size
 have z83 := b83.size
 have z84 := b84.size
 clear b81 b82 o81 b83 b84 o83
 have hcp := cntSm (p := p) s1.out
 have hcb := cntTop (p := p) (us := xs) (xs := us)
 have hci := cntTo_int xs xs.length
 have hci2 := cntTo_int us us.length
 have hcx := sx.out.1
 have hcx2 := su.out.1
 obtain ⟨s04, s14, s24, s34, s44, s54, s64, s74⟩ := cells8 CX4
 obtain ⟨f4, q4, l4⟩ := o4
 go_wp2_with fail
 clear s04 s14 s24 s34 s44 s54 s64 s74
 refine (markProg_calls 1 q4 (by omega) (by omega)).mono ?_
 rintro e w9 ⟨rfl, m4, g9⟩
 rw [World.size_alloc] at l4
 have g9 := WrF_I g9 l4
 have t9 := g9.below t84 (by omega)
 have y9 := g9.size
 have o3 := o3.wr g9 (.inl (by first | omega | (rw [World.size_alloc]; omega)))
 have o5 := o5.wr g9 (.inr (by first | omega | (rw [World.size_alloc]; omega)))
 have o41 := o41.wr g9 (.inr (by first | omega | (rw [World.size_alloc]; omega)))
 have o42 := o42.wr g9 (.inr (by first | omega | (rw [World.size_alloc]; omega)))
 have CXA := CXA.wr g9 (.inl (by omega))
 have CX3 := CX3.wr g9 (.inl (by omega))
 have CX5 := CX5.wr g9 (.inr (by omega))
 clear g9 m4 CX4
 have hk9 : (0 : Int) ≤ 1 + (cntProgV p : Nat) := by omega
 have hk9' : 1 + (cntProgV p : Nat) ≤ (1152921504606846976 : Int) := by omega
 have hk2 : (0 : Int) ≤ 1 + (cntProgV p : Nat) + ((cntTo xs xs.length : Nat) : Int) := by omega
 have hk2' : 1 + (cntProgV p : Nat) + ((cntTo xs xs.length : Nat) : Int) ≤ (1152921504606846976 : Int) := by omega
 have hk3 : (0 : Int) ≤ 1 + (cntProgV p : Nat) + ((cntTo xs xs.length : Nat) : Int) + ((cntTo us us.length : Nat) : Int) := by omega
 have hk3' : 1 + (cntProgV p : Nat) + ((cntTo xs xs.length : Nat) : Int) + ((cntTo us us.length : Nat) : Int) ≤ (1152921504606846976 : Int) := by omega
 have hk4 : (0 : Int) ≤ 1 + (cntProgV p : Nat) + (xs.length : Int) + (us.length : Int) := by omega
 have hk4' : 1 + (cntProgV p : Nat) + (xs.length : Int) + (us.length : Int) ≤ (1152921504606846976 : Int) := by omega
 have hkA : (0 : Int) ≤ 1 + (cntProgV (topD p xs us) : Nat) := by omega
 have hkA' : 1 + (cntProgV (topD p xs us) : Nat) ≤ (1152921504606846976 : Int) := by omega
 go_wp2_with fail
 refine (markIntSI_calls (1 + (cntProgV p : Nat)) o41 (by omega) (by omega)).mono ?_
 rintro e w91 ⟨rfl, m41, g91⟩
 have t91 := g91.below t9 (by first | omega | (rw [World.size_alloc]; omega))
 have y91 := g91.size
 have o3 := o3.wr g91 (.inl (by first | omega | (rw [World.size_alloc]; omega)))
 have o5 := o5.wr g91 (.inr (by first | omega | (rw [World.size_alloc]; omega)))
 have CXA := CXA.wr g91 (.inl (by first | omega | (rw [World.size_alloc]; omega)))
 have CX3 := CX3.wr g91 (.inl (by first | omega | (rw [World.size_alloc]; omega)))
 have CX5 := CX5.wr g91 (.inr (by first | omega | (rw [World.size_alloc]; omega)))
 have o42 := o42.wr g91 (.inr (by first | omega | (rw [World.size_alloc]; omega)))
 clear g91 m41
 go_wp2_with fail
 refine (markIntSI_calls (1 + ((cntProgV p : Nat) : Int) + (xs.length : Int)) o42 (by omega) (by omega)).mono ?_
 rintro e w92 ⟨rfl, m42, g92⟩
 have t92 := g92.below t91 (by first | omega | (rw [World.size_alloc]; omega))
 have y92 := g92.size
 have o3 := o3.wr g92 (.inl (by first | omega | (rw [World.size_alloc]; omega)))
 have o5 := o5.wr g92 (.inr (by first | omega | (rw [World.size_alloc]; omega)))
 have CXA := CXA.wr g92 (.inl (by first | omega | (rw [World.size_alloc]; omega)))
 have CX3 := CX3.wr g92 (.inl (by first | omega | (rw [World.size_alloc]; omega)))
 have CX5 := CX5.wr g92 (.inr (by first | omega | (rw [World.size_alloc]; omega)))
 clear g92 m42
 obtain ⟨s05, s15, s25, s35, s45, s55, s65, s75⟩ := cells8 CX5
 obtain ⟨s03, s13, s23, s33, s43, s53, s63, s73⟩ := cells8 CX3
 go_wp2_with fail
 clear s05 s15 s25 s35 s45 s55 s65 s75
 clear s03 s13 s23 s33 s43 s53 s63 s73
 refine (eqProg_calls o5.rd o3.rd).mono ?_
 rintro e w10 ⟨rfl, b10⟩
 have t10 := t92.step b10
 replace CXA := CXA.later b10
 replace CX3 := CX3.later b10
 replace CX5 := CX5.later b10
 replace o3 := o3.later b10
 replace o5 := o5.later b10
 have y10 := b10.size
 obtain ⟨s05, s15, s25, s35, s45, s55, s65, s75⟩ := cells8 CX5
 obtain ⟨f5, q5, l5⟩ := o5
 go_wp2_with fail
 clear s05 s15 s25 s35 s45 s55 s65 s75
 refine (markProg_calls 1 q5 (by omega) (by omega)).mono ?_
 rintro e w11 ⟨rfl, m5, g11⟩
 have t11 : Below w.heap.size w w11 := t10.trans (g11.below (lo := w.heap.size) (fun k hk => by have := l5 k hk; omega) (by omega))
 have y11 := g11.size
 replace o3 := o3.wrF g11 l5 (.inl (by first | exact Nat.le_refl _ | (try rw [World.size_alloc]) <;> omega))
 replace CXA := CXA.wrF g11 (fun hm => by have := l5 _ hm; omega)
 replace CX3 := CX3.wrF g11 (fun hm => by have := l5 _ hm; omega)
 replace CX5 := CX5.wrF g11 (fun hm => by have := l5 _ hm; omega)
 clear g11
 obtain ⟨s05, s15, s25, s35, s45, s55, s65, s75⟩ := cells8 CX5
 go_wp2_with fail
 clear s05 s15 s25 s35 s45 s55 s65 s75
 refine (heldProg_calls 1 (Ow.rd m5) (by omega) (by omega)).mono ?_
 rintro e w12 ⟨rfl, b12⟩
 have t12 := t11.step b12
 replace CXA := CXA.later b12
 replace CX3 := CX3.later b12
 replace CX5 := CX5.later b12
 replace o3 := o3.later b12
 have m5 := Ow.kept m5 fun a ha => b12.block a (Ow.lt m5 a ha)
 obtain ⟨s0A, s1A, s2A, s3A, s4A, s5A, s6A, s7A⟩ := cells8 CXA
 go_wp2_with fail
 clear s0A s1A s2A s3A s4A s5A s6A s7A
 refine (toProg_calls (Rd.mono t12 h) s1.out).mono ?_
 rintro e w13 ⟨cs13, rfl, o13, b13⟩
 have t13 := t12.step b13
 replace CX3 := CX3.later b13
 replace CX5 := CX5.later b13
 replace o3 := o3.later b13
 have m5 := Ow.kept m5 fun a ha => b13.block a (Ow.lt m5 a ha)
 go_wp2_with fail
 refine (toIntSO_calls (Rd.mono (α := List Int) t13 g) sx.out).mono ?_
 rintro e w131 ⟨v131, rfl, o131, b131⟩
 have t131 := t13.step b131
 replace CX3 := CX3.later b131
 replace CX5 := CX5.later b131
 replace o3 := o3.later b131
 have m5 := Ow.kept m5 fun a ha => b131.block a (Ow.lt m5 a ha)
 go_wp2_with fail
 refine (toIntSO_calls (Rd.mono (α := List Int) t131 g2) su.out).mono ?_
 rintro e w132 ⟨v132, rfl, o132, b132⟩
 have t132 := t131.step b132
 replace CX3 := CX3.later b132
 replace CX5 := CX5.later b132
 replace o3 := o3.later b132
 have m5 := Ow.kept m5 fun a ha => b132.block a (Ow.lt m5 a ha)
 go_wp2_with fail
 refine (implTop_calls ((o13.later b131).later b132).rd (o131.later b132).rd o132.rd).mono ?_
 rintro e w14 ⟨cs14, rfl, o14, b14⟩
 have t14 := t132.step b14
 replace CX3 := CX3.later b14
 replace CX5 := CX5.later b14
 replace o3 := o3.later b14
 have m5 := Ow.kept m5 fun a ha => b14.block a (Ow.lt m5 a ha)
 have o14 := o14.shut
 have l14 := Rd.one o14.rd
 obtain ⟨x014, x114, x214, x314, x414, x514, x614, x714, rfl⟩ := list8 (Rd.len o14.rd)
 have st014 := sto Tryz.prog (l14 x014 (by simp))
 have st114 := sto Tryz.prog (l14 x114 (by simp))
 have st214 := sto Tryz.prog (l14 x214 (by simp))
 have st314 := sto Tryz.prog (l14 x314 (by simp))
 have st414 := sto Tryz.prog (l14 x414 (by simp))
 have st514 := sto Tryz.prog (l14 x514 (by simp))
 have st614 := sto Tryz.prog (l14 x614 (by simp))
 have st714 := sto Tryz.prog (l14 x714 (by simp))
 have o14 := o14.alloc (.cells #[x014, x114, x214, x314, x414, x514, x614, x714] 30)
 have CX14 := Cells.new w14 [x014, x114, x214, x314, x414, x514, x614, x714] 30
 replace CX3 := CX3.alloc (.cells #[x014, x114, x214, x314, x414, x514, x614, x714] 30)
 replace CX5 := CX5.alloc (.cells #[x014, x114, x214, x314, x414, x514, x614, x714] 30)
 replace o3 := o3.alloc (.cells #[x014, x114, x214, x314, x414, x514, x614, x714] 30)
 have t14 := t14.alloc t14.size (.cells #[x014, x114, x214, x314, x414, x514, x614, x714] 30)
 clear l14
 have m5 := Ow.kept m5 fun a ha => Below.heap_alloc w14 (.cells #[x014, x114, x214, x314, x414, x514, x614, x714] 30) a (Ow.lt m5 a ha)
 obtain ⟨s014, s114, s214, s314, s414, s514, s614, s714⟩ := cells8 CX14
 obtain ⟨s03, s13, s23, s33, s43, s53, s63, s73⟩ := cells8 CX3
 go_wp2_with fail
 clear s014 s114 s214 s314 s414 s514 s614 s714
 clear s03 s13 s23 s33 s43 s53 s63 s73
 refine (eqProg_calls o14.rd o3.rd).mono ?_
 rintro e w15 ⟨rfl, b15⟩
 have t15 := t14.step b15
 replace CX5 := CX5.later b15
 clear st014 st114 st214 st314 st414 st514 st614 st714
 obtain ⟨s05, s15, s25, s35, s45, s55, s65, s75⟩ := cells8 CX5
 go_wp2_with fail
 clear s05 s15 s25 s35 s45 s55 s65 s75
 refine (heldProg_calls 1 (Rd.mono b15 (Ow.rd m5)) (by omega) (by omega)).mono ?_
 rintro e w16 ⟨rfl, b16⟩
 have t16 := t15.step b16
 go_wp2
 go_ret
 exact ⟨rfl, t16⟩

set_option maxRecDepth 100000 in
theorem lifted (os : Os) (started : os.Started) (H : Type) (enc : TypeId × Value → H) :
  ReturnsInHanded {} Tryz.checked os 6 .any (Rows.fnExactTopSpec.pre6 enc Tryz.prog Tryz.f6 Rows.fnExactTopRow.domain false) (Rows.fnExactTopSpec.post enc Tryz.prog Tryz.f6 false true false false) := by
 refine returnsInHanded_of_change (C := Tryz.checked) own started (by kernel_rfl) Tryz.func6
  (ChangeSpec.witness6 (enc := enc) (C := Tryz.checked) false ⟨#[], #[.agg #[.int .i64 0, .slice none 0 0, .slice none 0 0, .bool false, .slice none 0 0, .slice none 0 0, .slice none 0 0, .slice none 0 0], .slice none 0 0, .slice none 0 0], []⟩ 8 (by kernel_rfl) (by kernel_rfl) (by kernel_rfl) (by kernel_rfl)) ?_
 intro W base args ds gs before hval0 hW hcnd _
 have hval : ∀ (j : Nat) t v, Tryz.f6.params[j]? = some t → args[j]? = some v → Value.okWide Tryz.prog W .any base t v := hval0
 have hW' := hW
 obtain ⟨p, q, hA0, hV, rfl, hfz, hnd⟩ := hW
 have hA : DataW.TrodAll enc Tryz.prog W 0 (fun _ => true) true Tryz.f6.params.toList args.toList ds p := hA0
 rw [Tryz.params6] at hA hval
 obtain ⟨v0, vs0, d0, ds0, p0, q0, hargs, rfl, rfl, h0, r0⟩ := trodAll_cons hA
 obtain ⟨v1, vs1, d1, ds1, p1, q1, rfl, rfl, rfl, h1, r1⟩ := trodAll_cons r0
 obtain ⟨v2, vs2, d2, ds2, p2, q2, rfl, rfl, rfl, h2, r2⟩ := trodAll_cons r1
 obtain ⟨rfl, rfl, rfl⟩ := trodAll_nil r2
 obtain rfl : args = #[v0, v1, v2] := by cases args; simp_all
 obtain ⟨rfl, rfl⟩ := trodVars_none hV
 have k0 := h0
 have lt0 : ∀ x ∈ p0, x.block < W.heap.size := by obtain ⟨m, hm⟩ := k0; exact DataW.trod_lt m _ _ _ hm
 obtain ⟨cs0, x0, rfl, w0⟩ := arg_struct Tryz.underlying59 opens_prog (hval 0 59 v0 rfl rfl) h0
 have k1 := h1
 have lt1 : ∀ x ∈ p1, x.block < W.heap.size := by obtain ⟨m, hm⟩ := k1; exact DataW.trod_lt m _ _ _ hm
 obtain ⟨x1, w1⟩ := arg_slice Tryz.underlying26 opens_ints (hval 1 26 v1 rfl rfl) h1
 have k2 := h2
 have lt2 : ∀ x ∈ p2, x.block < W.heap.size := by obtain ⟨m, hm⟩ := k2; exact DataW.trod_lt m _ _ _ hm
 obtain ⟨x2, w2⟩ := arg_slice Tryz.underlying26 opens_ints (hval 2 26 v2 rfl rfl) h2
 clear hA0 hval0
 refine (law w0 w1 w2).mono fun e W' ⟨he, bel⟩ => ?_
 subst he
 exact ⟨_, rfl, _, _, _, [], _, [], hW', trodAll_mk1 (shut_bool Tryz.underlying4 _), (trodAll_cons_mk (Below.trod laidOut (by kernel_rfl) (of_decide_eq_true (by kernel_rfl)) k0 bel lt0) (trodAll_cons_mk (Below.trod laidOut (by kernel_rfl) (of_decide_eq_true (by kernel_rfl)) k1 bel lt1) (trodAll_cons_mk (Below.trod laidOut (by kernel_rfl) (of_decide_eq_true (by kernel_rfl)) k2 bel lt2) trodAll_mk0))), rfl, bel.frame _, fun h => by cases h⟩

theorem over : Rows.fnExactTopRow.holds Tryz.pinned (OpenSpec.ofChange Rows.fnExactTopSpec) :=
 OpenClaim.holds_of_wide 6 Tryz.f6 rfl rfl rfl rfl rfl rfl rfl ⟨rfl, rfl, rfl, rfl, rfl⟩ rfl rfl rfl rfl rfl (by kernel_rfl) Tryz.func6 (by kernel_rfl)
  (of_decide_eq_true (by kernel_rfl)) (by unfold Func.isWrapper; first | (rw [if_pos (by decide +kernel)]; kernel_rfl) | (rw [if_neg (by decide +kernel)]; exact ⟨rfl, rfl⟩))
  (fun os started H enc _ => lifted os started H enc)

theorem proved : Rows.FnExactTopSaid := over
end Go.Proofs.YthikhkeofcjdfaaGreat.fnExactTop
