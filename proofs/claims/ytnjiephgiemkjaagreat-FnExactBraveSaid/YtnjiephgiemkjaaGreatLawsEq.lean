/-
  The laws' own comparisons: what reads as the same data is found the same. No condition of its own.
-/
import Derived.Test.YtnjiephgiemkjaaGreatFill
import Derived.Test.YtnjiephgiemkjaaGreatLawsInts
import Derived.StillTailTactics
namespace Go.Proofs.YtnjiephgiemkjaaGreat
set_option linter.unusedVariables false
set_option linter.unusedSimpArgs false
open Go.RowKit
set_option maxRecDepth 100000

theorem eqIntSR_calls {v v' : Value} {xs : List Int} {w : World} (h : RdL w [v] xs) (h' : RdL w [v'] xs) :
    Calls Tryz.prog 12 #[v, v'] w fun e w' => e = .returned (.bool true) ∧ Below w.heap.size w w' := by
  obtain ⟨a, cap, rfl, _, hr⟩ := h.sl
  obtain ⟨a', cap', rfl, _, hr'⟩ := h'.sl
  have := eqIntS_calls a a' xs xs cap cap' w hr.ints hr'.ints
  rw [eqB_self] at this
  exact this

set_option maxHeartbeats 400000 in
theorem eqWLit_calls {cs cs' : List Value} {x : Int × Int} {w : World} (h : Rd.R w cs x) (h' : Rd.R w cs' x) :
    Calls Tryz.prog 159 #[.agg cs.toArray, .agg cs'.toArray] w fun e w' => e = .returned (.bool true) ∧ Below w.heap.size w w' := by
  obtain ⟨rfl, hf⟩ := h
  obtain ⟨rfl, _⟩ := h'
  clear hf
  go_enter Tryz.func159, Tryz.ntmps159
  go_wp2
  go_ret
  exact ⟨rfl, ((Below.refl _ _).alloc (by simp) _).alloc (by simp) _⟩

set_option maxHeartbeats 400000 in
theorem eqExt_calls {cs cs' : List Value} {x : Int × Int} {w : World} (h : Rd.R w cs x) (h' : Rd.R w cs' x) :
    Calls Tryz.prog 95 #[.agg cs.toArray, .agg cs'.toArray] w fun e w' => e = .returned (.bool true) ∧ Below w.heap.size w w' := by
  obtain ⟨rfl, hf⟩ := h
  obtain ⟨rfl, _⟩ := h'
  clear hf
  go_enter Tryz.func95, Tryz.ntmps95
  go_wp2
  go_ret
  exact ⟨rfl, ((Below.refl _ _).alloc (by simp) _).alloc (by simp) _⟩

set_option maxHeartbeats 1000000 in
theorem eqWLitS_calls {v v' : Value} {xs : List (Int × Int)} {w : World} (h : RdL w [v] xs) (h' : RdL w [v'] xs) :
    Calls Tryz.prog 133 #[v, v'] w fun e w' => e = .returned (.bool true) ∧ Below w.heap.size w w' := by
  obtain ⟨a, cap, rfl, _, h⟩ := h.sl
  obtain ⟨a', cap', rfl, _, h'⟩ := h'.sl
  have hm := h.1
  by_cases hne : 0 < xs.length
  · obtain ⟨b, off, rfl, hc⟩ := h.base hne
    obtain ⟨b', off', rfl, hc'⟩ := h'.base hne
    have HC := Lib.hid hc
    have HC' := Lib.hid hc'
    clear h hc h' hc'
    go_enter Tryz.func133, Tryz.ntmps133
    go_wp2
    go_loopw [5] (fun i wr => ∃ k : Nat, k ≤ xs.length ∧ i = .int .i64 k ∧ Below w.heap.size w wr) (fun i _ => xs.length - (intOf i).toNat)
    case atStart => exact ⟨0, Nat.zero_le _, rfl, Below.refl _ _⟩
    case round =>
      obtain ⟨k, hk, rfl, hb⟩ := hrel
      by_cases hlt : k < xs.length
      · obtain ⟨ecs, hC, hR⟩ := HC.out k hlt
        obtain ⟨ecs', hC', hR'⟩ := HC'.out k hlt
        have hR := Rd.mono hb hR
        have hR' := Rd.mono hb hR'
        have hC := hC.later hb
        have hC' := hC'.later hb
        obtain ⟨e0, e1, rfl⟩ := list2 (Rd.len hR)
        obtain ⟨f0, f1, rfl⟩ := list2 (Rd.len hR')
        have u0 : wr.cell? ⟨b, off + k * 2, none⟩ = some e0 := hC.c0
        have v0 : wr.cell? ⟨b', off' + k * 2, none⟩ = some f0 := hC'.c0
        have u1 : wr.cell? ⟨b, off + k * 2+ 1, none⟩ = some e1 := hC.c1
        have v1 : wr.cell? ⟨b', off' + k * 2+ 1, none⟩ = some f1 := hC'.c1
        clear hC hC'
        go_wp2
        go_still_tail 8, (by kernel_rfl)
        go_wp2_with fail
        refine (eqWLit_calls (Rd.mono (by first | exact (Below.refl _ _).drew | exact below_drewN (Below.refl _ _) _) hR) (Rd.mono (by first | exact (Below.refl _ _).drew | exact below_drewN (Below.refl _ _) _) hR')).mono ?_
        rintro e w2 ⟨rfl, hb2⟩
        have hbe : Below w.heap.size w w2 := (show Below w.heap.size w _ by first | exact hb.drew | exact below_drewN hb _).step hb2
        clear hR hR' hb2
        go_wp2
        go_roundw
        case rel => exact ⟨k + 1, by omega, by go_num, hbe⟩
        case measure => simp [intOf]; omega
      · go_wp2
        go_ret
        exact ⟨rfl, hb⟩
  · have : xs = [] := by cases xs <;> simp_all
    subst this
    clear h h' hne
    go_enter Tryz.func133, Tryz.ntmps133
    go_wp2
    refine wp_loop_rounds 1 ?_
    rw [rounds_succ]
    go_wp2
    go_ret
    exact ⟨rfl, Below.refl _ _⟩


set_option maxHeartbeats 400000 in
theorem eqRule_calls {cs cs' : List Value} {x : RuleD} {w : World} (h : Rd.R w cs x) (h' : Rd.R w cs' x) :
    Calls Tryz.prog 92 #[.agg cs.toArray, .agg cs'.toArray] w fun e w' => e = .returned (.bool true) ∧ Below w.heap.size w w' := by
  obtain ⟨c1, c4, rfl, hf, h1, h4⟩ := h
  obtain ⟨d1, d4, rfl, _, h1', h4'⟩ := h'
  clear hf
  have t0 : Below w.heap.size w ((w.alloc (.cells #[.bool x.choice, c1, .bool x.weight, .int .i64 x.bound, c4] 120)).alloc (.cells #[.bool x.choice, d1, .bool x.weight, .int .i64 x.bound, d4] 120)) := ((Below.refl _ _).alloc (by simp) _).alloc (by simp) _
  go_enter Tryz.func92, Tryz.ntmps92
  go_wp2_with fail
  refine (eqIntSR_calls (Rd.mono (α := List (Int)) t0 h1) (Rd.mono (α := List (Int)) t0 h1')).mono ?_
  rintro e w1 ⟨rfl, b1⟩
  have hz1 : w.heap.size + 1 < w1.heap.size := by have := b1.size; (try simp at this); omega
  have hx1 : w.heap.size < w1.heap.size := by omega
  have t1 := t0.step b1
  obtain ⟨hc1, hf1⟩ := bcell b1
  go_wp2_with fail
  refine (eqWLitS_calls (Rd.mono (α := List (Int × Int)) t1 h4) (Rd.mono (α := List (Int × Int)) t1 h4')).mono ?_
  rintro e w2 ⟨rfl, b2⟩
  have hz2 : w.heap.size + 1 < w2.heap.size := by have := b2.size; (try simp at this); omega
  have hx2 : w.heap.size < w2.heap.size := by omega
  have t2 := t1.step b2
  obtain ⟨hc2, hf2⟩ := bcell b2
  go_wp2_with fail
  go_ret
  exact ⟨rfl, t2⟩

set_option maxHeartbeats 400000 in
theorem eqLevel_calls {cs cs' : List Value} {x : LevelD} {w : World} (h : Rd.R w cs x) (h' : Rd.R w cs' x) :
    Calls Tryz.prog 93 #[.agg cs.toArray, .agg cs'.toArray] w fun e w' => e = .returned (.bool true) ∧ Below w.heap.size w w' := by
  obtain ⟨c1, rfl, hf, h1⟩ := h
  obtain ⟨d1, rfl, _, h1'⟩ := h'
  clear hf
  have t0 : Below w.heap.size w ((w.alloc (.cells #[.int .i64 x.p, c1] 123)).alloc (.cells #[.int .i64 x.p, d1] 123)) := ((Below.refl _ _).alloc (by simp) _).alloc (by simp) _
  go_enter Tryz.func93, Tryz.ntmps93
  go_wp2_with fail
  refine (eqWLitS_calls (Rd.mono (α := List (Int × Int)) t0 h1) (Rd.mono (α := List (Int × Int)) t0 h1')).mono ?_
  rintro e w1 ⟨rfl, b1⟩
  have hz1 : w.heap.size + 1 < w1.heap.size := by have := b1.size; (try simp at this); omega
  have hx1 : w.heap.size < w1.heap.size := by omega
  have t1 := t0.step b1
  obtain ⟨hc1, hf1⟩ := bcell b1
  go_wp2_with fail
  go_ret
  exact ⟨rfl, t1⟩

set_option maxHeartbeats 400000 in
theorem eqShow_calls {cs cs' : List Value} {x : ShowD} {w : World} (h : Rd.R w cs x) (h' : Rd.R w cs' x) :
    Calls Tryz.prog 94 #[.agg cs.toArray, .agg cs'.toArray] w fun e w' => e = .returned (.bool true) ∧ Below w.heap.size w w' := by
  obtain ⟨c1, rfl, hf, h1⟩ := h
  obtain ⟨d1, rfl, _, h1'⟩ := h'
  clear hf
  have t0 : Below w.heap.size w ((w.alloc (.cells #[.string x.text, c1] 125)).alloc (.cells #[.string x.text, d1] 125)) := ((Below.refl _ _).alloc (by simp) _).alloc (by simp) _
  go_enter Tryz.func94, Tryz.ntmps94
  go_wp2_with fail
  refine (eqIntSR_calls (Rd.mono (α := List (Int)) t0 h1) (Rd.mono (α := List (Int)) t0 h1')).mono ?_
  rintro e w1 ⟨rfl, b1⟩
  have hz1 : w.heap.size + 1 < w1.heap.size := by have := b1.size; (try simp at this); omega
  have hx1 : w.heap.size < w1.heap.size := by omega
  have t1 := t0.step b1
  obtain ⟨hc1, hf1⟩ := bcell b1
  go_wp2_with fail
  go_ret
  exact ⟨rfl, t1⟩


set_option maxHeartbeats 1000000 in
theorem eqExtS_calls {v v' : Value} {xs : List (Int × Int)} {w : World} (h : RdL w [v] xs) (h' : RdL w [v'] xs) :
    Calls Tryz.prog 49 #[v, v'] w fun e w' => e = .returned (.bool true) ∧ Below w.heap.size w w' := by
  obtain ⟨a, cap, rfl, _, h⟩ := h.sl
  obtain ⟨a', cap', rfl, _, h'⟩ := h'.sl
  have hm := h.1
  by_cases hne : 0 < xs.length
  · obtain ⟨b, off, rfl, hc⟩ := h.base hne
    obtain ⟨b', off', rfl, hc'⟩ := h'.base hne
    have HC := Lib.hid hc
    have HC' := Lib.hid hc'
    clear h hc h' hc'
    go_enter Tryz.func49, Tryz.ntmps49
    go_wp2
    go_loopw [5] (fun i wr => ∃ k : Nat, k ≤ xs.length ∧ i = .int .i64 k ∧ Below w.heap.size w wr) (fun i _ => xs.length - (intOf i).toNat)
    case atStart => exact ⟨0, Nat.zero_le _, rfl, Below.refl _ _⟩
    case round =>
      obtain ⟨k, hk, rfl, hb⟩ := hrel
      by_cases hlt : k < xs.length
      · obtain ⟨ecs, hC, hR⟩ := HC.out k hlt
        obtain ⟨ecs', hC', hR'⟩ := HC'.out k hlt
        have hR := Rd.mono hb hR
        have hR' := Rd.mono hb hR'
        have hC := hC.later hb
        have hC' := hC'.later hb
        obtain ⟨e0, e1, rfl⟩ := list2 (Rd.len hR)
        obtain ⟨f0, f1, rfl⟩ := list2 (Rd.len hR')
        have u0 : wr.cell? ⟨b, off + k * 2, none⟩ = some e0 := hC.c0
        have v0 : wr.cell? ⟨b', off' + k * 2, none⟩ = some f0 := hC'.c0
        have u1 : wr.cell? ⟨b, off + k * 2+ 1, none⟩ = some e1 := hC.c1
        have v1 : wr.cell? ⟨b', off' + k * 2+ 1, none⟩ = some f1 := hC'.c1
        clear hC hC'
        go_wp2
        go_still_tail 8, (by kernel_rfl)
        go_wp2_with fail
        refine (eqExt_calls (Rd.mono (by first | exact (Below.refl _ _).drew | exact below_drewN (Below.refl _ _) _) hR) (Rd.mono (by first | exact (Below.refl _ _).drew | exact below_drewN (Below.refl _ _) _) hR')).mono ?_
        rintro e w2 ⟨rfl, hb2⟩
        have hbe : Below w.heap.size w w2 := (show Below w.heap.size w _ by first | exact hb.drew | exact below_drewN hb _).step hb2
        clear hR hR' hb2
        go_wp2
        go_roundw
        case rel => exact ⟨k + 1, by omega, by go_num, hbe⟩
        case measure => simp [intOf]; omega
      · go_wp2
        go_ret
        exact ⟨rfl, hb⟩
  · have : xs = [] := by cases xs <;> simp_all
    subst this
    clear h h' hne
    go_enter Tryz.func49, Tryz.ntmps49
    go_wp2
    refine wp_loop_rounds 1 ?_
    rw [rounds_succ]
    go_wp2
    go_ret
    exact ⟨rfl, Below.refl _ _⟩

set_option maxHeartbeats 1000000 in
theorem eqLevelS_calls {v v' : Value} {xs : List (LevelD)} {w : World} (h : RdL w [v] xs) (h' : RdL w [v'] xs) :
    Calls Tryz.prog 47 #[v, v'] w fun e w' => e = .returned (.bool true) ∧ Below w.heap.size w w' := by
  obtain ⟨a, cap, rfl, _, h⟩ := h.sl
  obtain ⟨a', cap', rfl, _, h'⟩ := h'.sl
  have hm := h.1
  by_cases hne : 0 < xs.length
  · obtain ⟨b, off, rfl, hc⟩ := h.base hne
    obtain ⟨b', off', rfl, hc'⟩ := h'.base hne
    have HC := Lib.hid hc
    have HC' := Lib.hid hc'
    clear h hc h' hc'
    go_enter Tryz.func47, Tryz.ntmps47
    go_wp2
    go_loopw [5] (fun i wr => ∃ k : Nat, k ≤ xs.length ∧ i = .int .i64 k ∧ Below w.heap.size w wr) (fun i _ => xs.length - (intOf i).toNat)
    case atStart => exact ⟨0, Nat.zero_le _, rfl, Below.refl _ _⟩
    case round =>
      obtain ⟨k, hk, rfl, hb⟩ := hrel
      by_cases hlt : k < xs.length
      · obtain ⟨ecs, hC, hR⟩ := HC.out k hlt
        obtain ⟨ecs', hC', hR'⟩ := HC'.out k hlt
        have hR := Rd.mono hb hR
        have hR' := Rd.mono hb hR'
        have hC := hC.later hb
        have hC' := hC'.later hb
        obtain ⟨e0, e1, rfl⟩ := list2 (Rd.len hR)
        obtain ⟨f0, f1, rfl⟩ := list2 (Rd.len hR')
        have u0 : wr.cell? ⟨b, off + k * 2, none⟩ = some e0 := hC.c0
        have v0 : wr.cell? ⟨b', off' + k * 2, none⟩ = some f0 := hC'.c0
        have u1 : wr.cell? ⟨b, off + k * 2+ 1, none⟩ = some e1 := hC.c1
        have v1 : wr.cell? ⟨b', off' + k * 2+ 1, none⟩ = some f1 := hC'.c1
        clear hC hC'
        go_wp2
        go_still_tail 8, (by kernel_rfl)
        go_wp2_with fail
        refine (eqLevel_calls (Rd.mono (by first | exact (Below.refl _ _).drew | exact below_drewN (Below.refl _ _) _) hR) (Rd.mono (by first | exact (Below.refl _ _).drew | exact below_drewN (Below.refl _ _) _) hR')).mono ?_
        rintro e w2 ⟨rfl, hb2⟩
        have hbe : Below w.heap.size w w2 := (show Below w.heap.size w _ by first | exact hb.drew | exact below_drewN hb _).step hb2
        clear hR hR' hb2
        go_wp2
        go_roundw
        case rel => exact ⟨k + 1, by omega, by go_num, hbe⟩
        case measure => simp [intOf]; omega
      · go_wp2
        go_ret
        exact ⟨rfl, hb⟩
  · have : xs = [] := by cases xs <;> simp_all
    subst this
    clear h h' hne
    go_enter Tryz.func47, Tryz.ntmps47
    go_wp2
    refine wp_loop_rounds 1 ?_
    rw [rounds_succ]
    go_wp2
    go_ret
    exact ⟨rfl, Below.refl _ _⟩

set_option maxHeartbeats 1000000 in
theorem eqShowS_calls {v v' : Value} {xs : List (ShowD)} {w : World} (h : RdL w [v] xs) (h' : RdL w [v'] xs) :
    Calls Tryz.prog 48 #[v, v'] w fun e w' => e = .returned (.bool true) ∧ Below w.heap.size w w' := by
  obtain ⟨a, cap, rfl, _, h⟩ := h.sl
  obtain ⟨a', cap', rfl, _, h'⟩ := h'.sl
  have hm := h.1
  by_cases hne : 0 < xs.length
  · obtain ⟨b, off, rfl, hc⟩ := h.base hne
    obtain ⟨b', off', rfl, hc'⟩ := h'.base hne
    have HC := Lib.hid hc
    have HC' := Lib.hid hc'
    clear h hc h' hc'
    go_enter Tryz.func48, Tryz.ntmps48
    go_wp2
    go_loopw [5] (fun i wr => ∃ k : Nat, k ≤ xs.length ∧ i = .int .i64 k ∧ Below w.heap.size w wr) (fun i _ => xs.length - (intOf i).toNat)
    case atStart => exact ⟨0, Nat.zero_le _, rfl, Below.refl _ _⟩
    case round =>
      obtain ⟨k, hk, rfl, hb⟩ := hrel
      by_cases hlt : k < xs.length
      · obtain ⟨ecs, hC, hR⟩ := HC.out k hlt
        obtain ⟨ecs', hC', hR'⟩ := HC'.out k hlt
        have hR := Rd.mono hb hR
        have hR' := Rd.mono hb hR'
        have hC := hC.later hb
        have hC' := hC'.later hb
        obtain ⟨e0, e1, rfl⟩ := list2 (Rd.len hR)
        obtain ⟨f0, f1, rfl⟩ := list2 (Rd.len hR')
        have u0 : wr.cell? ⟨b, off + k * 2, none⟩ = some e0 := hC.c0
        have v0 : wr.cell? ⟨b', off' + k * 2, none⟩ = some f0 := hC'.c0
        have u1 : wr.cell? ⟨b, off + k * 2+ 1, none⟩ = some e1 := hC.c1
        have v1 : wr.cell? ⟨b', off' + k * 2+ 1, none⟩ = some f1 := hC'.c1
        clear hC hC'
        go_wp2
        go_still_tail 8, (by kernel_rfl)
        go_wp2_with fail
        refine (eqShow_calls (Rd.mono (by first | exact (Below.refl _ _).drew | exact below_drewN (Below.refl _ _) _) hR) (Rd.mono (by first | exact (Below.refl _ _).drew | exact below_drewN (Below.refl _ _) _) hR')).mono ?_
        rintro e w2 ⟨rfl, hb2⟩
        have hbe : Below w.heap.size w w2 := (show Below w.heap.size w _ by first | exact hb.drew | exact below_drewN hb _).step hb2
        clear hR hR' hb2
        go_wp2
        go_roundw
        case rel => exact ⟨k + 1, by omega, by go_num, hbe⟩
        case measure => simp [intOf]; omega
      · go_wp2
        go_ret
        exact ⟨rfl, hb⟩
  · have : xs = [] := by cases xs <;> simp_all
    subst this
    clear h h' hne
    go_enter Tryz.func48, Tryz.ntmps48
    go_wp2
    refine wp_loop_rounds 1 ?_
    rw [rounds_succ]
    go_wp2
    go_ret
    exact ⟨rfl, Below.refl _ _⟩

set_option maxHeartbeats 1000000 in
theorem eqRuleS_calls {v v' : Value} {xs : List (RuleD)} {w : World} (h : RdL w [v] xs) (h' : RdL w [v'] xs) :
    Calls Tryz.prog 46 #[v, v'] w fun e w' => e = .returned (.bool true) ∧ Below w.heap.size w w' := by
  obtain ⟨a, cap, rfl, _, h⟩ := h.sl
  obtain ⟨a', cap', rfl, _, h'⟩ := h'.sl
  have hm := h.1
  by_cases hne : 0 < xs.length
  · obtain ⟨b, off, rfl, hc⟩ := h.base hne
    obtain ⟨b', off', rfl, hc'⟩ := h'.base hne
    have HC := Lib.hid hc
    have HC' := Lib.hid hc'
    clear h hc h' hc'
    go_enter Tryz.func46, Tryz.ntmps46
    go_wp2
    go_loopw [5] (fun i wr => ∃ k : Nat, k ≤ xs.length ∧ i = .int .i64 k ∧ Below w.heap.size w wr) (fun i _ => xs.length - (intOf i).toNat)
    case atStart => exact ⟨0, Nat.zero_le _, rfl, Below.refl _ _⟩
    case round =>
      obtain ⟨k, hk, rfl, hb⟩ := hrel
      by_cases hlt : k < xs.length
      · obtain ⟨ecs, hC, hR⟩ := HC.out k hlt
        obtain ⟨ecs', hC', hR'⟩ := HC'.out k hlt
        have hR := Rd.mono hb hR
        have hR' := Rd.mono hb hR'
        have hC := hC.later hb
        have hC' := hC'.later hb
        obtain ⟨e0, e1, e2, e3, e4, rfl⟩ := list5 (Rd.len hR)
        obtain ⟨f0, f1, f2, f3, f4, rfl⟩ := list5 (Rd.len hR')
        have u0 : wr.cell? ⟨b, off + k * 5, none⟩ = some e0 := hC.c0
        have v0 : wr.cell? ⟨b', off' + k * 5, none⟩ = some f0 := hC'.c0
        have u1 : wr.cell? ⟨b, off + k * 5+ 1, none⟩ = some e1 := hC.c1
        have v1 : wr.cell? ⟨b', off' + k * 5+ 1, none⟩ = some f1 := hC'.c1
        have u2 : wr.cell? ⟨b, off + k * 5+ 2, none⟩ = some e2 := hC.c2
        have v2 : wr.cell? ⟨b', off' + k * 5+ 2, none⟩ = some f2 := hC'.c2
        have u3 : wr.cell? ⟨b, off + k * 5+ 3, none⟩ = some e3 := hC.c3
        have v3 : wr.cell? ⟨b', off' + k * 5+ 3, none⟩ = some f3 := hC'.c3
        have u4 : wr.cell? ⟨b, off + k * 5+ 4, none⟩ = some e4 := hC.c4
        have v4 : wr.cell? ⟨b', off' + k * 5+ 4, none⟩ = some f4 := hC'.c4
        clear hC hC'
        go_wp2
        go_still_tail 8, (by kernel_rfl)
        go_wp2_with fail
        refine (eqRule_calls (Rd.mono (by first | exact (Below.refl _ _).drew | exact below_drewN (Below.refl _ _) _) hR) (Rd.mono (by first | exact (Below.refl _ _).drew | exact below_drewN (Below.refl _ _) _) hR')).mono ?_
        rintro e w2 ⟨rfl, hb2⟩
        have hbe : Below w.heap.size w w2 := (show Below w.heap.size w _ by first | exact hb.drew | exact below_drewN hb _).step hb2
        clear hR hR' hb2
        go_wp2
        go_roundw
        case rel => exact ⟨k + 1, by omega, by go_num, hbe⟩
        case measure => simp [intOf]; omega
      · go_wp2
        go_ret
        exact ⟨rfl, hb⟩
  · have : xs = [] := by cases xs <;> simp_all
    subst this
    clear h h' hne
    go_enter Tryz.func46, Tryz.ntmps46
    go_wp2
    refine wp_loop_rounds 1 ?_
    rw [rounds_succ]
    go_wp2
    go_ret
    exact ⟨rfl, Below.refl _ _⟩

set_option maxHeartbeats 1000000 in
theorem eqProg_calls {cs cs' : List Value} {x : ProgD} {w : World} (h : Rd.R w cs x) (h' : Rd.R w cs' x) :
    Calls Tryz.prog 13 #[.agg cs.toArray, .agg cs'.toArray] w fun e w' => e = .returned (.bool true) ∧ Below w.heap.size w w' := by
  obtain ⟨c1, c2, c4, c5, c6, c7, rfl, hf, h1, h2, h4, h5, h6, h7⟩ := h
  obtain ⟨d1, d2, d4, d5, d6, d7, rfl, _, h1', h2', h4', h5', h6', h7'⟩ := h'
  clear hf
  have t0 : Below w.heap.size w ((w.alloc (.cells #[.int .i64 x.atoms, c1, c2, .bool x.projOn, c4, c5, c6, c7] 37)).alloc (.cells #[.int .i64 x.atoms, d1, d2, .bool x.projOn, d4, d5, d6, d7] 37)) := ((Below.refl _ _).alloc (by simp) _).alloc (by simp) _
  go_enter Tryz.func13, Tryz.ntmps13
  go_wp2_with fail
  refine (eqRuleS_calls (Rd.mono (α := List (RuleD)) t0 h1) (Rd.mono (α := List (RuleD)) t0 h1')).mono ?_
  rintro e w1 ⟨rfl, b1⟩
  have hz1 : w.heap.size + 1 < w1.heap.size := by have := b1.size; (try simp at this); omega
  have hx1 : w.heap.size < w1.heap.size := by omega
  have t1 := t0.step b1
  obtain ⟨hc1, hf1⟩ := bcell b1
  go_wp2_with fail
  refine (eqLevelS_calls (Rd.mono (α := List (LevelD)) t1 h2) (Rd.mono (α := List (LevelD)) t1 h2')).mono ?_
  rintro e w2 ⟨rfl, b2⟩
  have hz2 : w.heap.size + 1 < w2.heap.size := by have := b2.size; (try simp at this); omega
  have hx2 : w.heap.size < w2.heap.size := by omega
  have t2 := t1.step b2
  obtain ⟨hc2, hf2⟩ := bcell b2
  go_wp2_with fail
  refine (eqIntSR_calls (Rd.mono (α := List (Int)) t2 h4) (Rd.mono (α := List (Int)) t2 h4')).mono ?_
  rintro e w3 ⟨rfl, b3⟩
  have hz3 : w.heap.size + 1 < w3.heap.size := by have := b3.size; (try simp at this); omega
  have hx3 : w.heap.size < w3.heap.size := by omega
  have t3 := t2.step b3
  obtain ⟨hc3, hf3⟩ := bcell b3
  go_wp2_with fail
  refine (eqShowS_calls (Rd.mono (α := List (ShowD)) t3 h5) (Rd.mono (α := List (ShowD)) t3 h5')).mono ?_
  rintro e w4 ⟨rfl, b4⟩
  have hz4 : w.heap.size + 1 < w4.heap.size := by have := b4.size; (try simp at this); omega
  have hx4 : w.heap.size < w4.heap.size := by omega
  have t4 := t3.step b4
  obtain ⟨hc4, hf4⟩ := bcell b4
  go_wp2_with fail
  refine (eqExtS_calls (Rd.mono (α := List (Int × Int)) t4 h6) (Rd.mono (α := List (Int × Int)) t4 h6')).mono ?_
  rintro e w5 ⟨rfl, b5⟩
  have hz5 : w.heap.size + 1 < w5.heap.size := by have := b5.size; (try simp at this); omega
  have hx5 : w.heap.size < w5.heap.size := by omega
  have t5 := t4.step b5
  obtain ⟨hc5, hf5⟩ := bcell b5
  go_wp2_with fail
  refine (eqIntSR_calls (Rd.mono (α := List (Int)) t5 h7) (Rd.mono (α := List (Int)) t5 h7')).mono ?_
  rintro e w6 ⟨rfl, b6⟩
  have hz6 : w.heap.size + 1 < w6.heap.size := by have := b6.size; (try simp at this); omega
  have hx6 : w.heap.size < w6.heap.size := by omega
  have t6 := t5.step b6
  obtain ⟨hc6, hf6⟩ := bcell b6
  go_wp2_with fail
  go_ret
  exact ⟨rfl, t6⟩


end Go.Proofs.YtnjiephgiemkjaaGreat
