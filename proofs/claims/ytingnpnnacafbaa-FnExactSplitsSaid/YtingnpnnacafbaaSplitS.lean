/-
  Search: which atom is asked next: the model's and the program's. No condition of its own.
-/
import Derived.Test.YtingnpnnacafbaaSplit
import Derived.Deep.RegionWith
namespace Go.Proofs.Ytingnpnnacafbaa
set_option linter.unusedVariables false
set_option linter.unusedSimpArgs false
open Go.RowKit
set_option maxRecDepth 100000
set_option linter.unusedVariables false
set_option linter.unusedSimpArgs false


def splA (p : ProgD) (os vs : List Int) : Int := if valsOkR p vs then atomI (splitL vs os) else 0
def splB (p : ProgD) (os vs : List Int) : Bool := valsOkR p vs && decide (0 < splitL vs os)
theorem spl_no {p : ProgD} {os vs : List Int} (h : valsOkR p vs = false) : splA p os vs = 0 ∧ splB p os vs = false := by
  unfold splA splB; rw [h]; exact ⟨rfl, rfl⟩
theorem spl_yes {p : ProgD} {os vs : List Int} (h : valsOkR p vs = true) : splA p os vs = atomI (splitL vs os) ∧ splB p os vs = decide (0 < splitL vs os) := by
  unfold splA splB; rw [h]; exact ⟨rfl, rfl⟩

set_option maxHeartbeats 2000000 in
theorem specSplits_calls {cs : List Value} {p : ProgD} {w : World} {v u : Value} {os vs : List Int} (h : Rd.R w cs p) (go : RdL w [v] os) (gx : RdL w [u] vs) :
    Calls Try.prog 15 #[.agg cs.toArray, v, u] w fun e w' => e = .returned (.tuple #[.int .i64 (splA p os vs), .bool (splB p os vs)]) ∧ Below w.heap.size w w' := by
  have gv := gx
  obtain ⟨p0, p1, p2, p3, p4, p5, p6, p7, rfl⟩ := list8 (Rd.len h)
  obtain ⟨ax, cx, rfl, _, hx⟩ := gx.sl
  have t0 : Below w.heap.size w (w.alloc (.cells #[p0, p1, p2, p3, p4, p5, p6, p7] 30)) := (Below.refl _ _).alloc (by simp) _
  obtain ⟨ao, co, rfl, _, hxo⟩ := go.sl
  cases hO : valsOkR p vs
  · obtain ⟨hA, hB⟩ := spl_no (os := os) hO
    rw [hA, hB]
    go_enter Try.func15, Try.ntmps15
    go_wp2_with fail
    refine (specValsOk_calls (Rd.mono t0 h) (Rd.mono (α := List Int) t0 gv)).mono ?_
    rintro e w1 ⟨he, b1⟩
    have t1 := t0.step b1
    rw [hO] at he
    subst he
    go_wp2
    exact bodyPost_ret (v := .tuple #[.int .i64 0, .bool false]) (by simp [results, Try.results15, go_sem]) rfl ⟨rfl, t1⟩
  · obtain ⟨hA, hB⟩ := spl_yes (os := os) hO
    obtain ⟨_, hV⟩ := valsOk_V hO
    have HL : Hid (vs.length ≤ 12) := hV.2.1
    rw [hA, hB]
    go_enter Try.func15, Try.ntmps15
    go_wp2_with fail
    refine (specValsOk_calls (Rd.mono t0 h) (Rd.mono (α := List Int) t0 gv)).mono ?_
    rintro e w1 ⟨he, b1⟩
    have t1 := t0.step b1
    rw [hO] at he
    subst he
    clear hA hB hV hO
    go_wp2_with (go_at_call 38; refine (l09Split_calls _ _ os vs _ _ _ (hxo.later t1).ints (hx.later t1).ints HL.out).mono ?_; rintro e w2 ⟨rfl, b2⟩)
    refine bodyPost_ret (v := .tuple #[.int .i64 (atomI (splitL vs os)), .bool (decide (0 < splitL vs os))]) (by simp [results, Try.results15, go_sem]) rfl ⟨rfl, t1.step b2⟩

theorem upS_pow {n : Nat} (hn : n ≤ 12) : ((2 : Int) ^ n) = ((2 ^ n : Nat) : Int) ∧ 1 ≤ 2 ^ n ∧ 2 ^ n ≤ 4096 := by
  have h1 : 2 ^ n ≤ 2 ^ 12 := Nat.pow_le_pow_right (by omega) hn
  have h2 : 0 < 2 ^ n := Nat.two_pow_pos n
  exact ⟨by simp, h2, h1⟩
theorem upS_calls (n : Nat) (w : World) (hn : n ≤ 12) :
    Calls Try.prog 46 #[.int .i64 (n : Int)] w fun e w' => e = .returned (.int .u16 ((2 ^ n - 1 : Nat) : Int)) ∧ w = w' := by
  obtain ⟨hp, h1, h2⟩ := upS_pow hn
  obtain ⟨P, hP⟩ : ∃ P : Nat, P = 2 ^ n := ⟨_, rfl⟩
  rw [← hP] at hp h1 h2
  have hv : Hid (2 ^ n = P) := hP.symm
  clear hP
  go_enter Try.func46, Try.ntmps46
  go_wp2
  go_ret
  refine ⟨ret_int ?_, rfl⟩
  rw [hv.out]
  first | omega | (unfold IntKind.wrap; simp; omega) | skip
set_option maxHeartbeats 4000000 in
theorem implSplits_calls {cs : List Value} {p : ProgD} {w : World} {v u : Value} {os vs : List Int} (h : Rd.R w cs p) (go : RdL w [v] os) (gx : RdL w [u] vs) :
    Calls Try.prog 18 #[.agg cs.toArray, v, u] w fun e w' => e = .returned (.tuple #[.int .i64 (splA p os vs), .bool (splB p os vs)]) ∧ Below w.heap.size w w' := by
  have gv := gx
  obtain ⟨p0, p1, p2, p3, p4, p5, p6, p7, rfl⟩ := list8 (Rd.len h)
  obtain ⟨ax, cx, rfl, _, hx⟩ := gx.sl
  have t0 : Below w.heap.size w (w.alloc (.cells #[p0, p1, p2, p3, p4, p5, p6, p7] 30)) := (Below.refl _ _).alloc (by simp) _
  obtain ⟨ao, co, rfl, _, hxo⟩ := go.sl
  cases hO : valsOkR p vs
  · obtain ⟨hA, hB⟩ := spl_no (os := os) hO
    rw [hA, hB]
    go_enter Try.func18, Try.ntmps18
    go_wp2_with fail
    refine (foldedFor_calls (Rd.mono t0 h) (Rd.mono (α := List Int) t0 gv)).mono ?_
    rintro e w1 ⟨cs1, he, o1, b1⟩
    rw [hO] at he
    subst he
    have t1 := t0.step b1
    have l1 := Rd.one o1.rd
    obtain ⟨x0, x1, x2, x3, x4, x5, x6, x7, rfl⟩ := list8 (Rd.len o1.rd)
    have st0 := sto Try.prog (l1 x0 (by simp))
    have st1 := sto Try.prog (l1 x1 (by simp))
    have st2 := sto Try.prog (l1 x2 (by simp))
    have st3 := sto Try.prog (l1 x3 (by simp))
    have st4 := sto Try.prog (l1 x4 (by simp))
    have st5 := sto Try.prog (l1 x5 (by simp))
    have st6 := sto Try.prog (l1 x6 (by simp))
    have st7 := sto Try.prog (l1 x7 (by simp))
    have o1 := o1.alloc (.cells #[x0, x1, x2, x3, x4, x5, x6, x7] 30)
    have CX1 := Cells.new w1 [x0, x1, x2, x3, x4, x5, x6, x7] 30
    have t1 := t1.alloc t1.size (.cells #[x0, x1, x2, x3, x4, x5, x6, x7] 30)
    clear l1
    go_wp2
    exact bodyPost_ret (v := .tuple #[.int .i64 0, .bool false]) (by simp [results, Try.results18, go_sem]) rfl ⟨rfl, t1⟩
  · obtain ⟨hA, hB⟩ := spl_yes (os := os) hO
    obtain ⟨hat, hV⟩ := valsOk_V hO
    have HV := Lib.hid hV
    have HL : Hid (vs.length ≤ 12) := hV.2.1
    rw [hA, hB]
    go_enter Try.func18, Try.ntmps18
    go_wp2_with fail
    refine (foldedFor_calls (Rd.mono t0 h) (Rd.mono (α := List Int) t0 gv)).mono ?_
    rintro e w1 ⟨cs1, he, o1, b1⟩
    rw [valsP_yes hO] at o1
    rw [hO] at he
    subst he
    clear hA hB hV hO
    have t1 := t0.step b1
    have l1 := Rd.one o1.rd
    obtain ⟨x0, x1, x2, x3, x4, x5, x6, x7, rfl⟩ := list8 (Rd.len o1.rd)
    have st0 := sto Try.prog (l1 x0 (by simp))
    have st1 := sto Try.prog (l1 x1 (by simp))
    have st2 := sto Try.prog (l1 x2 (by simp))
    have st3 := sto Try.prog (l1 x3 (by simp))
    have st4 := sto Try.prog (l1 x4 (by simp))
    have st5 := sto Try.prog (l1 x5 (by simp))
    have st6 := sto Try.prog (l1 x6 (by simp))
    have st7 := sto Try.prog (l1 x7 (by simp))
    have o1 := o1.alloc (.cells #[x0, x1, x2, x3, x4, x5, x6, x7] 30)
    have CX1 := Cells.new w1 [x0, x1, x2, x3, x4, x5, x6, x7] 30
    have t1 := t1.alloc t1.size (.cells #[x0, x1, x2, x3, x4, x5, x6, x7] 30)
    clear l1
    have oR := o1.rd
    obtain ⟨_, _, _, _, _, _, hl, hfa, g1, _⟩ := oR
    simp only [List.cons.injEq, and_true] at hl
    obtain ⟨rfl, rfl, -⟩ := hl
    rw [hat] at CX1 st0 t1
    have hfo : Fits (splitL vs os) := by
      unfold splitL
      cases e : os.find? (fun l => valB vs 0 (atomI l)) with
      | none =>
        have := leastA_in (p := valB vs 0) 12
        show Fits (leastA (valB vs 0) 12)
        exact ⟨by omega, by omega⟩
      | some l => exact hxo.ints.2.1 l (List.mem_of_find?_eq_some e)
    clear g1 o1 hfa
    rw [hat]
    clear hat
    go_wp2
    go_region_held3 (fun w' => w'.cell? ⟨w1.heap.size, 0, none⟩ = some (.int .i64 (vs.length : Int)))
      (first | exact CX1.drew.c0 | exact (CX1.drew.later b2).c0 | exact ((CX1.drew.later b2).later b3).c0)
      (first | (go_at_call 44; refine (valuesOf_calls _ vs _ _ (hx.later t1.drew).ints).mono ?_; rintro e w2 ⟨rfl, b2⟩) |
        (go_at_call 46; refine (upS_calls _ _ HL.out).mono ?_; rintro e w' ⟨rfl, rfl⟩) |
        (go_at_call 45; refine (split_calls _ os vs _ _ (hxo.later (t1.drew.step b2)).ints HV.out).mono ?_; rintro e w3 ⟨rfl, b3⟩))
    all_goals
      go_wp2_with (go_at_call 47; refine (atom_calls _ _ hfo).mono ?_; rintro e w' ⟨rfl, rfl⟩)
      refine bodyPost_ret (v := .tuple #[.int .i64 (atomI (splitL vs os)), .bool (decide (0 < splitL vs os))]) (by simp [results, Try.results18, go_sem]) rfl ⟨rfl, (t1.drew.step b2).step b3⟩


end Go.Proofs.Ytingnpnnacafbaa
