/-
  The program's literals gathered, added up, told apart. No condition of its own.
-/
import Derived.Test.YtgckeaijbmcdcaaGathD
import Derived.BigRegion
namespace Go.Proofs.Ytgckeaijbmcdcaa
open Go.RowKit
set_option maxRecDepth 100000

theorem Kp.setD {B : Nat} {g0 : Nat} {w w' : World} (h : Kp B (fun _ => False) g0 w w') {g : Nat} (hg : g = g0 ∨ B ≤ g) (o : Nat) (v : Value) : Kp B (fun _ => False) g0 w (w'.setCell ⟨g, o, none⟩ v) :=
  ⟨h.os, h.tape, h.output, by simp [World.setCell]; exact h.size, fun k h1 h2 h3 => (Below.heap_setCell _ _ _ _ (by show k ≠ g; omega)).trans (h.block k h1 h2 h3)⟩

set_option maxHeartbeats 1000000 in
theorem together_calls {v : Value} {xs : List Pr} {w : World} (h : RdL w [v] xs) (hl : xs.length ≤ 20) (hb : ∀ p ∈ xs, 1 ≤ p.2 ∧ p.2 ≤ 20000) :
    Calls Try.prog 96 #[v] w fun e w' => e = .returned (.int .i64 (sumH (fun _ => true) xs)) ∧ Below w.heap.size w w' := by
  obtain ⟨a, cap, rfl, _, hr⟩ := h.sl
  have hm := hr.1
  have HB := Lib.hid hb
  clear h hb
  go_enter Try.func96, Try.ntmps96
  go_wp2
  go_loopw [3, 5, 8] (fun s _ i wr => ∃ k : Nat, k ≤ xs.length ∧ i = .int .i64 k ∧ s = .int .i64 (sumH (fun _ => true) (xs.take k)) ∧ 0 ≤ sumH (fun _ => true) (xs.take k) ∧ sumH (fun _ => true) (xs.take k) ≤ 20000 * k ∧ Below w.heap.size w wr) (fun _ _ i _ => xs.length - (intOf i).toNat)
  case atStart => exact ⟨0, Nat.zero_le _, rfl, rfl, by simp [sumH], by simp [sumH], Below.refl _ _⟩
  case round =>
    obtain ⟨k, hk, rfl, rfl, hs0, hs1, hb⟩ := hrel
    obtain ⟨sv, hsv⟩ : ∃ sv, sv = sumH (fun _ => true) (xs.take k) := ⟨_, rfl⟩
    rw [← hsv] at hs0 hs1 ⊢
    by_cases hlt : k < xs.length
    · obtain ⟨b, off, rfl, hc⟩ := hr.base (by omega)
      obtain ⟨ecs, hC, rfl, hf1, hf2⟩ := hc k hlt
      have hC := hC.later hb
      obtain ⟨hp0, hp1⟩ := HB.out _ (nth_mem hlt)
      have u0 := hC.c0
      have u1 := hC.c1
      rw [show Rd.k (Int × Int) = 2 from rfl] at u0 u1
      have hn0 : sv + (nth xs k).2 = sumH (fun _ => true) (xs.take (k + 1)) := by rw [sumH_yes (f := fun _ => true) hlt rfl, hsv]
      have hn := Lib.hid hn0
      have hs2 : sv ≤ 400000 := by omega
      have hbA := hb.alloc hb.size (.cells #[.int .i64 (nth xs k).1, .int .i64 (nth xs k).2] 84)
      clear hC hc hr hn0 hsv
      go_wp2
      go_roundw
      case rel => exact ⟨k + 1, by omega, by go_num, by rw [← hn.out], by rw [← hn.out]; omega, by rw [← hn.out]; push_cast; omega, hbA⟩
      case measure => simp [intOf]; omega
    · have he := Lib.hid (hsv.trans (sumH_end (f := fun _ => true) (l := xs) (k := k) (by omega)))
      clear hsv hr
      go_wp2
      go_ret
      exact ⟨ret_int he.out, hb⟩

set_option maxHeartbeats 1000000 in
theorem eachAbove_calls {v : Value} {xs : List Pr} {w : World} (s : Int) (h : RdL w [v] xs) :
    Calls Try.prog 97 #[v, .int .i64 s] w fun e w' => e = .returned (.bool (xs.all (fun p => decide (s < p.2)))) ∧ Below w.heap.size w w' := by
  obtain ⟨a, cap, rfl, _, hr⟩ := h.sl
  have hm := hr.1
  clear h
  go_enter Try.func97, Try.ntmps97
  go_wp2
  go_loopw [6, 9] (fun _ i wr => ∃ k : Nat, k ≤ xs.length ∧ i = .int .i64 k ∧ Hid ((xs.take k).all (fun p => decide (s < p.2)) = true) ∧ Below w.heap.size w wr) (fun _ i _ => xs.length - (intOf i).toNat)
  case atStart => exact ⟨0, Nat.zero_le _, rfl, (by show _ = _; rfl), Below.refl _ _⟩
  case round =>
    obtain ⟨k, hk, rfl, hA, hb⟩ := hrel
    by_cases hlt : k < xs.length
    · obtain ⟨b, off, rfl, hc⟩ := hr.base (by omega)
      obtain ⟨ecs, hC, rfl, hf1, hf2⟩ := hc k hlt
      have hC := hC.later hb
      have u0 := hC.c0
      have u1 := hC.c1
      rw [show Rd.k (Int × Int) = 2 from rfl] at u0 u1
      have hbA := hb.alloc hb.size (.cells #[.int .i64 (nth xs k).1, .int .i64 (nth xs k).2] 84)
      clear hC hc hr
      by_cases hs : s < (nth xs k).2
      · have hn : Hid ((xs.take (k + 1)).all (fun p => decide (s < p.2)) = true) := by
          show _ = _
          rw [take_nth hlt, List.all_append, hA.out]; simp [hs]
        go_wp2
        go_roundw
        case rel => exact ⟨k + 1, by omega, by go_num, hn, hbA⟩
        case measure => simp [intOf]; omega
      · have hn : Hid (xs.all (fun p => decide (s < p.2)) = false) := by
          show _ = _
          rw [List.all_eq_false]
          exact ⟨_, nth_mem hlt, by simp [hs]⟩
        go_wp2
        go_ret
        exact ⟨by rw [hn.out]; rfl, hbA⟩
    · have hn : Hid (xs.all (fun p => decide (s < p.2)) = true) := by
        have := hA.out
        rw [List.take_of_length_le (by omega)] at this
        exact this
      clear hr
      go_wp2
      go_ret
      exact ⟨by rw [hn.out]; rfl, hb⟩

end Go.Proofs.Ytgckeaijbmcdcaa
