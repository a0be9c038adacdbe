/-
  Lists of sets: the laws' own eq, mark and held. No condition of its own.
-/
import Derived.Test.YtiddellnmfckfaaGreatMarkQ
import Derived.Test.YtiddellnmfckfaaGreatHeldP
import Derived.Test.YtiddellnmfckfaaGreatLawsEq
namespace Go.Proofs.YtiddellnmfckfaaGreat
set_option linter.unusedVariables false
set_option linter.unusedSimpArgs false
open Go.RowKit
set_option maxRecDepth 100000

theorem list1 {cs : List Value} (h : cs.length = 1) : ∃ a, cs = [a] := by
  match cs, h with
  | [a], _ => exact ⟨a, rfl⟩
theorem eqSet_calls {cs cs' : List Value} {x : List Int} {w : World} (h : Rd.R w cs x) (h' : Rd.R w cs' x) :
    Calls Tryz.prog 58 #[.agg cs.toArray, .agg cs'.toArray] w fun e w' => e = .returned (.bool true) ∧ Below w.heap.size w w' := by
  obtain ⟨a1, k1, rfl, hk1⟩ := h
  obtain ⟨a2, k2, rfl, hk2⟩ := h'
  have t0 : Below w.heap.size w ((w.alloc (.cells #[.slice a1 x.length k1] 82)).alloc (.cells #[.slice a2 x.length k2] 82)) := ((Below.refl _ _).alloc (by simp) _).alloc (by simp) _
  have g1 : RdL w [.slice a1 x.length k1] x := ⟨a1, k1, rfl, hk1⟩
  have g2 : RdL w [.slice a2 x.length k2] x := ⟨a2, k2, rfl, hk2⟩
  go_enter Tryz.func58, Tryz.ntmps58
  go_wp2_with fail
  refine (eqIntSR_calls (Rd.mono (α := List Int) t0 g1) (Rd.mono (α := List Int) t0 g2)).mono ?_
  rintro e w1 ⟨rfl, b1⟩
  go_wp2
  go_ret
  exact ⟨rfl, t0.step b1⟩

set_option maxHeartbeats 1000000 in
theorem eqSetS_calls {v v' : Value} {xs : List (List Int)} {w : World} (h : RdL w [v] xs) (h' : RdL w [v'] xs) :
    Calls Tryz.prog 26 #[v, v'] w fun e w' => e = .returned (.bool true) ∧ Below w.heap.size w w' := by
  obtain ⟨a, cap, rfl, _, h⟩ := h.sl
  obtain ⟨a', cap', rfl, _, h'⟩ := h'.sl
  have hm := h.1
  by_cases hne : 0 < xs.length
  · obtain ⟨b, off, rfl, hc⟩ := h.base hne
    obtain ⟨b', off', rfl, hc'⟩ := h'.base hne
    have HC := Lib.hid hc
    have HC' := Lib.hid hc'
    clear h hc h' hc'
    go_enter Tryz.func26, Tryz.ntmps26
    go_wp2
    go_loopw [5] (fun i wr => ∃ k : Nat, k ≤ xs.length ∧ i = .int .i64 k ∧ Below w.heap.size w wr) (fun i _ => xs.length - (intOf i).toNat)
    case atStart => exact ⟨0, Nat.zero_le _, rfl, Below.refl _ _⟩
    case round =>
      obtain ⟨k, hk, rfl, hb⟩ := hrel
      by_cases hlt : k < xs.length
      · obtain ⟨ecs, hC, hR⟩ := HC.out k hlt
        obtain ⟨ecs', hC', hR'⟩ := HC'.out k hlt
        have hR := Rd.mono hb hR
        have hR' := Rd.mono hb hR'
        have hC := hC.later hb
        have hC' := hC'.later hb
        obtain ⟨e0, rfl⟩ := list1 (Rd.len hR)
        obtain ⟨f0, rfl⟩ := list1 (Rd.len hR')
        have u0 := hC.c0
        have v0 := hC'.c0
        rw [show Rd.k (List Int) = 1 from rfl, Nat.mul_one] at u0 v0
        clear hC hC'
        go_wp2
        go_still_tail 8, (by kernel_rfl)
        go_wp2_with fail
        refine (eqSet_calls (Rd.mono (by first | exact (Below.refl _ _).drew | exact below_drewN (Below.refl _ _) _) hR) (Rd.mono (by first | exact (Below.refl _ _).drew | exact below_drewN (Below.refl _ _) _) hR')).mono ?_
        rintro e w2 ⟨rfl, hb2⟩
        have hbe : Below w.heap.size w w2 := (show Below w.heap.size w _ by first | exact hb.drew | exact below_drewN hb _).step hb2
        clear hR hR' hb2
        go_wp2
        go_roundw
        case rel => exact ⟨k + 1, by omega, by go_num, hbe⟩
        case measure => simp [intOf]; omega
      · go_wp2
        go_ret
        exact ⟨rfl, hb⟩
  · have : xs = [] := by cases xs <;> simp_all
    subst this
    clear h h' hne
    go_enter Tryz.func26, Tryz.ntmps26
    go_wp2
    refine wp_loop_rounds 1 ?_
    rw [rounds_succ]
    go_wp2
    go_ret
    exact ⟨rfl, Below.refl _ _⟩

theorem cntTo_sets (xs : List (List Int)) {j : Nat} : cntTo xs (j + 1) = cntTo xs j + (nth xs j).length := by
  show cntTo xs j + cntTo (nth xs j) (nth xs j).length = _
  rw [cntTo_int]

set_option maxHeartbeats 1000000 in
theorem heldSetS_calls {v : Value} {xs : List (List Int)} {w : World} (k : Int) (h : RdL w [v] (Mk.mkd k xs)) (h0 : 0 ≤ k) (h1 : k + (cntTo xs xs.length : Nat) ≤ 1152921504606846976) :
    Calls Tryz.prog 28 #[v, .int .i64 k] w fun e w' => e = .returned (.int .i64 (k + (cntTo xs xs.length : Nat))) ∧ w = w' := by
  obtain ⟨a, cap, rfl, hcp, hr⟩ := h.sl
  have hcap : xs.length ≤ 9223372036854775807 := by rw [mkd_len] at hcp; omega
  rw [mkd_len]
  clear h hcp
  go_enter Tryz.func28, Tryz.ntmps28
  go_wp2
  go_loop [1, 5] (fun q i => ∃ j : Nat, j ≤ xs.length ∧ i = .int .i64 j ∧ q = .int .i64 (k + (cntTo xs j : Nat))) (fun _ i => xs.length - (intOf i).toNat)
  case atStart => exact ⟨0, Nat.zero_le _, rfl, by simp [cntTo]⟩
  case round =>
    obtain ⟨j, hj, rfl, rfl⟩ := hrel
    by_cases hlt : j < xs.length
    · obtain ⟨b, off, cs, rfl, hC, hR⟩ := rd_mkd hr hlt
      obtain ⟨f0, rfl⟩ := list1 (Rd.len hR)
      have u0 := hC.c0
      rw [show Rd.k (List Int) = 1 from rfl, Nat.mul_one] at u0
      obtain ⟨K, hK⟩ : ∃ K : Int, K = k + (cntTo xs j : Nat) := ⟨_, rfl⟩
      have hcj := cntTo_mono xs (show j + 1 ≤ xs.length from hlt)
      have hc1 := cntTo_sets xs (j := j)
      rw [← hK] at hR ⊢
      have hi := cntTo_int (nth xs j) (nth xs j).length
      have hKn := Lib.hid (show K + ((cntTo (nth xs j) (nth xs j).length : Nat) : Int) = k + (cntTo xs (j + 1) : Nat) by omega)
      have hK0 : 0 ≤ K := by omega
      have hK1 : K + (nth xs j).length ≤ 1152921504606846976 := by omega
      have hK2 : 0 ≤ K + ((cntTo (nth xs j) (nth xs j).length : Nat) : Int) := by omega
      have hK3 : K + ((cntTo (nth xs j) (nth xs j).length : Nat) : Int) ≤ 1152921504606846976 := by omega
      clear hC hK hr hc1 hcj hi
      go_wp2_with (go_at_call 19; refine (heldIntSO_calls K hR hK0 hK1).mono ?_; rintro e w' ⟨rfl, rfl⟩)
      go_round
      case rel => exact ⟨j + 1, by omega, by go_num, by rw [hKn.out]⟩
      case measure => simp [intOf]; omega
    · have hjj : j = xs.length := by omega
      subst hjj
      go_wp2
      go_ret
      exact ⟨rfl, rfl⟩

set_option maxHeartbeats 1000000 in
theorem markSetS_calls {v : Value} {xs : List (List Int)} {fp : List Nat} {w : World} (k : Int) (h : OwL w [v] xs fp) (h0 : 0 ≤ k) (h1 : k + (cntTo xs xs.length : Nat) ≤ 1152921504606846976) :
    Calls Tryz.prog 27 #[v, .int .i64 k] w fun e w' => e = .returned (.int .i64 (k + (cntTo xs xs.length : Nat))) ∧ OwL w' [v] (Mk.mkd k xs) fp ∧ WrF fp w w' := by
  obtain ⟨a, cap, rfl⟩ := h.sl
  have hcap : xs.length ≤ 9223372036854775807 := by obtain ⟨_, _, he, h1, h2, _⟩ := h; simp at he; omega
  have h' : OwL w [.slice a xs.length cap] (mkTo k xs 0) fp := by rw [mkTo_zero]; exact h
  have HE : Hid (mkTo k xs xs.length = Mk.mkd k xs) := mkTo_all _ _
  clear h
  go_enter Tryz.func27, Tryz.ntmps27
  go_wp2
  go_loopw [1, 5] (fun q i wr => ∃ j : Nat, j ≤ xs.length ∧ i = .int .i64 j ∧ q = .int .i64 (k + (cntTo xs j : Nat)) ∧ OwL wr [.slice a xs.length cap] (mkTo k xs j) fp ∧ WrF fp w wr) (fun _ i _ => xs.length - (intOf i).toNat)
  case atStart => exact ⟨0, Nat.zero_le _, rfl, by simp [cntTo], h', WrF.refl _ _⟩
  case round =>
    obtain ⟨j, hj, rfl, rfl, ho, hg⟩ := hrel
    clear h'
    by_cases hlt : j < xs.length
    · have hl := mkTo_len k xs hj
      have hset := mkTo_set k hlt
      have hcj := cntTo_mono xs (show j + 1 ≤ xs.length from hlt)
      have hc1 := cntTo_sets xs (j := j)
      obtain ⟨K, hK⟩ : ∃ K : Int, K = k + (cntTo xs j : Nat) := ⟨_, rfl⟩
      rw [← hK] at hset ⊢
      have hi := cntTo_int (nth xs j) (nth xs j).length
      have hKn := Lib.hid (show K + ((cntTo (nth xs j) (nth xs j).length : Nat) : Int) = k + (cntTo xs (j + 1) : Nat) by omega)
      have hK0 : 0 ≤ K := by omega
      have hK1 : K + (nth xs j).length ≤ 1152921504606846976 := by omega
      clear hc1 hcj hK hi
      obtain ⟨g, e, cur, f, ecs, hn, rfl, hgf, hgn, hfs, hh, hroom, hC, hO, hclose⟩ := ho.openAt (i := j) (by omega)
      clear hn hl
      rw [mkTo_nth k hlt] at hO
      have hO0 : OwL wr ecs (nth xs j) f := hO
      obtain ⟨f0, rfl⟩ := list1 (Rd.len (Ow.rd (α := List Int) hO))
      rw [show Rd.k (List Int) = 1 from rfl] at hroom hC hclose
      have hglt := block_lt hh
      have c0 := hC.c0
      rw [Nat.mul_one] at c0
      go_wp2_with fail
      refine (markIntSO_calls K hO0 hK0 hK1).mono ?_
      rintro e2 w2 ⟨rfl, hO2, hch⟩
      have hch := ChgF.wrF hch
      have hbl := hch.block g hglt hgn
      have hfin := hclose w2 cur [f0] (Mk.mkd K (nth xs j)) (hbl.trans hh) rfl (fun _ _ => rfl) (hC.kept hbl) hO2 (fun b hb _ hbf => hch.block b hb hbf)
      rw [hset] at hfin
      have hgN := hg.trans (hch.more hfs)
      clear hclose c0 hO hO0 hh
      go_wp2
      go_roundw
      case rel => exact ⟨j + 1, by omega, by go_num, by rw [hKn.out], hfin, hgN⟩
      case measure => simp [intOf]; omega
    · have hjj : j = xs.length := by omega
      have HO : Hid (OwL wr [.slice a xs.length cap] (Mk.mkd k xs) fp) := by have := ho; rw [hjj, HE.out] at this; exact this
      subst hjj
      clear ho
      go_wp2
      go_ret
      exact ⟨rfl, HO.out, hg⟩

end Go.Proofs.YtiddellnmfckfaaGreat
