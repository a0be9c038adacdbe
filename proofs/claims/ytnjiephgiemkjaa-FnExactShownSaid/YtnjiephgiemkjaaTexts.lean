/-
  Lists of texts: the laws' own eq, mark and held. No condition of its own.
-/
import Derived.Test.YtnjiephgiemkjaaMarkB
import Derived.Test.YtnjiephgiemkjaaHeldB
import Derived.Test.YtnjiephgiemkjaaLawsEq
import Derived.Test.YtnjiephgiemkjaaMarkText
import Derived.BigQuiet
import Derived.Deep.RegionHeld3
namespace Go.Proofs.Ytnjiephgiemkjaa
set_option linter.unusedVariables false
set_option linter.unusedSimpArgs false
open Go.RowKit
set_option maxRecDepth 100000
set_option linter.unusedVariables false
set_option linter.unusedSimpArgs false

theorem list1T {cs : List Value} (h : cs.length = 1) : ∃ a, cs = [a] := by
  match cs, h with
  | [a], _ => exact ⟨a, rfl⟩
instance instMkBytes : Mk ByteArray := ⟨fun k _ => markT k, fun _ => 1⟩
theorem cntTo_bytes (xs : List ByteArray) : ∀ j, cntTo xs j = j
  | 0 => rfl
  | j + 1 => by rw [cntTo, cntTo_bytes xs j]; rfl

set_option maxHeartbeats 1000000 in
theorem eqStringS_calls {v v' : Value} {xs : List ByteArray} {w : World} (h : RdL w [v] xs) (h' : RdL w [v'] xs) :
    Calls Try.prog 18 #[v, v'] w fun e w' => e = .returned (.bool true) ∧ Below w.heap.size w w' := by
  obtain ⟨a, cap, rfl, _, h⟩ := h.sl
  obtain ⟨a', cap', rfl, _, h'⟩ := h'.sl
  have hm := h.1
  by_cases hne : 0 < xs.length
  · obtain ⟨b, off, rfl, hc⟩ := h.base hne
    obtain ⟨b', off', rfl, hc'⟩ := h'.base hne
    have HC := Lib.hid hc
    have HC' := Lib.hid hc'
    clear h hc h' hc'
    go_enter Try.func18, Try.ntmps18
    go_wp2
    go_loopw [5] (fun i wr => ∃ k : Nat, k ≤ xs.length ∧ i = .int .i64 k ∧ Below w.heap.size w wr) (fun i _ => xs.length - (intOf i).toNat)
    case atStart => exact ⟨0, Nat.zero_le _, rfl, Below.refl _ _⟩
    case round =>
      obtain ⟨k, hk, rfl, hb⟩ := hrel
      by_cases hlt : k < xs.length
      · obtain ⟨ecs, hC, hR⟩ := HC.out k hlt
        obtain ⟨ecs', hC', hR'⟩ := HC'.out k hlt
        have hC := hC.later hb
        have hC' := hC'.later hb
        obtain ⟨rfl, _⟩ := hR
        obtain ⟨rfl, _⟩ := hR'
        have u0 := hC.c0
        have v0 := hC'.c0
        rw [show Rd.k ByteArray = 1 from rfl, Nat.mul_one] at u0 v0
        clear hC hC'
        generalize nth xs k = s at *
        go_wp2
        go_quiet (fail)
        go_wp2
        go_roundw
        case rel => exact ⟨k + 1, by omega, by go_num, by first | exact hb.drew | exact below_drewN hb _⟩
        case measure => simp [intOf]; omega
      · go_wp2
        go_ret
        exact ⟨rfl, hb⟩
  · have : xs = [] := by cases xs <;> simp_all
    subst this
    clear h h' hne
    go_enter Try.func18, Try.ntmps18
    go_wp2
    refine wp_loop_rounds 1 ?_
    rw [rounds_succ]
    go_wp2
    go_ret
    exact ⟨rfl, Below.refl _ _⟩

set_option maxHeartbeats 1000000 in
theorem heldStringS_calls {v : Value} {xs : List ByteArray} {w : World} (k : Int) (h : RdL w [v] (Mk.mkd k xs)) (h0 : 0 ≤ k) (h1 : k + xs.length ≤ 1152921504606846976) :
    Calls Try.prog 20 #[v, .int .i64 k] w fun e w' => e = .returned (.int .i64 (k + (xs.length : Nat))) ∧ Below w.heap.size w w' := by
  obtain ⟨a, cap, rfl, hcp, hr⟩ := h.sl
  have hcap : xs.length ≤ 9223372036854775807 := by omega
  rw [mkd_len]
  clear h hcp
  go_enter Try.func20, Try.ntmps20
  go_wp2
  go_loopw [1, 5] (fun q i wr => ∃ j : Nat, j ≤ xs.length ∧ i = .int .i64 j ∧ q = .int .i64 (k + (j : Nat)) ∧ Below w.heap.size w wr) (fun _ i _ => xs.length - (intOf i).toNat)
  case atStart => exact ⟨0, Nat.zero_le _, rfl, by simp, Below.refl _ _⟩
  case round =>
    obtain ⟨j, hj, rfl, rfl, hb⟩ := hrel
    by_cases hlt : j < xs.length
    · obtain ⟨b, off, cs, rfl, hC, hR⟩ := rd_mkd hr hlt
      have hC := hC.later hb
      obtain ⟨rfl, _⟩ := hR
      obtain ⟨K, hK⟩ : ∃ K : Int, K = k + (j : Nat) := ⟨_, rfl⟩
      rw [cntTo_bytes, ← hK] at hC
      rw [← hK]
      have hC : Cells wr b (off + j * 1) [.string (markT K)] := hC
      rw [Nat.mul_one] at hC
      have c0 := hC.c0
      have hKn := Lib.hid (show K + 1 = k + ((j + 1 : Nat) : Int) by omega)
      have hK0 : 0 ≤ K := by omega
      have hK1 : K + 1 ≤ 1152921504606846976 := by omega
      have hj0 : (0 : Int) ≤ (j : Int) := by omega
      have hj1 : (j : Int) < (xs.length : Int) := by omega
      clear hK hr
      go_wp2
      go_region_held3 (fun w' => w'.cell? ⟨b, off + j, none⟩ = some (.string (markT K)))
        (first | exact c0 | exact (hC.drew.later b1).c0)
        (first | (go_at_call 50; refine (markText_calls K _ (by omega)).mono ?_; rintro e w1 ⟨rfl, b1⟩))
      have hb1 := hb.drew.step b1
      go_wp2
      go_roundw
      case rel => exact ⟨j + 1, by omega, by go_num, by rw [hKn.out], hb1⟩
      case measure => simp [intOf]; omega
    · have hjj : j = xs.length := by omega
      subst hjj
      go_wp2
      go_ret
      exact ⟨rfl, hb⟩

set_option maxHeartbeats 1000000 in
theorem markStringS_calls {v : Value} {xs : List ByteArray} {fp : List Nat} {w : World} (k : Int) (h : OwL w [v] xs fp) (h0 : 0 ≤ k) (h1 : k + xs.length ≤ 1152921504606846976) :
    Calls Try.prog 19 #[v, .int .i64 k] w fun e w' => e = .returned (.int .i64 (k + (xs.length : Nat))) ∧ OwL w' [v] (Mk.mkd k xs) fp ∧ WrF fp w w' := by
  obtain ⟨a, cap, rfl⟩ := h.sl
  have hcap : xs.length ≤ 9223372036854775807 := by obtain ⟨_, _, he, h1, h2, _⟩ := h; simp at he; omega
  have h' : OwL w [.slice a xs.length cap] (mkTo k xs 0) fp := by rw [mkTo_zero]; exact h
  have HE : Hid (mkTo k xs xs.length = Mk.mkd k xs) := mkTo_all _ _
  clear h
  go_enter Try.func19, Try.ntmps19
  go_wp2
  go_loopw [1, 5] (fun q i wr => ∃ j : Nat, j ≤ xs.length ∧ i = .int .i64 j ∧ q = .int .i64 (k + (j : Nat)) ∧ OwL wr [.slice a xs.length cap] (mkTo k xs j) fp ∧ WrF fp w wr) (fun _ i _ => xs.length - (intOf i).toNat)
  case atStart => exact ⟨0, Nat.zero_le _, rfl, by simp, h', WrF.refl _ _⟩
  case round =>
    obtain ⟨j, hj, rfl, rfl, ho, hg⟩ := hrel
    clear h'
    by_cases hlt : j < xs.length
    · have hl := mkTo_len k xs hj
      have hset := mkTo_set k hlt
      obtain ⟨K, hK⟩ : ∃ K : Int, K = k + (j : Nat) := ⟨_, rfl⟩
      rw [cntTo_bytes, ← hK] at hset
      rw [← hK]
      have hKn := Lib.hid (show K + 1 = k + ((j + 1 : Nat) : Int) by omega)
      have hK0 : 0 ≤ K := by omega
      have hK1 : K + 1 ≤ 1152921504606846976 := by omega
      clear hK
      clear hl
      go_wp2_with fail
      refine (markText_calls K _ (by omega)).mono ?_
      rintro e1 w1 ⟨rfl, b1⟩
      have ho := Ow.kept (α := List ByteArray) ho (fun b hb => b1.block b (Ow.lt (α := List ByteArray) ho b hb))
      have ho : OwL w1 [.slice a xs.length cap] (mkTo k xs j) fp := ho
      have hl := mkTo_len k xs hj
      obtain ⟨g, e, cur, f, ecs, hn, rfl, hgf, hgn, hfs, hh, hroom, hC, hO, hclose⟩ := ho.openAt (i := j) (by omega)
      clear hn hl
      rw [show Rd.k ByteArray = 1 from rfl, Nat.mul_one] at hroom hC hclose
      obtain ⟨hr0, rfl⟩ := hO
      have hlen := Rd.len hr0
      obtain ⟨f0, rfl⟩ := list1T hlen
      have hglt := block_lt hh
      have c0 := hC.c0
      have cf := frozen_of_row w1 g j cur e hh
      obtain ⟨cur', k1, k2, k3⟩ := put_block g e [.string (markT K)] w1 j cur hh (by simpa using hroom)
      have hkc : Cells (put w1 g j [.string (markT K)]) g j [.string (markT K)] := Cells.put_here hh (by simpa using hroom)
      have hfin := hclose (put w1 g j [.string (markT K)]) cur' [.string (markT K)] (markT K) k1 k2 (fun i hi => by rw [k3, if_neg (by simp; omega)]) hkc ⟨⟨rfl, by have := markT_size (k := K) (by omega); omega⟩, rfl⟩ (fun b _ hb _ => (put_chg g _ w1 _).block b (by simpa using hb))
      rw [show (mkTo k xs j).set j (markT K) = mkTo k xs (j + 1) from hset] at hfin
      have hgN : WrF fp w (put w1 g j [.string (markT K)]) := (hg.trans b1.wrF).trans (((put_chg g _ w1 _).more fun x hx => by simp at hx; exact hx ▸ hgf).wrF)
      have HF := Lib.hid hfin
      have HG := Lib.hid hgN
      clear hclose hC hfin hgN k1 k2 k3 hkc ho
      go_wp2
      go_roundw
      case rel => exact ⟨j + 1, by omega, by go_num, by rw [hKn.out], HF.out, HG.out⟩
      case measure => simp [intOf]; omega
    · have hjj : j = xs.length := by omega
      have HO : Hid (OwL wr [.slice a xs.length cap] (Mk.mkd k xs) fp) := by have := ho; rw [hjj, HE.out] at this; exact this
      subst hjj
      clear ho
      go_wp2
      go_ret
      exact ⟨rfl, HO.out, hg⟩
theorem wrF_I {fp : List Nat} {lo hi : Nat} {w w' : World} (h : WrF fp w w') (hl : ∀ g ∈ fp, lo ≤ g ∧ g < hi) : WrI lo hi w w' :=
  ⟨h.os, h.tape, h.output, h.size, fun g hg hd => h.block g hg fun hm => by have := hl g hm; omega⟩
theorem markStringSI_calls {v : Value} {xs : List ByteArray} {lo hi : Nat} {w : World} (k : Int) (h : OwnIn lo hi w [v] xs) (h0 : 0 ≤ k) (h1 : k + xs.length ≤ 1152921504606846976) :
    Calls Try.prog 19 #[v, .int .i64 k] w fun e w' => e = .returned (.int .i64 (k + (xs.length : Nat))) ∧ OwnIn lo hi w' [v] (Mk.mkd k xs) ∧ WrI lo hi w w' := by
  obtain ⟨fp, h, hl⟩ := h
  exact (markStringS_calls k h h0 h1).mono fun e w' ⟨he, ho, hc⟩ => ⟨he, ⟨fp, ho, hl⟩, wrF_I hc hl⟩

end Go.Proofs.Ytnjiephgiemkjaa
