/-
 impl.Fold and what it calls. No condition of its own.
-/
import Derived.Test.YthikhkeofcjdfaaGreatFoldD
import Derived.Lib.AppendZerosOnto
import Derived.Lib.AppendZeros
import Derived.Deep.RegionHeld3
import Derived.Deep.RegionWith
import Derived.Deep.DeepCutAuto
namespace Go.Proofs.YthikhkeofcjdfaaGreat
set_option linter.unusedVariables false
set_option linter.unusedSimpArgs false
open Go.RowKit
set_option maxRecDepth 100000

theorem joinM_calls (a b : Nat) (w : World) (ha : a < 4096) (hb : b < 4096) :
  Calls Tryz.prog 175 #[.int .u16 (a : Int), .int .u16 (b : Int)] w fun e w' => e = .returned (.int .u16 ((a ||| b : Nat) : Int)) ∧ w = w' := by
 have hor := or_u16 a b ha hb
 go_enter Tryz.func175, Tryz.ntmps175
 go_wp2
 go_ret
 exact ⟨rfl, rfl⟩

set_option maxHeartbeats 2000000 in
theorem heads_calls {cs : List Value} {p : ProgD} {w : World} (h : Rd.R w cs p) :
  Calls Tryz.prog 170 #[.agg cs.toArray] w fun e w' => e = .returned (.int .u16 (headsM p.rules p.rules.length : Int)) ∧ Below w.heap.size w w' := by
 obtain ⟨c1, c2, c4, c5, c6, c7, rfl, hf, g1, g2, g4, g5, g6, g7⟩ := h
 obtain ⟨a1, k1, rfl, _, h1⟩ := g1.sl
 have hm1 := h1.1
 have tb : Below w.heap.size w (w.alloc (.cells #[.int .i64 p.atoms, .slice a1 p.rules.length k1, c2, .bool p.projOn, c4, c5, c6, c7] 30)) := (Below.refl _ _).alloc (Nat.le_refl _) _
 clear g1 g2 g4 g5 g6 g7 hf
 go_enter Tryz.func170, Tryz.ntmps170
 go_wp2
 go_loopw [3, 5, 9] (fun s _ i wr => ∃ k : Nat, k ≤ p.rules.length ∧ i = .int .i64 k ∧ s = .int .u16 (headsM p.rules k : Int) ∧ Below w.heap.size w wr) (fun _ _ i _ => p.rules.length - (intOf i).toNat)
 case atStart => exact ⟨0, Nat.zero_le _, rfl, rfl, tb⟩
 case round =>
  obtain ⟨k, hk, rfl, rfl, hb⟩ := hrel
  clear tb
  have hsz := hb.size
  by_cases hlt : k < p.rules.length
  ·obtain ⟨b, off, rfl, hc⟩ := h1.base (by omega)
   obtain ⟨ecs, hC, hR⟩ := hc k hlt
   have hC := hC.later hb
   have hR := Rd.mono hb hR
   obtain ⟨d1, d4, rfl, hf', r1, r4⟩ := hR
   obtain ⟨ah, kh, rfl, _, hh⟩ := r1.sl
   have hh := hh.later ((Below.refl wr.heap.size wr).alloc (Nat.le_refl _) (.cells #[.bool (nth p.rules k).choice, .slice ah (nth p.rules k).heads.length kh, .bool (nth p.rules k).weight, .int .i64 (nth p.rules k).bound, d4] 34))
   have so := sto Tryz.prog r4.one1
   have u0 := hC.c0
   have u1 := hC.c1
   have u2 := hC.c2
   have u3 := hC.c3
   have u4 := hC.c4
   rw [show Rd.k RuleD = 5 from rfl] at u0 u1 u2 u3 u4
   have hbA := hb.alloc hb.size (.cells #[.bool (nth p.rules k).choice, .slice ah (nth p.rules k).heads.length kh, .bool (nth p.rules k).weight, .int .i64 (nth p.rules k).bound, d4] 34)
   have hm1' := headsM_lt p.rules k
   have hm2' := maskOf_lt (nth p.rules k).heads
   clear hC hc h1 r1 r4 hf'
   go_wp2_with (first | (go_at_call 76; refine (atomsIn_calls _ _ _ _ hh.ints).mono ?_; rintro e w' ⟨rfl, rfl⟩) | (go_at_call 175; refine (joinM_calls _ _ _ hm1' hm2').mono ?_; rintro e w' ⟨rfl, rfl⟩))
   go_roundw
   case rel => exact ⟨k + 1, by omega, by go_num, rfl, hbA⟩
   case measure => simp [intOf]; omega
  ·obtain rfl : k = p.rules.length := by omega
   go_wp2
   go_ret
   exact ⟨rfl, hb⟩

/-- What the rule of one ext, of one assumption, looks like in memory. -/
theorem own_ext {w : World} {lo : Nat} (hl : lo ≤ w.heap.size) (x : Int × Int) (hf : Fits x.1) (o2 : Obj) :
  Own lo ((w.alloc (.cells #[.int .i64 x.1] 3)).alloc o2) [.bool (x.2 == 0), .slice (some ⟨w.heap.size, 0, none⟩) 1 1, .bool false, .int .i64 0, .slice none 0 0] (extRule x) := by
 have hb : (w.alloc (.cells #[.int .i64 x.1] 3)).heap[w.heap.size]? = some (.cells #[.int .i64 x.1] 3 (0, 0)) := alloc_block _ _ _
 have hb2 : ((w.alloc (.cells #[.int .i64 x.1] 3)).alloc o2).heap[w.heap.size]? = some (.cells #[.int .i64 x.1] 3 (0, 0)) := (Below.heap_alloc _ _ _ (by simp)).trans hb
 refine ⟨[w.heap.size], ⟨_, _, [w.heap.size], [], rfl, by show Fits 0; unfold Fits; omega, ⟨_, _, rfl, Nat.le_refl _, by omega, .inr ⟨w.heap.size, _, _, [[]], rfl, hb2, by simp [extRule, Rd.k], rfl, rfl, by simp, fun i hi => ?_⟩⟩, ⟨none, 0, rfl, Nat.le_refl _, by omega, .inl ⟨rfl, rfl, rfl⟩⟩, rfl, by simp⟩, fun g hg => by simp at hg; omega⟩
 have : i = 0 := by simp [extRule] at hi; omega
 subst this
 refine ⟨[.int .i64 x.1], ?_, ⟨rfl, hf⟩, rfl⟩
 intro j v hv
 rw [Nat.zero_mul, Nat.zero_add, cell_of_row _ _ j _ _ _ hb2]
 simpa using hv
theorem own_asm {w : World} {lo : Nat} (hl : lo ≤ w.heap.size) (l : Int) (hf : Fits (-l)) (o2 : Obj) :
  Own lo ((w.alloc (.cells #[.int .i64 (-l), .int .i64 1] 94)).alloc o2) [.bool false, .slice none 0 0, .bool false, .int .i64 0, .slice (some ⟨w.heap.size, 0, none⟩) 1 1] (asmRule l) := by
 have hb : (w.alloc (.cells #[.int .i64 (-l), .int .i64 1] 94)).heap[w.heap.size]? = some (.cells #[.int .i64 (-l), .int .i64 1] 94 (0, 0)) := alloc_block _ _ _
 have hb2 : ((w.alloc (.cells #[.int .i64 (-l), .int .i64 1] 94)).alloc o2).heap[w.heap.size]? = some (.cells #[.int .i64 (-l), .int .i64 1] 94 (0, 0)) := (Below.heap_alloc _ _ _ (by simp)).trans hb
 refine ⟨[w.heap.size], ⟨_, _, [], [w.heap.size], rfl, by show Fits 0; unfold Fits; omega, ⟨none, 0, rfl, Nat.le_refl _, by omega, .inl ⟨rfl, rfl, rfl⟩⟩, ⟨_, _, rfl, Nat.le_refl _, by omega, .inr ⟨w.heap.size, _, _, [[]], rfl, hb2, by simp [asmRule, Rd.k], rfl, rfl, by simp, fun i hi => ?_⟩⟩, rfl, by simp⟩, fun g hg => by simp at hg; omega⟩
 have : i = 0 := by simp [asmRule] at hi; omega
 subst this
 refine ⟨[.int .i64 (-l), .int .i64 1], ?_, ⟨rfl, hf, by show Fits (1 : Int); unfold Fits; omega⟩, rfl⟩
 intro j v hv
 rw [Nat.zero_mul, Nat.zero_add, cell_of_row _ _ j _ _ _ hb2]
 simpa using hv

set_option maxHeartbeats 2000000 in
theorem extRules_calls {cs : List Value} {p : ProgD} {w : World} (h : Rd.R w cs p) (hok : progOkB p = true) :
  Calls Tryz.prog 181 #[.agg cs.toArray] w fun e w' => ∃ v', e = .returned v' ∧ OwnR w.heap.size 34 w' v' (extR p) ∧ Below w.heap.size w w' := by
 have h0 := h
 obtain ⟨i3, hi3, hz30, hz31, hz32⟩ := info_parts info_copiesRule
 obtain ⟨c1, c2, c4, c5, c6, c7, rfl, hf, g1, g2, g4, g5, g6, g7⟩ := h0
 obtain ⟨a6, k6, rfl, _, h6⟩ := g6.sl
 have hm6 := h6.1
 have tb : Below w.heap.size w (w.alloc (.cells #[.int .i64 p.atoms, c1, c2, .bool p.projOn, c4, c5, .slice a6 p.exts.length k6, c7] 30)) := (Below.refl _ _).alloc (Nat.le_refl _) _
 have CX := Cells.new w [.int .i64 p.atoms, c1, c2, .bool p.projOn, c4, c5, .slice a6 p.exts.length k6, c7] 30
 have hlen := progOk_exts_len hok
 have HOK := Lib.hid hok
 clear g1 g2 g4 g5 g6 g7 hf hok
 go_enter Tryz.func181, Tryz.ntmps181
 go_wp2_with fail
 refine (heads_calls (Rd.mono tb h)).mono ?_
 rintro e w1 ⟨rfl, b1⟩
 have t1 := tb.step b1
 obtain ⟨y0, y1, y2, y3, y4, y5, y6, y7⟩ := cells8 (CX.later b1)
 have hM := headsM_lt p.rules p.rules.length
 clear CX b1 tb
 go_wp2
 clear y0 y1 y2 y3 y4 y5 y6 y7
 go_loopw [3, 6, 12] (fun v _ i wr => ∃ k : Nat, k ≤ p.exts.length ∧ i = .int .i64 k ∧ OwnR w.heap.size 34 wr v (extTo p.rules p.exts k) ∧ Below w.heap.size w wr) (fun _ _ i _ => p.exts.length - (intOf i).toNat)
 case atStart => exact ⟨0, Nat.zero_le _, rfl, OwnR.nil _ _ _, t1⟩
 case round =>
  obtain ⟨k, hk, rfl, ho, hb⟩ := hrel
  clear t1
  have hsz := hb.size
  by_cases hlt : k < p.exts.length
  ·obtain ⟨b, off, rfl, hc⟩ := h6.base (by omega)
   obtain ⟨ecs, hC, hR⟩ := hc k hlt
   have hC := hC.later hb
   obtain ⟨rfl, hfa, hfv⟩ := hR
   have u0 := hC.c0
   have u1 := hC.c1
   rw [show Rd.k (Int × Int) = 2 from rfl] at u0 u1
   have hbA := hb.alloc hb.size (.cells #[.int .i64 (nth p.exts k).1, .int .i64 (nth p.exts k).2] 132)
   have hoA := ho.later ((Below.refl wr.heap.size wr).alloc (Nat.le_refl _) (.cells #[.int .i64 (nth p.exts k).1, .int .i64 (nth p.exts k).2] 132))
   obtain ⟨_, hv0, hv2⟩ := progOk_ext HOK.out hlt
   have hks := keep_same (rs := p.rules) (e := nth p.exts k) ⟨hv0, hv2⟩
   have hle := extTo_len p.rules p.exts k
   have hEX := extTo_yes (rs := p.rules) (es := p.exts) (k := k)
   have hEN := extTo_no (rs := p.rules) (es := p.exts) (k := k)
   have HEY := Lib.hid hEX
   have HEN := Lib.hid hEN
   have HKS := Lib.hid hks
   clear hC hc hEX hEN hks hv0 hv2
   cases hV : ((nth p.exts k).2 == 2)
   ·have hV' : ((nth p.exts k).2 != 2) = true := by simp [bne, hV]
    cases hH : hasM (headsM p.rules p.rules.length) (nth p.exts k).1
    ·have hK : keepB p.rules (nth p.exts k) = true := by rw [← HKS.out]; unfold keepI; rw [hV, hH]; rfl
     have hE := Lib.hid (HEY.out hK)
     have hon := own_ext (lo := wr.heap.size + 1) (w := wr.alloc (.cells #[.int .i64 (nth p.exts k).1, .int .i64 (nth p.exts k).2] 132)) (by simp) (nth p.exts k) hfa (.cells #[.bool ((nth p.exts k).2 == 0), .slice (some ⟨wr.heap.size + 1, 0, none⟩) 1 1, .bool false, .int .i64 0, .slice none 0 0] 34)
     have hcn := Cells.new ((wr.alloc (.cells #[.int .i64 (nth p.exts k).1, .int .i64 (nth p.exts k).2] 132)).alloc (.cells #[.int .i64 (nth p.exts k).1] 3)) [.bool ((nth p.exts k).2 == 0), .slice (some ⟨wr.heap.size + 1, 0, none⟩) 1 1, .bool false, .int .i64 0, .slice none 0 0] 34
     rw [World.size_alloc] at hon
     rw [World.size_alloc, World.size_alloc] at hcn
     have hbw : Below (wr.alloc (.cells #[.int .i64 (nth p.exts k).1, .int .i64 (nth p.exts k).2] 132)).heap.size (wr.alloc (.cells #[.int .i64 (nth p.exts k).1, .int .i64 (nth p.exts k).2] 132)) (((wr.alloc (.cells #[.int .i64 (nth p.exts k).1, .int .i64 (nth p.exts k).2] 132)).alloc (.cells #[.int .i64 (nth p.exts k).1] 3)).alloc (.cells #[.bool ((nth p.exts k).2 == 0), .slice (some ⟨wr.heap.size + 1, 0, none⟩) 1 1, .bool false, .int .i64 0, .slice none 0 0] 34)) := ((Below.refl _ _).alloc (Nat.le_refl _) _).alloc (by simp) _
     have hbn : Below w.heap.size w (((wr.alloc (.cells #[.int .i64 (nth p.exts k).1, .int .i64 (nth p.exts k).2] 132)).alloc (.cells #[.int .i64 (nth p.exts k).1] 3)).alloc (.cells #[.bool ((nth p.exts k).2 == 0), .slice (some ⟨wr.heap.size + 1, 0, none⟩) 1 1, .bool false, .int .i64 0, .slice none 0 0] 34)) := hbA.trans (hbw.mono (by simp; omega))
     have hle2 : ((extTo p.rules p.exts k).length + 1) * 72 ≤ 140737488355328 := by omega
     have hle3 : (extTo p.rules p.exts k).length + 1 ≤ 140737488355328 := by omega
     have hsA : w.heap.size ≤ (wr.alloc (.cells #[.int .i64 (nth p.exts k).1, .int .i64 (nth p.exts k).2] 132)).heap.size := by simp; omega
     have hsB : (wr.alloc (.cells #[.int .i64 (nth p.exts k).1, .int .i64 (nth p.exts k).2] 132)).heap.size ≤ wr.heap.size + 1 := by simp
     clear hK hV hle
     go_wp2_with (first | (go_at_call 174; refine (has_calls _ _ _ hM hfa).mono ?_; rintro e w' ⟨he, rfl⟩; rw [hH] at he; subst he) | (at_builtin; refine wpList_append_one (α := RuleD) rfl _ _ rfl i3 _ 72 Tryz.underlying24 hi3 hz30 hz31 hz32 rfl (by decide) rfl rfl hoA hsB hbw hcn hon hle2 hle3 hsA ?_; intro v3 w3 ho3 hb4 hg4))
     go_roundw
     case rel => exact ⟨k + 1, by omega, by go_num, by rw [hE.out]; exact ho3, hbn.trans hb4⟩
     case measure => simp [intOf]; omega
    ·have hK : keepB p.rules (nth p.exts k) = false := by rw [← HKS.out]; unfold keepI; rw [hV, hH]; rfl
     have hE := Lib.hid (HEN.out hK)
     clear hK hV hle
     go_wp2_with (go_at_call 174; refine (has_calls _ _ _ hM hfa).mono ?_; rintro e w' ⟨he, rfl⟩; rw [hH] at he; subst he)
     go_roundw
     case rel => exact ⟨k + 1, by omega, by go_num, by rw [hE.out]; exact hoA, hbA⟩
     case measure => simp [intOf]; omega
   ·have hV' : ((nth p.exts k).2 != 2) = false := by simp [bne, hV]
    have hK : keepB p.rules (nth p.exts k) = false := by rw [← HKS.out]; unfold keepI; rw [hV]; rfl
    have hE := Lib.hid (HEN.out hK)
    clear hK hV hle
    go_wp2
    go_roundw
    case rel => exact ⟨k + 1, by omega, by go_num, by rw [hE.out]; exact hoA, hbA⟩
    case measure => simp [intOf]; omega
  ·obtain rfl : k = p.exts.length := by omega
   go_wp2
   go_ret
   exact ⟨_, rfl, ho, hb⟩

set_option maxHeartbeats 2000000 in
theorem assumeRules_calls {cs : List Value} {p : ProgD} {w : World} (h : Rd.R w cs p) (hok : progOkB p = true) :
  Calls Tryz.prog 182 #[.agg cs.toArray] w fun e w' => ∃ v', e = .returned v' ∧ OwnR w.heap.size 34 w' v' (asmR p) ∧ Below w.heap.size w w' := by
 have h0 := h
 obtain ⟨i3, hi3, hz30, hz31, hz32⟩ := info_parts info_copiesRule
 obtain ⟨c1, c2, c4, c5, c6, c7, rfl, hf, g1, g2, g4, g5, g6, g7⟩ := h0
 obtain ⟨a7, k7, rfl, _, h7⟩ := g7.sl
 have hm7 := h7.1
 have tb : Below w.heap.size w (w.alloc (.cells #[.int .i64 p.atoms, c1, c2, .bool p.projOn, c4, c5, c6, .slice a7 p.assume.length k7] 30)) := (Below.refl _ _).alloc (Nat.le_refl _) _
 have hlen := (progOk_asm hok).1
 have HOK := Lib.hid hok
 clear g1 g2 g4 g5 g6 g7 hf hok
 go_enter Tryz.func182, Tryz.ntmps182
 go_wp2_with (at_make; refine wpList_make_own _ rfl _ _ 24 rfl w.heap.size 34 i3 _ 5 Tryz.underlying24 hi3 hz30 hz31 _ _ _ p.assume.length rfl rfl rfl ?c1 ?c2 ?c3 ?_)
 case c1 => rw [hz32]; omega
 case c2 => unfold maxLen; omega
 case c3 => exact tb.size
 intro w1 hown hgrow
 have t1 : Below w.heap.size w w1 := tb.grown hgrow tb.size (fun k hk => by cases hk)
 have ho1 : OwnR (α := RuleD) w.heap.size 34 w1 _ [] := OwnR.start hown
 have hcx : ∀ o, w1.cell? ⟨w.heap.size, o, none⟩ = (w.alloc (.cells #[.int .i64 p.atoms, c1, c2, .bool p.projOn, c4, c5, c6, .slice a7 p.assume.length k7] 30)).cell? ⟨w.heap.size, o, none⟩ := fun o => World.cell?_of_block (a := ⟨w.heap.size, o, none⟩) (hgrow.block _ (by simp) (by simp))
 clear hown hgrow tb
 go_wp2
 clear hcx
 go_loopw [3, 5, 13] (fun v _ i wr => ∃ k : Nat, k ≤ p.assume.length ∧ i = .int .i64 k ∧ OwnR w.heap.size 34 wr v (asmTo p.assume k) ∧ Below w.heap.size w wr) (fun _ _ i _ => p.assume.length - (intOf i).toNat)
 case atStart => exact ⟨0, Nat.zero_le _, rfl, ho1, t1⟩
 case round =>
  obtain ⟨k, hk, rfl, ho, hb⟩ := hrel
  clear t1 ho1
  have hsz := hb.size
  by_cases hlt : k < p.assume.length
  ·obtain ⟨b, off, rfl, hc⟩ := h7.base (by omega)
   obtain ⟨ecs, hC, hR⟩ := hc k hlt
   have hC := hC.later hb
   obtain ⟨rfl, hfa⟩ := hR
   have u0 := hC.c0
   rw [show Rd.k Int = 1 from rfl, Nat.mul_one] at u0
   have hlit := (progOk_asm HOK.out).2 _ (nth_mem hlt)
   have hat := progOk_atoms HOK.out
   have hl1 : -12 ≤ nth p.assume k := by simp only [litB, btwB, Bool.or_eq_true, decide_eq_true_eq] at hlit; omega
   have hl2 : nth p.assume k ≤ 12 := by simp only [litB, btwB, Bool.or_eq_true, decide_eq_true_eq] at hlit; omega
   have hfn : Fits (-(nth p.assume k)) := by unfold Fits; omega
   have hE := Lib.hid (asmTo_succ hlt)
   have hle := asmTo_len hk
   have hon := own_asm (lo := wr.heap.size) (w := wr) (Nat.le_refl _) (nth p.assume k) hfn (.cells #[.bool false, .slice none 0 0, .bool false, .int .i64 0, .slice (some ⟨wr.heap.size, 0, none⟩) 1 1] 34)
   have hcn := Cells.new (wr.alloc (.cells #[.int .i64 (-(nth p.assume k)), .int .i64 1] 94)) [.bool false, .slice none 0 0, .bool false, .int .i64 0, .slice (some ⟨wr.heap.size, 0, none⟩) 1 1] 34
   rw [World.size_alloc] at hcn
   have hbw : Below wr.heap.size wr ((wr.alloc (.cells #[.int .i64 (-(nth p.assume k)), .int .i64 1] 94)).alloc (.cells #[.bool false, .slice none 0 0, .bool false, .int .i64 0, .slice (some ⟨wr.heap.size, 0, none⟩) 1 1] 34)) := ((Below.refl _ _).alloc (Nat.le_refl _) _).alloc (by simp) _
   have hbn : Below w.heap.size w ((wr.alloc (.cells #[.int .i64 (-(nth p.assume k)), .int .i64 1] 94)).alloc (.cells #[.bool false, .slice none 0 0, .bool false, .int .i64 0, .slice (some ⟨wr.heap.size, 0, none⟩) 1 1] 34)) := hb.trans (hbw.mono hsz)
   have hle2 : ((asmTo p.assume k).length + 1) * 72 ≤ 140737488355328 := by rw [hle]; omega
   have hle3 : (asmTo p.assume k).length + 1 ≤ 140737488355328 := by rw [hle]; omega
   clear hC hc hle hlit hat h7
   go_wp2_with (at_builtin; refine wpList_append_one (α := RuleD) rfl _ _ rfl i3 _ 72 Tryz.underlying24 hi3 hz30 hz31 hz32 rfl (by decide) rfl rfl ho (Nat.le_refl _) hbw hcn hon hle2 hle3 hsz ?_; intro v3 w3 ho3 hb4 hg4)
   go_roundw
   case rel => exact ⟨k + 1, by omega, by go_num, by rw [hE.out]; exact ho3, hbn.trans hb4⟩
   case measure => simp [intOf]; omega
  ·obtain rfl : k = p.assume.length := by omega
   go_wp2
   go_ret
   exact ⟨_, rfl, ho, hb⟩

set_option maxHeartbeats 1000000 in
theorem growRule_calls (n : Nat) (w : World) (hn : n ≤ 1048576) :
  Calls Tryz.prog 231 #[.slice none 0 0, .int .i64 (n : Int)] w fun e w' => ∃ v', e = .returned v' ∧ OwnR (α := RuleD) w.heap.size 34 w' v' [] ∧ Below w.heap.size w w' := by
 obtain ⟨i3, hi3, hz30, hz31, hz32⟩ := info_parts info_copiesRule
 by_cases h0 : n = 0
 ·subst h0
  go_enter Tryz.func231, Tryz.ntmps231
  go_wp2
  go_ret
  exact ⟨_, rfl, OwnR.nil _ _ _, Below.refl _ _⟩
 ·have hpos : (0 : Int) < (n : Int) := by omega
  have hn2 : (n : Int) ≤ 1048576 := by omega
  have hold : (Builtin.firstCells i3.size 0 (.slice none 0 0)).run Tryz.prog w.drew = .ok ([] : List Value).toArray w.drew := run_firstCells_none w.drew i3.size 0 0 0
  have hK : Rd.k RuleD = 5 := rfl
  have hex : ∃ G cur, n ≤ G ∧ G ≤ maxLen ∧ cur.size = G * 5 ∧ ∀ ty, (Builtin.append_ #[24, 3] ty #[.slice none 0 0, .int .i64 (n : Int)]).run Tryz.prog w = .ok (.slice (some ⟨w.heap.size, 0, none⟩) n G) (w.drew.alloc (.cells cur 34)) := by
   refine ⟨grownCap w n 0 34, ([] : List Value).toArray ++ Builtin.zeroCells (Value.agg #[.bool false, .slice none 0 0, .bool false, .int .i64 0, .slice none 0 0]).cells n ++ Builtin.zeroCells (Value.agg #[.bool false, .slice none 0 0, .bool false, .int .i64 0, .slice none 0 0]).cells (grownCap w n 0 34 - n), grownCap_ge _ _ _ _, grownCap_le_maxLen _ _ _ _ (by unfold maxLen; omega), ?_, fun ty => ?_⟩
   rotate_left
   ·have h := Lib.run_append_grow_zeros w 24 3 ty 34 i3 _ .i64 .i64 Tryz.underlying24 Tryz.underlying3 hi3 hz30 none 0 0 [] hold n (by omega) (by rw [hz31]; omega) (by omega) (by omega) (by rw [hz32]; omega)
     (by rw [hz32]; exact growslice_fits (by omega) (by omega))
    rw [Nat.zero_add] at h
    exact h
   ·have hg := grownCap_ge w n 0 34
    simp only [Builtin.zeroCells, Array.size_append, Array.size_map, Array.size_range, List.size_toArray, List.length_nil]
    rw [show (Value.agg #[.bool false, .slice none 0 0, .bool false, .int .i64 0, .slice none 0 0]).cells.size = 5 from by decide]
    omega
  obtain ⟨G, cur, hnG, hGm, hcs, hrz⟩ := hex
  have hown := World.ownsRow_made (base := w.heap.size) (e := 34) (size := 5) w.drew cur G (Nat.le_refl _) hGm hcs
  have hbb : Below w.heap.size w (w.drew.alloc (.cells cur 34)) := (Below.refl _ _).drew.alloc (Nat.le_refl _) _
  have hnG2 : (n : Int) ≤ (G : Int) := by omega
  have hG2 : (G : Int) ≤ 9223372036854775807 := by unfold maxLen at hGm; omega
  have hOW := Lib.hid hown
  have hBB := Lib.hid hbb
  clear hold hK hi3 hz30 hz31 hz32 hcs hown hbb hnG hGm
  go_enter Tryz.func231, Tryz.ntmps231
  go_wp2_with (at_builtin; refine Lib.wpList_append_run _ rfl _ _ _ _ rfl _ _ rfl rfl _ _ (hrz _) ?_)
  go_ret
  exact ⟨_, rfl, OwnR.start hOW.out, hBB.out⟩

/-- Own rows that lie apart: one behind the other. -/
theorem run_append_two {α : Type} [Ow α] {P : Program} {w : World} {B B2 : Nat} {t ty e : TypeId} {v u : Value} {xs zs : List α} {D D2 : Nat → Prop}
  (i : TypeInfo) (z : Value) (bytes : Nat) (ht : P.underlying t = some (.slice e)) (hi : P.info? e = some i) (hz : i.zero = some z) (hsize : i.size = Rd.k α) (hby : i.bytes = bytes) (hzs : z.cells.size = Rd.k α) (hK : 0 < Rd.k α)
  (hown : OwnD B D e w v xs) (hu : OwnD B2 D2 e w u zs) (hdis : ∀ f, D f → D2 f → False)
  (hl : (xs.length + zs.length) * bytes ≤ 140737488355328) (hl2 : xs.length + zs.length ≤ 140737488355328) (hB : B ≤ w.heap.size) :
  ∃ v' w', (Builtin.append_ #[t, t] ty #[v, u]).run P w = .ok v' w' ∧ OwnD B (fun f => D f ∨ D2 f ∨ w.heap.size ≤ f) e w' v' (xs ++ zs) ∧ Below B w w' ∧ w.grownBy w' v.ownBlock := by
 obtain ⟨ys2, fps2, hr2, hE2, h32, h42⟩ := hu
 have hr0 := hr2
 obtain ⟨hy2, hr2⟩ := hr2
 rcases hr2 with ⟨rfl, hn⟩ | ⟨g, cap, cur, rfl, _⟩
 ·have : zs = [] := List.eq_nil_of_length_eq_zero hn
  subst this
  obtain ⟨ys, fps, hr, hE, h3, h4⟩ := hown
  refine ⟨v, w, run_append_none_any (P := P) w B t ty e i (Rd.k α) ht hi v xs.length ys hr 0, ?_, Below.refl _ _, World.grownBy.refl w _⟩
  rw [List.append_nil]
  exact ⟨ys, fps, hr, hE, fun f hf => ⟨.inl (h3 f hf).1, (h3 f hf).2⟩, fun g hg => .inl (h4 g hg)⟩
 ·refine run_append_D i z bytes ht hi hz hsize hby hzs hK hown ⟨g, 0, rfl, hE2.1, hE2.2.1, fun i hi => ?_⟩ (fun f hf => (h32 f hf).1) hdis hl hl2 hB
  obtain ⟨ecs, e1, e2⟩ := hE2.2.2 i hi
  refine ⟨ecs, fun j x hx => ?_, e2⟩
  have hj : j < ecs.length := (List.getElem?_eq_some_iff.1 hx).1
  rw [Rd.len (Ow.rd e2)] at hj
  have hroom := mul_room (K := Rd.k α) hi
  rw [Nat.zero_add, hr0.cellAt _ (by omega)]
  exact e1 j x hx

set_option maxHeartbeats 4000000 in
theorem concat_calls {w : World} {lo g : Nat} {v0 v1 v2 : Value} {x0 x1 x2 : List RuleD} {D0 D1 D2 : Nat → Prop} (hc : Cells w g 0 [v0, v1, v2])
  (h0 : OwnD lo D0 34 w v0 x0) (h1 : OwnD lo D1 34 w v1 x1) (h2 : OwnD lo D2 34 w v2 x2)
  (hd0 : ∀ f, D0 f → f < w.heap.size) (hd1 : ∀ f, D1 f → f < w.heap.size) (hd2 : ∀ f, D2 f → f < w.heap.size) (h01 : ∀ f, D0 f → D1 f → False) (h02 : ∀ f, D0 f → D2 f → False) (h12 : ∀ f, D1 f → D2 f → False)
  (hl : x0.length ≤ 1000 ∧ x1.length ≤ 1000 ∧ x2.length ≤ 1000) :
  Calls Tryz.prog 180 #[.slice (some ⟨g, 0, none⟩) 3 3] w fun e w' => ∃ v', e = .returned v' ∧ OwnD w.heap.size (fun f => D0 f ∨ D1 f ∨ D2 f ∨ w.heap.size ≤ f) 34 w' v' ((x0 ++ x1) ++ x2) ∧ Below w.heap.size w w' := by
 obtain ⟨i3, hi3, hz30, hz31, hz32⟩ := info_parts info_copiesRule
 obtain ⟨a0, n0, rfl⟩ := h0.form
 obtain ⟨a1, n1, rfl⟩ := h1.form
 obtain ⟨a2, n2, rfl⟩ := h2.form
 have q0 := hc.c0
 have q1 := hc.c1
 have q2 := hc.c2
 simp only [Nat.zero_add] at q0 q1 q2
 have hx0 : (x0.length : Int) ≤ 1000 := by omega
 have hx1 : (x1.length : Int) ≤ 1000 := by omega
 have hx2 : (x2.length : Int) ≤ 1000 := by omega
 go_enter Tryz.func180, Tryz.ntmps180
 go_wp2
 refine wp_loop_rounds 4 ?_
 rw [rounds_succ]
 go_wp2
 rw [rounds_succ]
 go_wp2
 rw [rounds_succ]
 go_wp2
 rw [rounds_succ]
 go_wp2_with fail
 have hgr := growRule_calls (x0.length + x1.length + x2.length) w (by omega)
 simp only [Int.natCast_add] at hgr
 refine hgr.mono ?_
 rintro e w1 ⟨v3, rfl, r3, b3⟩
 have r3 := r3.toD
 have z3 := b3.size
 have h0 := h0.later b3
 have h1 := h1.later b3
 have h2 := h2.later b3
 have hc1 := hc.later b3
 clear q0 q1 q2
 have q0 := hc1.c0
 have q1 := hc1.c1
 have q2 := hc1.c2
 simp only [Nat.zero_add] at q0 q1 q2
 obtain ⟨v4, w4, p4, r4, b4, g4⟩ := run_append_two (α := RuleD) (P := Tryz.prog) (t := 24) (ty := 24) i3 _ 72 Tryz.underlying24 hi3 hz30 hz31 hz32 rfl (by decide) r3 h0 (fun f hf hf2 => by have := hd0 f hf2; have := hf.1; omega) (by simp; omega) (by simp; omega) z3
 have kk : ∀ (v : Value) (W W' : World) (D : Nat → Prop), W.grownBy W' v.ownBlock → (∀ k, v.ownBlock = some k → w.heap.size ≤ k) → ∀ f, f < w.heap.size → f < W.heap.size → W'.heap[f]? = W.heap[f]? := fun v W W' D hg hv f hf hf2 => hg.block f hf2 fun e => by have := hv f e.symm; omega
 have u3 : ∀ k, v3.ownBlock = some k → w.heap.size ≤ k := fun k hk => by obtain ⟨_, _, hr, _⟩ := r3; exact (hr.lt k hk).1
 have u4 : ∀ k, v4.ownBlock = some k → w.heap.size ≤ k := fun k hk => by obtain ⟨_, _, hr, _⟩ := r4; exact (hr.lt k hk).1
 have h1 := h1.kept fun f hf hf2 => kk v3 w1 w4 D1 g4 u3 f (hd1 f hf) hf2
 have h2 := h2.kept fun f hf hf2 => kk v3 w1 w4 D2 g4 u3 f (hd2 f hf) hf2
 have z4 := g4.size
 have hc4 := hc1.kept (kk v3 w1 w4 D1 g4 u3 g hc.lt (by have := hc.lt; omega))
 obtain ⟨v5, w5, p5, r5, b5, g5⟩ := run_append_two (α := RuleD) (P := Tryz.prog) (t := 24) (ty := 24) i3 _ 72 Tryz.underlying24 hi3 hz30 hz31 hz32 rfl (by decide) r4 h1 (fun f hf hf2 => by
  have hlt := hd1 f hf2
  rcases hf with hf | hf | hf
  ·omega
  ·exact h01 f hf hf2
  ·omega) (by simp; omega) (by simp; omega) (by omega)
 have z5 := g5.size
 have h2 := h2.kept fun f hf hf2 => kk v4 w4 w5 D2 g5 u4 f (hd2 f hf) hf2
 have hc5 := hc4.kept (kk v4 w4 w5 D1 g5 u4 g hc.lt (by have := hc.lt; omega))
 obtain ⟨v6, w6, p6, r6, b6, g6⟩ := run_append_two (α := RuleD) (P := Tryz.prog) (t := 24) (ty := 24) i3 _ 72 Tryz.underlying24 hi3 hz30 hz31 hz32 rfl (by decide) r5 h2 (fun f hf hf2 => by
  have hlt := hd2 f hf2
  rcases hf with (hf | hf | hf) | hf | hf
  ·omega
  ·exact h02 f hf hf2
  ·omega
  ·exact h12 f hf hf2
  ·omega) (by simp; omega) (by simp; omega) (by omega)
 have hfin : Hid (OwnD w.heap.size (fun f => D0 f ∨ D1 f ∨ D2 f ∨ w.heap.size ≤ f) 34 w6 v6 ((x0 ++ x1) ++ x2)) := by
  show OwnD _ _ _ _ _ _
  rw [List.nil_append] at r6
  refine r6.weak (Nat.le_refl _) fun f hf => ?_
  rcases hf with ((hf | hf | hf) | hf | hf) | hf | hf
  ·exact .inr (.inr (.inr (by omega)))
  ·exact .inl hf
  ·exact .inr (.inr (.inr (by omega)))
  ·exact .inr (.inl hf)
  ·exact .inr (.inr (.inr (by omega)))
  ·exact .inr (.inr (.inl hf))
  ·exact .inr (.inr (.inr (by omega)))
 have hbel := Lib.hid (b3.trans (b4.trans (b5.trans b6)))
 have q4 := hc4.c1
 have q5 := hc5.c2
 simp only [Nat.zero_add] at q4 q5
 clear r3 r4 r5 r6 h0 h1 h2 hc hc1 hc4 hc5 kk u3 u4 g4 g5 g6 b3 b4 b5 b6 z3 z4 z5 hd0 hd1 hd2 h01 h02 h12 hgr
 go_wp2
 refine wp_loop_rounds 4 ?_
 rw [rounds_succ]
 go_wp2_with (at_builtin; refine wpList_append_of rfl _ _ rfl rfl rfl p4 ?_)
 clear q0 q1 q2 p4
 rw [rounds_succ]
 go_wp2_with (at_builtin; refine wpList_append_of rfl _ _ rfl rfl rfl p5 ?_)
 clear q4 p5
 rw [rounds_succ]
 go_wp2_with (at_builtin; refine wpList_append_of rfl _ _ rfl rfl rfl p6 ?_)
 clear q5 p6
 rw [rounds_succ]
 go_wp2
 go_ret
 exact ⟨_, rfl, hfin.out, hbel.out⟩

theorem Rest.drop {w : World} {c2 c4 c5 c6 c7 : Value} {p : ProgD} {fp : List Nat} (h : Rest w c2 c4 c5 c6 c7 p fp) : ∃ fp', Rest w c2 c4 c5 (.slice none 0 0) (.slice none 0 0) { p with exts := [], assume := [] } fp' ∧ ∀ g ∈ fp', g ∈ fp := by
 obtain ⟨f2, f4, f5, f6, f7, h2, h4, h5, h6, h7, rfl, hn⟩ := h
 have hs : List.Sublist (f2 ++ (f4 ++ (f5 ++ ([] ++ [])))) (f2 ++ (f4 ++ (f5 ++ (f6 ++ f7)))) := (List.Sublist.refl f2).append ((List.Sublist.refl f4).append ((List.Sublist.refl f5).append (List.nil_sublist _)))
 have hz : ∀ {β : Type} [Ow β], OwL (α := β) w [.slice none 0 0] [] [] := fun {β} _ => ⟨none, 0, rfl, Nat.le_refl _, by omega, .inl ⟨rfl, rfl, rfl⟩⟩
 exact ⟨_, ⟨f2, f4, f5, [], [], h2, h4, h5, hz, hz, rfl, hn.sublist hs⟩, fun g hg => hs.subset hg⟩
theorem OwnPR.folded {lo hi : Nat} {D : Nat → Prop} {w : World} {c1 c2 c4 c5 c6 c7 : Value} {p : ProgD} (h : OwnPR lo hi D w c1 c2 c4 c5 c6 c7 { p with rules := (p.rules ++ extR p) ++ asmR p }) :
  OwnPR lo hi D w c1 c2 c4 c5 (.slice none 0 0) (.slice none 0 0) (foldD p) := by
 obtain ⟨fp, h1, h2, h3, h4, h5⟩ := h
 obtain ⟨fp', h3', hs⟩ := h3.drop
 exact ⟨fp', h1, h2, h3', fun g hg => h4 g (hs g hg), h5⟩

def FR (lo hi hb : Nat) (wa : World) (c2 c4 c5 c6 c7 : Value) (p : ProgD) (wx : World) : Prop :=
 ∃ v1 D, OwnPR lo hi D wx v1 c2 c4 c5 c6 c7 { p with rules := (p.rules ++ extR p) ++ asmR p } ∧ (∀ f, D f → f ≠ hb) ∧ wx.heap[hb]? = some (.cells #[.int .i64 p.atoms, v1, c2, .bool p.projOn, c4, c5, c6, c7] 30 (0, 0)) ∧ Below lo wa wx

theorem FR.bel {lo hi hb : Nat} {wa wx : World} {c2 c4 c5 c6 c7 : Value} {p : ProgD} (h : FR lo hi hb wa c2 c4 c5 c6 c7 p wx) : Below lo wa wx := by
 obtain ⟨_, _, _, _, _, h⟩ := h
 exact h
theorem takeDF {P : Program} {ops : Array Oper} {Q : Exit → Act → World → Prop} {md : Region.Mode} {S : World → Prop} {i : Nat} {oi : Oper} {v : Value} (d : Option Tmp) {fuel : Nat} {listed : Array Bool} {a : Act} {w : World} (hi : ops[i]? = some oi) (hd : oi.dst = d)
  (hs : Region.noSelect ops = true) (hf : Region.free md ops listed i = true) (hr : (Region.ready md ops listed).contains i = true)
  (hQ : ∀ c a w, Q (.panic c) (a.put oi.dst v) w → Q (.panic c) a w) (hy : YieldsIf P ops S oi v a) (hS : S w)
  (h : wpAnyH P md ops Q S fuel (listed.setIfInBounds i true) (a.put d v) w) : wpAnyH P md ops Q S (fuel + 1) listed a w := by
 subst hd
 exact wpAnyH_take hi hs hf hr hQ hy hS h
set_option maxHeartbeats 4000000 in
theorem implFold_calls {cs : List Value} {p : ProgD} {w : World} (h : Rd.R w cs p) :
  Calls Tryz.prog 93 #[.agg cs.toArray] w fun e w' => ∃ cs', e = .returned (.tuple #[.agg cs'.toArray, .bool (foldB p)]) ∧ Own w.heap.size w' cs' (foldR p) ∧ Below w.heap.size w w' := by
 obtain ⟨p0, p1, p2, p3, p4, p5, p6, p7, rfl⟩ := list8 (Rd.len h)
 have t0 : Below w.heap.size w ((w.alloc (.cells #[p0, p1, p2, p3, p4, p5, p6, p7] 30)).alloc (.cells #[.int .i64 0, .slice none 0 0, .slice none 0 0, .bool false, .slice none 0 0, .slice none 0 0, .slice none 0 0, .slice none 0 0] 30)) := ((Below.refl _ _).alloc (by simp) _).alloc (by simp) _
 have CP := (Cells.new w [p0, p1, p2, p3, p4, p5, p6, p7] 30).alloc (.cells #[.int .i64 0, .slice none 0 0, .slice none 0 0, .bool false, .slice none 0 0, .slice none 0 0, .slice none 0 0, .slice none 0 0] 30)
 have CR := Cells.new (w.alloc (.cells #[p0, p1, p2, p3, p4, p5, p6, p7] 30)) [.int .i64 0, .slice none 0 0, .slice none 0 0, .bool false, .slice none 0 0, .slice none 0 0, .slice none 0 0, .slice none 0 0] 30
 have hb0 := alloc_block (w.alloc (.cells #[p0, p1, p2, p3, p4, p5, p6, p7] 30)) #[.int .i64 0, .slice none 0 0, .slice none 0 0, .bool false, .slice none 0 0, .slice none 0 0, .slice none 0 0, .slice none 0 0] 30
 rw [World.size_alloc] at CR hb0
 cases hp : progOkB p
 ·have hb := foldB_no hp
  have hr := Lib.hid (foldR_no hb)
  have hb := Lib.hid hb
  go_enter Tryz.func93, Tryz.ntmps93
  go_wp2_with fail
  refine (implProgOk_calls (Rd.mono t0 h)).mono ?_
  rintro e w1 ⟨he, b1⟩
  rw [hp] at he
  subst he
  have CR1 := CR.later b1
  obtain ⟨z0, z1, z2, z3, z4, z5, z6, z7⟩ := cells8 CR1
  obtain ⟨hcA, hf1⟩ := bcell b1
  clear hcA
  have hz1 : w.heap.size + 1 < w1.heap.size := by have := b1.size; simp at this; omega
  have t1 := t0.step b1
  clear CP CR CR1
  go_wp2
  exact bodyPost_ret (v := .tuple #[.agg #[.int .i64 0, .slice none 0 0, .slice none 0 0, .bool false, .slice none 0 0, .slice none 0 0, .slice none 0 0, .slice none 0 0], .bool false])
   (by simp [results, Tryz.results93, go_sem, z0, z1, z2, z3, z4, z5, z6, z7]) rfl ⟨_, by rw [hb.out], by rw [hr.out]; exact own_zero _ _, by
   repeat (refine Below.setCell ?_ (by simp; try omega) _)
   exact t1⟩
 have sp := szP_ok hp
 have nr := (progOk_rules hp).1
 have ne := progOk_exts_len hp
 have na := (progOk_asm hp).1
 have HB := Lib.hid (foldB_yes hp)
 go_enter Tryz.func93, Tryz.ntmps93
 go_wp2_with fail
 refine (implProgOk_calls (Rd.mono t0 h)).mono ?_
 rintro e w1 ⟨he, b1⟩
 rw [hp] at he
 subst he
 have CP1 := CP.later b1
 have t1 := t0.step b1
 have hs1 : w.heap.size + 1 + 1 ≤ w1.heap.size := by have := b1.size; simpa using this
 obtain ⟨y0, y1, y2, y3, y4, y5, y6, y7⟩ := cells8 CP1
 have HP := Lib.hid hp
 clear hp
 go_wp2_with fail
 clear y0 y1 y2 y3 y4 y5 y6 y7
 refine (progCopied_calls (Rd.mono t1 h) sp).mono ?_
 rintro e w2 ⟨c1, c2, c4, c5, c6, c7, D0, rfl, hP0, hD0, b2⟩
 have hs2 : w1.heap.size ≤ w2.heap.size := b2.size
 have b12 := b1.step b2
 have t2 := t1.step b2
 have one := Rd.one hP0.own.rd
 have CP2 := CP1.later b2
 have hP00 := hP0
 obtain ⟨_, _, hr00, _⟩ := hP00
 obtain ⟨a1, n1, rfl⟩ := hr00.form
 have st2 := sto Tryz.prog (one c2 (by simp))
 have st4 := sto Tryz.prog (one c4 (by simp))
 have st5 := sto Tryz.prog (one c5 (by simp))
 have st6 := sto Tryz.prog (one c6 (by simp))
 have st7 := sto Tryz.prog (one c7 (by simp))
 clear hr00
 go_upto_region 4 with fail
 have b23 := (Below.refl w2.heap.size w2).alloc (Nat.le_refl _) (.cells #[.int .i64 p.atoms, .slice a1 p.rules.length n1, c2, .bool p.projOn, c4, c5, c6, c7] 30)
 have t3 := t2.alloc t2.size (.cells #[.int .i64 p.atoms, .slice a1 p.rules.length n1, c2, .bool p.projOn, c4, c5, c6, c7] 30)
 have hPa := hP0.later b23
 have hGa := alloc_block w2 #[.int .i64 p.atoms, .slice a1 p.rules.length n1, c2, .bool p.projOn, c4, c5, c6, c7] 30
 have CP3 := CP2.later b23
 have hbr3 := ((b23.block (w.heap.size + 1) (by omega)).trans (b12.block _ (by simp))).trans hb0
 have hza := World.size_alloc w2 (.cells #[.int .i64 p.atoms, .slice a1 p.rules.length n1, c2, .bool p.projOn, c4, c5, c6, c7] 30)
 generalize w2.alloc (.cells #[.int .i64 p.atoms, .slice a1 p.rules.length n1, c2, .bool p.projOn, c4, c5, c6, c7] 30) = wa at b23 t3 hPa hGa CP3 hbr3 hza ⊢
 obtain ⟨hb, hhb⟩ : ∃ hb, hb = w2.heap.size := ⟨_, rfl⟩
 obtain ⟨lo, hlo⟩ : ∃ lo, lo = w1.heap.size := ⟨_, rfl⟩
 obtain ⟨hi, hhi'⟩ : ∃ hi, hi = w2.heap.size := ⟨_, rfl⟩
 rw [← hlo, ← hhi'] at hPa
 rw [← hhb] at hGa hza hD0 ⊢
 have hhi : hi ≤ hb := by omega
 have hlb : lo ≤ hb := by omega
 have hDb0 : ∀ f, D0 f → f ≠ hb := fun f hf => by have := hD0 f hf; omega
 have hD0' : ∀ f, D0 f → f < wa.heap.size := fun f hf => by have := hD0 f hf; omega
 have hlw : w.heap.size + 1 < lo := by omega
 have hloa : lo ≤ wa.heap.size := by omega
 have hhb2 : hb < wa.heap.size := by omega
 have hha : hi ≤ wa.heap.size := by omega
 have HLO := Lib.hid hlo
 clear hhb hlo hhi' hza hP0 CP CP1 CP2 b1 b2 b12 b23 t0 t1 t2 st2 st4 st5 st6 st7
 have cellR : ∀ {W : World} {x0 x1 x2 x3 x4 x5 x6 x7 : Value}, W.heap[hb]? = some (.cells #[x0, x1, x2, x3, x4, x5, x6, x7] 30 (0, 0)) → W.cell? ⟨hb, 1, none⟩ = some x1 := fun {W} _ _ _ _ _ _ _ _ hh => by rw [cell_of_row W hb 1 _ _ _ hh]; rfl
 go_cut [] (fun wx => FR lo hi hb wa c2 c4 c5 c6 c7 p wx)
 case first =>
  have hp := HP.out
  have keep1 : ∀ w', Below lo wa w' → (w'.cell? ⟨w.heap.size, 0, none⟩ = some p0 ∧ w'.cell? ⟨w.heap.size, 1, none⟩ = some p1 ∧ w'.cell? ⟨w.heap.size, 2, none⟩ = some p2 ∧ w'.cell? ⟨w.heap.size, 3, none⟩ = some p3 ∧ w'.cell? ⟨w.heap.size, 4, none⟩ = some p4 ∧ w'.cell? ⟨w.heap.size, 5, none⟩ = some p5 ∧ w'.cell? ⟨w.heap.size, 6, none⟩ = some p6 ∧ w'.cell? ⟨w.heap.size, 7, none⟩ = some p7) := fun w' hb' => cells8 (CP3.kept (hb'.block w.heap.size (by omega)))
  have B0 : Below lo wa wa.drew := (Below.refl _ _).drew
  have T0 := t3.drew
  have f2 := cellR hGa
  refine wp_region_held_drew (S := fun w' => w'.cell? ⟨w.heap.size, 0, none⟩ = some p0 ∧ w'.cell? ⟨w.heap.size, 1, none⟩ = some p1 ∧ w'.cell? ⟨w.heap.size, 2, none⟩ = some p2 ∧ w'.cell? ⟨w.heap.size, 3, none⟩ = some p3 ∧ w'.cell? ⟨w.heap.size, 4, none⟩ = some p4 ∧ w'.cell? ⟨w.heap.size, 5, none⟩ = some p5 ∧ w'.cell? ⟨w.heap.size, 6, none⟩ = some p6 ∧ w'.cell? ⟨w.heap.size, 7, none⟩ = some p7) (by kernel_rfl) (keep1 _ B0) (fun hHeld => ?_)
  refine takeDF (i := 0) (v := .pointer (some ⟨hb, 1, none⟩)) (some 11) rfl rfl (by kernel_rfl) (by kernel_rfl) (by kernel_rfl) (fun _ _ _ h => h) (Or.inl ⟨by rfl, fun w' hw' => ?_⟩) hHeld ?_
  ·first | (go_simp; done) | (obtain ⟨q0, q1, q2, q3, q4, q5, q6, q7⟩ := hw'; go_simp)
  try simp only [Act.put, put1, put2, put3]
  refine takeDF (i := 2) (v := .agg #[p0, p1, p2, p3, p4, p5, p6, p7]) (some 13) rfl rfl (by kernel_rfl) (by kernel_rfl) (by kernel_rfl) (fun _ _ _ h => h) (Or.inl ⟨by rfl, fun w' hw' => ?_⟩) hHeld ?_
  ·first | (go_simp; done) | (obtain ⟨q0, q1, q2, q3, q4, q5, q6, q7⟩ := hw'; go_simp)
  try simp only [Act.put, put1, put2, put3]
  refine takeDF (i := 4) (v := .agg #[p0, p1, p2, p3, p4, p5, p6, p7]) (some 15) rfl rfl (by kernel_rfl) (by kernel_rfl) (by kernel_rfl) (fun _ _ _ h => h) (Or.inl ⟨by rfl, fun w' hw' => ?_⟩) hHeld ?_
  ·first | (go_simp; done) | (obtain ⟨q0, q1, q2, q3, q4, q5, q6, q7⟩ := hw'; go_simp)
  try simp only [Act.put, put1, put2, put3]
  refine wpAnyH_ready (rs := [1, 3]) (by kernel_rfl) (by simp) ?_
  refine AllReadyH.cons rfl (fun K hK => ?_) (AllReadyH.cons rfl (fun K hK => ?_) AllReadyH.nil)
  ·go_simp
   refine hK.out _ _ (keep1 _ B0) (fun hHeld => ?_)
   clear hK K
   try simp only [Act.put, put1, put2, put3]
   refine wpAnyH_ready (rs := [3]) (by kernel_rfl) (by simp) ?_
   refine AllReadyH.cons rfl (fun K hK => ?_) AllReadyH.nil
   go_simp
   refine (extRules_calls (Rd.mono T0 h) hp).mono ?_
   rintro e wb ⟨ve, rfl, re, be⟩
   have B1 := B0.trans (be.mono hloa)
   have be' := (Below.refl wa.heap.size wa).drew.step be
   have T1 := T0.step be
   have hG1 := (be.block hb (by show hb < wa.heap.size; omega)).trans hGa
   have f2 := cellR hG1
   refine hK.out _ _ (keep1 _ B1) (fun hHeld => ?_)
   clear hK K
   try simp only [Act.put, put1, put2, put3]
   refine wpAnyH_ready (rs := [5]) (by kernel_rfl) (by simp) ?_
   refine AllReadyH.cons rfl (fun K hK => ?_) AllReadyH.nil
   go_simp
   refine (assumeRules_calls (Rd.mono T1 h) hp).mono ?_
   rintro e wc ⟨va, rfl, rb, bb⟩
   have B2 := B1.trans (bb.mono (show lo ≤ wb.heap.size by have := be'.size; omega))
   have T2 := T1.step bb
   have zb : wa.heap.size ≤ wb.heap.size := be.size
   have hG2 := (bb.block hb (by omega)).trans hG1
   have f2 := cellR hG2
   refine hK.out _ _ (keep1 _ B2) (fun hHeld => ?_)
   clear hK K
   try simp only [Act.put, put1, put2, put3]
   have zc : wb.heap.size ≤ wc.heap.size := bb.size
   have re2 := (re.toD.weak (B' := lo) (D' := fun f => wa.heap.size ≤ f ∧ f < wb.heap.size) hloa fun f hf => hf).later bb
   have rb2 := rb.toD.weak (B' := lo) (D' := fun f => wb.heap.size ≤ f ∧ f < wc.heap.size) (by omega) fun f hf => hf
   have hPc := (hPa.later be').later bb
   obtain ⟨fpR, hFit, hR0, hRest, hRin, hDlo⟩ := hPc
   obtain ⟨ae, ne', rfl⟩ := re2.form
   obtain ⟨aa, na', rfl⟩ := rb2.form
   have bA := (Below.refl wc.heap.size wc).alloc (Nat.le_refl _) (.cells #[.slice a1 p.rules.length n1, .slice ae (extR p).length ne', .slice aa (asmR p).length na'] 24)
   have hC3 := Cells.new wc [.slice a1 p.rules.length n1, .slice ae (extR p).length ne', .slice aa (asmR p).length na'] 24
   have hzA := World.size_alloc wc (.cells #[.slice a1 p.rules.length n1, .slice ae (extR p).length ne', .slice aa (asmR p).length na'] 24)
   have B3 := B2.trans (bA.mono (by omega))
   have hG3 := (bA.block hb (by omega)).trans hG2
   have le1 : (extR p).length ≤ 12 := Nat.le_trans (extTo_len _ _ _) ne
   have le2 : (asmR p).length ≤ 20 := by rw [asmR_len]; exact na
   refine wpAnyH_ready (rs := [6]) (by kernel_rfl) (by simp) ?_
   refine AllReadyH.cons rfl (fun K hK => ?_) AllReadyH.nil
   go_simp
   refine hK.out _ _ (keep1 _ B3) (fun hHeld => ?_)
   clear hK K
   try simp only [Act.put, put1, put2, put3]
   refine wpAnyH_ready (rs := [7]) (by kernel_rfl) (by simp) ?_
   refine AllReadyH.cons rfl (fun K hK => ?_) AllReadyH.nil
   go_simp
   refine (concat_calls (lo := lo) hC3 (hR0.later bA) (re2.later bA) (rb2.later bA) (fun f hf => by have := hD0' f hf; omega) (fun f hf => by omega) (fun f hf => by omega) (fun f h1 h2 => by have := hD0' f h1; omega) (fun f h1 h2 => by have := hD0' f h1; omega) (fun f h1 h2 => by omega) ⟨by omega, by omega, by omega⟩).mono ?_
   rintro e wd ⟨vd, rfl, rd, bd⟩
   have B4 := B3.trans (bd.mono (by omega))
   have zd := bd.size
   have hG4 := (bd.block hb (by omega)).trans hG3
   have hRest4 := (hRest.kept fun g hg => bA.block g (hRest.lt g hg))
   have hRest5 := hRest4.kept fun g hg => bd.block g (hRest4.lt g hg)
   have hP4 : OwnPR lo hi (fun f => D0 f ∨ wa.heap.size ≤ f) wd vd c2 c4 c5 c6 c7 { p with rules := (p.rules ++ extR p) ++ asmR p } := ⟨fpR, hFit, rd.weak (by omega) (fun f hf => by
    rcases hf with hf | hf | hf | hf
    ·exact .inl hf
    ·exact .inr hf.1
    ·exact .inr (by omega)
    ·exact .inr (by omega)), hRest5, fun g hg => ⟨(hRin g hg).1, (hRin g hg).2.1, fun hh => by rcases hh with hh | hh; exact (hRin g hg).2.2 hh; have := (hRin g hg).2.1; omega⟩, fun g hg => by rcases hg with hg | hg; exact hDlo g hg; omega⟩
   have hDb4 : ∀ f, (D0 f ∨ wa.heap.size ≤ f) → f ≠ hb := fun f hf e => by rcases hf with hf | hf; exact hDb0 f hf e; omega
   have ff := frozen_of_row wd hb 1 _ _ hG4
   have f4 := cellR hG4
   have hHR : Hid (FR lo hi hb wa c2 c4 c5 c6 c7 p (wd.setCell ⟨hb, 1, none⟩ vd)) := ⟨vd, _, hP4.far (fun hd => hDb4 _ hd rfl) (.inr hhi) _, hDb4, heap_setCell_same wd hb 1 _ _ vd hG4, Below.setCell B4 (p := ⟨hb, 1, none⟩) hlb vd⟩
   have B5 := hHR.out.bel
   obtain ⟨ad, nd, hvd⟩ := rd.form
   obtain ⟨nT, hnT⟩ : ∃ nT : Nat, nT = ((p.rules ++ extR p) ++ asmR p).length := ⟨_, rfl⟩
   rw [← hnT] at hvd
   have HNT := Lib.hid hnT
   clear hnT
   subst hvd
   refine hK.out _ _ (keep1 _ B4) (fun hHeld => ?_)
   clear hK K
   try simp only [Act.put, put1, put2, put3]
   refine takeDF (i := 8) (v := .pointer (some ⟨hb, 1, none⟩)) (some 19) rfl rfl (by kernel_rfl) (by kernel_rfl) (by kernel_rfl) (fun _ _ _ h => h) (Or.inl ⟨by rfl, fun w' hw' => ?_⟩) hHeld ?_
   ·first | (go_simp; done) | (obtain ⟨q0, q1, q2, q3, q4, q5, q6, q7⟩ := hw'; go_simp)
   try simp only [Act.put, put1, put2, put3]
   refine wpAnyH_ready (rs := [9]) (by kernel_rfl) (by simp) ?_
   refine AllReadyH.cons rfl (fun K hK => ?_) AllReadyH.nil
   go_simp
   refine hK.out _ _ (keep1 _ B5) (fun hHeld => ?_)
   clear hK K
   try simp only [Act.put, put1, put2, put3]
   refine wpAnyH_done (by kernel_rfl) ?_ _
   go_wp2_with fail
   go_meet
   exact hHR.out
  ·go_simp
   refine (extRules_calls (Rd.mono T0 h) hp).mono ?_
   rintro e wb ⟨ve, rfl, re, be⟩
   have B1 := B0.trans (be.mono hloa)
   have be' := (Below.refl wa.heap.size wa).drew.step be
   have T1 := T0.step be
   have hG1 := (be.block hb (by show hb < wa.heap.size; omega)).trans hGa
   have f2 := cellR hG1
   refine hK.out _ _ (keep1 _ B1) (fun hHeld => ?_)
   clear hK K
   try simp only [Act.put, put1, put2, put3]
   refine wpAnyH_ready (rs := [1, 5]) (by kernel_rfl) (by simp) ?_
   refine AllReadyH.cons rfl (fun K hK => ?_) (AllReadyH.cons rfl (fun K hK => ?_) AllReadyH.nil)
   ·go_simp
    refine hK.out _ _ (keep1 _ B1) (fun hHeld => ?_)
    clear hK K
    try simp only [Act.put, put1, put2, put3]
    refine wpAnyH_ready (rs := [5]) (by kernel_rfl) (by simp) ?_
    refine AllReadyH.cons rfl (fun K hK => ?_) AllReadyH.nil
    go_simp
    refine (assumeRules_calls (Rd.mono T1 h) hp).mono ?_
    rintro e wc ⟨va, rfl, rb, bb⟩
    have B2 := B1.trans (bb.mono (show lo ≤ wb.heap.size by have := be'.size; omega))
    have T2 := T1.step bb
    have zb : wa.heap.size ≤ wb.heap.size := be.size
    have hG2 := (bb.block hb (by omega)).trans hG1
    have f2 := cellR hG2
    refine hK.out _ _ (keep1 _ B2) (fun hHeld => ?_)
    clear hK K
    try simp only [Act.put, put1, put2, put3]
    have zc : wb.heap.size ≤ wc.heap.size := bb.size
    have re2 := (re.toD.weak (B' := lo) (D' := fun f => wa.heap.size ≤ f ∧ f < wb.heap.size) hloa fun f hf => hf).later bb
    have rb2 := rb.toD.weak (B' := lo) (D' := fun f => wb.heap.size ≤ f ∧ f < wc.heap.size) (by omega) fun f hf => hf
    have hPc := (hPa.later be').later bb
    obtain ⟨fpR, hFit, hR0, hRest, hRin, hDlo⟩ := hPc
    obtain ⟨ae, ne', rfl⟩ := re2.form
    obtain ⟨aa, na', rfl⟩ := rb2.form
    have bA := (Below.refl wc.heap.size wc).alloc (Nat.le_refl _) (.cells #[.slice a1 p.rules.length n1, .slice ae (extR p).length ne', .slice aa (asmR p).length na'] 24)
    have hC3 := Cells.new wc [.slice a1 p.rules.length n1, .slice ae (extR p).length ne', .slice aa (asmR p).length na'] 24
    have hzA := World.size_alloc wc (.cells #[.slice a1 p.rules.length n1, .slice ae (extR p).length ne', .slice aa (asmR p).length na'] 24)
    have B3 := B2.trans (bA.mono (by omega))
    have hG3 := (bA.block hb (by omega)).trans hG2
    have le1 : (extR p).length ≤ 12 := Nat.le_trans (extTo_len _ _ _) ne
    have le2 : (asmR p).length ≤ 20 := by rw [asmR_len]; exact na
    refine wpAnyH_ready (rs := [6]) (by kernel_rfl) (by simp) ?_
    refine AllReadyH.cons rfl (fun K hK => ?_) AllReadyH.nil
    go_simp
    refine hK.out _ _ (keep1 _ B3) (fun hHeld => ?_)
    clear hK K
    try simp only [Act.put, put1, put2, put3]
    refine wpAnyH_ready (rs := [7]) (by kernel_rfl) (by simp) ?_
    refine AllReadyH.cons rfl (fun K hK => ?_) AllReadyH.nil
    go_simp
    refine (concat_calls (lo := lo) hC3 (hR0.later bA) (re2.later bA) (rb2.later bA) (fun f hf => by have := hD0' f hf; omega) (fun f hf => by omega) (fun f hf => by omega) (fun f h1 h2 => by have := hD0' f h1; omega) (fun f h1 h2 => by have := hD0' f h1; omega) (fun f h1 h2 => by omega) ⟨by omega, by omega, by omega⟩).mono ?_
    rintro e wd ⟨vd, rfl, rd, bd⟩
    have B4 := B3.trans (bd.mono (by omega))
    have zd := bd.size
    have hG4 := (bd.block hb (by omega)).trans hG3
    have hRest4 := (hRest.kept fun g hg => bA.block g (hRest.lt g hg))
    have hRest5 := hRest4.kept fun g hg => bd.block g (hRest4.lt g hg)
    have hP4 : OwnPR lo hi (fun f => D0 f ∨ wa.heap.size ≤ f) wd vd c2 c4 c5 c6 c7 { p with rules := (p.rules ++ extR p) ++ asmR p } := ⟨fpR, hFit, rd.weak (by omega) (fun f hf => by
     rcases hf with hf | hf | hf | hf
     ·exact .inl hf
     ·exact .inr hf.1
     ·exact .inr (by omega)
     ·exact .inr (by omega)), hRest5, fun g hg => ⟨(hRin g hg).1, (hRin g hg).2.1, fun hh => by rcases hh with hh | hh; exact (hRin g hg).2.2 hh; have := (hRin g hg).2.1; omega⟩, fun g hg => by rcases hg with hg | hg; exact hDlo g hg; omega⟩
    have hDb4 : ∀ f, (D0 f ∨ wa.heap.size ≤ f) → f ≠ hb := fun f hf e => by rcases hf with hf | hf; exact hDb0 f hf e; omega
    have ff := frozen_of_row wd hb 1 _ _ hG4
    have f4 := cellR hG4
    have hHR : Hid (FR lo hi hb wa c2 c4 c5 c6 c7 p (wd.setCell ⟨hb, 1, none⟩ vd)) := ⟨vd, _, hP4.far (fun hd => hDb4 _ hd rfl) (.inr hhi) _, hDb4, heap_setCell_same wd hb 1 _ _ vd hG4, Below.setCell B4 (p := ⟨hb, 1, none⟩) hlb vd⟩
    have B5 := hHR.out.bel
    obtain ⟨ad, nd, hvd⟩ := rd.form
    obtain ⟨nT, hnT⟩ : ∃ nT : Nat, nT = ((p.rules ++ extR p) ++ asmR p).length := ⟨_, rfl⟩
    rw [← hnT] at hvd
    have HNT := Lib.hid hnT
    clear hnT
    subst hvd
    refine hK.out _ _ (keep1 _ B4) (fun hHeld => ?_)
    clear hK K
    try simp only [Act.put, put1, put2, put3]
    refine takeDF (i := 8) (v := .pointer (some ⟨hb, 1, none⟩)) (some 19) rfl rfl (by kernel_rfl) (by kernel_rfl) (by kernel_rfl) (fun _ _ _ h => h) (Or.inl ⟨by rfl, fun w' hw' => ?_⟩) hHeld ?_
    ·first | (go_simp; done) | (obtain ⟨q0, q1, q2, q3, q4, q5, q6, q7⟩ := hw'; go_simp)
    try simp only [Act.put, put1, put2, put3]
    refine wpAnyH_ready (rs := [9]) (by kernel_rfl) (by simp) ?_
    refine AllReadyH.cons rfl (fun K hK => ?_) AllReadyH.nil
    go_simp
    refine hK.out _ _ (keep1 _ B5) (fun hHeld => ?_)
    clear hK K
    try simp only [Act.put, put1, put2, put3]
    refine wpAnyH_done (by kernel_rfl) ?_ _
    go_wp2_with fail
    go_meet
    exact hHR.out
   ·go_simp
    refine (assumeRules_calls (Rd.mono T1 h) hp).mono ?_
    rintro e wc ⟨va, rfl, rb, bb⟩
    have B2 := B1.trans (bb.mono (show lo ≤ wb.heap.size by have := be'.size; omega))
    have T2 := T1.step bb
    have zb : wa.heap.size ≤ wb.heap.size := be.size
    have hG2 := (bb.block hb (by omega)).trans hG1
    have f2 := cellR hG2
    refine hK.out _ _ (keep1 _ B2) (fun hHeld => ?_)
    clear hK K
    try simp only [Act.put, put1, put2, put3]
    refine wpAnyH_ready (rs := [1]) (by kernel_rfl) (by simp) ?_
    refine AllReadyH.cons rfl (fun K hK => ?_) AllReadyH.nil
    go_simp
    refine hK.out _ _ (keep1 _ B2) (fun hHeld => ?_)
    clear hK K
    try simp only [Act.put, put1, put2, put3]
    have zc : wb.heap.size ≤ wc.heap.size := bb.size
    have re2 := (re.toD.weak (B' := lo) (D' := fun f => wa.heap.size ≤ f ∧ f < wb.heap.size) hloa fun f hf => hf).later bb
    have rb2 := rb.toD.weak (B' := lo) (D' := fun f => wb.heap.size ≤ f ∧ f < wc.heap.size) (by omega) fun f hf => hf
    have hPc := (hPa.later be').later bb
    obtain ⟨fpR, hFit, hR0, hRest, hRin, hDlo⟩ := hPc
    obtain ⟨ae, ne', rfl⟩ := re2.form
    obtain ⟨aa, na', rfl⟩ := rb2.form
    have bA := (Below.refl wc.heap.size wc).alloc (Nat.le_refl _) (.cells #[.slice a1 p.rules.length n1, .slice ae (extR p).length ne', .slice aa (asmR p).length na'] 24)
    have hC3 := Cells.new wc [.slice a1 p.rules.length n1, .slice ae (extR p).length ne', .slice aa (asmR p).length na'] 24
    have hzA := World.size_alloc wc (.cells #[.slice a1 p.rules.length n1, .slice ae (extR p).length ne', .slice aa (asmR p).length na'] 24)
    have B3 := B2.trans (bA.mono (by omega))
    have hG3 := (bA.block hb (by omega)).trans hG2
    have le1 : (extR p).length ≤ 12 := Nat.le_trans (extTo_len _ _ _) ne
    have le2 : (asmR p).length ≤ 20 := by rw [asmR_len]; exact na
    refine wpAnyH_ready (rs := [6]) (by kernel_rfl) (by simp) ?_
    refine AllReadyH.cons rfl (fun K hK => ?_) AllReadyH.nil
    go_simp
    refine hK.out _ _ (keep1 _ B3) (fun hHeld => ?_)
    clear hK K
    try simp only [Act.put, put1, put2, put3]
    refine wpAnyH_ready (rs := [7]) (by kernel_rfl) (by simp) ?_
    refine AllReadyH.cons rfl (fun K hK => ?_) AllReadyH.nil
    go_simp
    refine (concat_calls (lo := lo) hC3 (hR0.later bA) (re2.later bA) (rb2.later bA) (fun f hf => by have := hD0' f hf; omega) (fun f hf => by omega) (fun f hf => by omega) (fun f h1 h2 => by have := hD0' f h1; omega) (fun f h1 h2 => by have := hD0' f h1; omega) (fun f h1 h2 => by omega) ⟨by omega, by omega, by omega⟩).mono ?_
    rintro e wd ⟨vd, rfl, rd, bd⟩
    have B4 := B3.trans (bd.mono (by omega))
    have zd := bd.size
    have hG4 := (bd.block hb (by omega)).trans hG3
    have hRest4 := (hRest.kept fun g hg => bA.block g (hRest.lt g hg))
    have hRest5 := hRest4.kept fun g hg => bd.block g (hRest4.lt g hg)
    have hP4 : OwnPR lo hi (fun f => D0 f ∨ wa.heap.size ≤ f) wd vd c2 c4 c5 c6 c7 { p with rules := (p.rules ++ extR p) ++ asmR p } := ⟨fpR, hFit, rd.weak (by omega) (fun f hf => by
     rcases hf with hf | hf | hf | hf
     ·exact .inl hf
     ·exact .inr hf.1
     ·exact .inr (by omega)
     ·exact .inr (by omega)), hRest5, fun g hg => ⟨(hRin g hg).1, (hRin g hg).2.1, fun hh => by rcases hh with hh | hh; exact (hRin g hg).2.2 hh; have := (hRin g hg).2.1; omega⟩, fun g hg => by rcases hg with hg | hg; exact hDlo g hg; omega⟩
    have hDb4 : ∀ f, (D0 f ∨ wa.heap.size ≤ f) → f ≠ hb := fun f hf e => by rcases hf with hf | hf; exact hDb0 f hf e; omega
    have ff := frozen_of_row wd hb 1 _ _ hG4
    have f4 := cellR hG4
    have hHR : Hid (FR lo hi hb wa c2 c4 c5 c6 c7 p (wd.setCell ⟨hb, 1, none⟩ vd)) := ⟨vd, _, hP4.far (fun hd => hDb4 _ hd rfl) (.inr hhi) _, hDb4, heap_setCell_same wd hb 1 _ _ vd hG4, Below.setCell B4 (p := ⟨hb, 1, none⟩) hlb vd⟩
    have B5 := hHR.out.bel
    obtain ⟨ad, nd, hvd⟩ := rd.form
    obtain ⟨nT, hnT⟩ : ∃ nT : Nat, nT = ((p.rules ++ extR p) ++ asmR p).length := ⟨_, rfl⟩
    rw [← hnT] at hvd
    have HNT := Lib.hid hnT
    clear hnT
    subst hvd
    refine hK.out _ _ (keep1 _ B4) (fun hHeld => ?_)
    clear hK K
    try simp only [Act.put, put1, put2, put3]
    refine takeDF (i := 8) (v := .pointer (some ⟨hb, 1, none⟩)) (some 19) rfl rfl (by kernel_rfl) (by kernel_rfl) (by kernel_rfl) (fun _ _ _ h => h) (Or.inl ⟨by rfl, fun w' hw' => ?_⟩) hHeld ?_
    ·first | (go_simp; done) | (obtain ⟨q0, q1, q2, q3, q4, q5, q6, q7⟩ := hw'; go_simp)
    try simp only [Act.put, put1, put2, put3]
    refine wpAnyH_ready (rs := [9]) (by kernel_rfl) (by simp) ?_
    refine AllReadyH.cons rfl (fun K hK => ?_) AllReadyH.nil
    go_simp
    refine hK.out _ _ (keep1 _ B5) (fun hHeld => ?_)
    clear hK K
    try simp only [Act.put, put1, put2, put3]
    refine wpAnyH_done (by kernel_rfl) ?_ _
    go_wp2_with fail
    go_meet
    exact hHR.out
 case rest =>
  obtain ⟨v1, D, hP, hDb, hG, hbw⟩ := hcut
  have hP00 := hP
  obtain ⟨_, _, hr00, _⟩ := hP00
  obtain ⟨av, nv, hv0⟩ := hr00.form
  obtain ⟨nT, hnT⟩ : ∃ nT : Nat, nT = ((p.rules ++ extR p) ++ asmR p).length := ⟨_, rfl⟩
  have hv : v1 = .slice av nT nv := by rw [hv0, hnT]
  clear hv0
  subst hv
  have hFB : foldB p = decide (nT ≤ 60) := by rw [HB.out, hnT, List.length_append, List.length_append, asmR_len]
  have hbr := (hbw.block (w.heap.size + 1) hlw).trans hbr3
  have hfz := fun j => frozen_of_row wc (w.heap.size + 1) j _ _ hbr
  have hfb := fun j => frozen_of_row wc hb j _ _ hG
  have CZ : Cells wc (w.heap.size + 1) 0 [.int .i64 0, .slice none 0 0, .slice none 0 0, .bool false, .slice none 0 0, .slice none 0 0, .slice none 0 0, .slice none 0 0] := fun j v hv => by
   rw [Nat.zero_add, cell_of_row wc (w.heap.size + 1) j _ _ _ hbr]; simpa using hv
  have CG : Cells wc hb 0 [.int .i64 p.atoms, .slice av nT nv, c2, .bool p.projOn, c4, c5, c6, c7] := fun j v hv => by
   rw [Nat.zero_add, cell_of_row wc hb j _ _ _ hG]; simpa using hv
  obtain ⟨x0, x1, x2, x3, x4, x5, x6, x7⟩ := cells8 CG
  obtain ⟨z0, z1, z2, z3, z4, z5, z6, z7⟩ := cells8 CZ
  have one1 := Rd.one hP.own.rd
  have st2 := sto Tryz.prog (one1 c2 (by simp))
  have st4 := sto Tryz.prog (one1 c4 (by simp))
  have st5 := sto Tryz.prog (one1 c5 (by simp))
  have hPf := Lib.hid hP.folded
  have tF : Below w.heap.size w wc := t3.trans (hbw.mono (by omega))
  have hnr : w.heap.size + 1 ≠ hb := by omega
  have hnD : ¬ D (w.heap.size + 1) := fun hd => by
   obtain ⟨_, _, _, _, _, hlo5⟩ := hP
   have := hlo5 _ hd
   omega
  have hnb : ¬ D hb := fun hd => hDb _ hd rfl
  have HNT := Lib.hid hnT
  clear hnT hr00 CG CZ hG hbr hbw hP one1 CP3 hGa hPa hbr3
  by_cases hl : 60 < nT
  ·have hb2 : foldB p = false := by rw [hFB]; exact decide_eq_false (by omega)
   have hr := Lib.hid (foldR_no hb2)
   have HB2 := Lib.hid hb2
   have hl1 : (60 : Int) < (nT : Int) := by omega
   clear hFB hl hb2
   go_wp2
   exact bodyPost_ret (v := .tuple #[.agg #[.int .i64 0, .slice none 0 0, .slice none 0 0, .bool false, .slice none 0 0, .slice none 0 0, .slice none 0 0, .slice none 0 0], .bool false])
    (by simp [results, Tryz.results93, go_sem, z0, z1, z2, z3, z4, z5, z6, z7]) rfl ⟨_, by rw [HB2.out], by rw [hr.out]; exact own_zero _ _, by
    repeat (refine Below.setCell ?_ (by simp; try omega) _)
    exact tF⟩
  ·have hb2 : foldB p = true := by rw [hFB]; exact decide_eq_true (by omega)
   have hr := Lib.hid (foldR_yes hb2)
   have HB2 := Lib.hid hb2
   have hl1 : (nT : Int) ≤ 60 := by omega
   clear hFB hl hb2
   go_wp2
   refine bodyPost_ret (v := .tuple #[.agg #[.int .i64 p.atoms, .slice av nT nv, c2, .bool p.projOn, c4, c5, .slice none 0 0, .slice none 0 0], .bool true])
    (by simp [results, Tryz.results93, go_sem, z0, z1, z2, z3, z4, z5, z6, z7]) rfl ⟨_, by rw [HB2.out], ?_, ?_⟩
   ·rw [hr.out]
    have e1 := (hPf.out.far (q := ⟨hb, 6, none⟩) hnb (.inr hhi) (.slice none 0 0)).far (q := ⟨hb, 7, none⟩) hnb (.inr hhi) (.slice none 0 0)
    have e2 := e1.chg (put_chg (w.heap.size + 1) [.int .i64 p.atoms, .slice av nT nv, c2, .bool p.projOn, c4, c5, .slice none 0 0, .slice none 0 0] _ 0) hnD (.inl hlw)
    exact e2.own.mono (by omega)
   ·exact (Below.setCell (Below.setCell tF (p := ⟨hb, 6, none⟩) (by show w.heap.size ≤ hb; omega) (.slice none 0 0)) (p := ⟨hb, 7, none⟩) (by show w.heap.size ≤ hb; omega) (.slice none 0 0)).trans ((put_chg (w.heap.size + 1) [.int .i64 p.atoms, .slice av nT nv, c2, .bool p.projOn, c4, c5, .slice none 0 0, .slice none 0 0] _ 0).below fun g hg => by simp at hg; omega)

end Go.Proofs.YthikhkeofcjdfaaGreat
