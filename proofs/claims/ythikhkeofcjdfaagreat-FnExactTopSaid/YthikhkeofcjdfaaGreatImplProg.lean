/-
 impl.ProgOk: what it answers. No condition of its own.
-/
import Derived.Test.YthikhkeofcjdfaaGreatDefsProg
namespace Go.Proofs.YthikhkeofcjdfaaGreat
set_option linter.unusedVariables false
set_option linter.unusedSimpArgs false
open Go.RowKit
set_option maxRecDepth 100000

set_option maxHeartbeats 1000000 in
theorem literalsOk_calls {v : Value} {xs : List Int} {w : World} (n : Int) (h : RdL w [v] xs) :
  Calls Tryz.prog 153 #[v, .int .i64 n] w fun e w' => e = .returned (.bool (litsI xs n)) ∧ w = w' := by
 obtain ⟨a, cap, rfl, _, h⟩ := h.sl
 have hm := h.1
 by_cases hl : 20 < xs.length
 ·have hv := Lib.hid (litsI_A (n := n) hl)
  have hli : (20 : Int) < (xs.length : Int) := by omega
  clear h hl
  go_enter Tryz.func153, Tryz.ntmps153
  go_wp2
  go_ret
  exact ⟨ret_bool hv.out.symm, rfl⟩
 ·have HV := Lib.hid (litsI_B (n := n) (show xs.length ≤ 20 by omega))
  have hli : (xs.length : Int) ≤ 20 := by omega
  clear hl
  by_cases hne : 0 < xs.length
  ·obtain ⟨b, off, rfl, hc⟩ := h.base hne
   have HC := Lib.hid hc
   clear h hc
   go_enter Tryz.func153, Tryz.ntmps153
   go_wp2
   go_loop [6, 12] (fun _ i => ∃ k : Nat, k ≤ xs.length ∧ i = .int .i64 k ∧ Hid ((xs.take k).all (fun l => btwB (atomI l) 1 n) = true)) (fun _ i => xs.length - (intOf i).toNat)
   case atStart => exact ⟨0, Nat.zero_le _, rfl, show (xs.take 0).all _ = true by simp⟩
   case round =>
    obtain ⟨k, hk, rfl, hS⟩ := hrel
    by_cases hlt : k < xs.length
    ·obtain ⟨ecs, hC, hR⟩ := HC.out k hlt
     obtain ⟨rfl, hf0⟩ := hR
     have u0 := hC.c0
     rw [show Rd.k Int = 1 from rfl, Nat.mul_one] at u0
     clear hC
     cases hL : btwB (atomI (nth xs k)) 1 n
     ·have hv := Lib.hid (HV.out.trans (all_no hlt hL))
      go_wp2_with (go_at_call 227; refine (upTo_calls _ _ _ hf0).mono ?_; rintro e w' ⟨rfl, rfl⟩)
      go_ret
      exact ⟨ret_bool hv.out.symm, rfl⟩
     ·have hS' := Lib.hid (all_take hlt hS.out hL)
      clear hS
      go_wp2_with (go_at_call 227; refine (upTo_calls _ _ _ hf0).mono ?_; rintro e w' ⟨rfl, rfl⟩)
      go_round
      case rel => exact ⟨k + 1, by omega, by go_num, hS'⟩
      case measure => simp [intOf]; omega
    ·have hv := Lib.hid (HV.out.trans (all_end (by omega) hS.out))
     go_wp2
     go_ret
     exact ⟨ret_bool hv.out.symm, rfl⟩
  ·have : xs = [] := by cases xs <;> simp_all
   subst this
   have hv : Hid (litsI [] n = true) := HV.out
   clear h hne
   go_enter Tryz.func153, Tryz.ntmps153
   go_wp2
   refine wp_loop_rounds 1 ?_
   rw [rounds_succ]
   go_wp2
   go_ret
   exact ⟨ret_bool hv.out.symm, rfl⟩

theorem showI_A {n : Int} {s : ShowD} (h : btwB (s.text.size : Int) 1 20 = false) : showI n s = false := by simp only [showI, h, Bool.false_and]
theorem showI_B {n : Int} {s : ShowD} (h : s.text.data.toList.all byteB = false) : showI n s = false := by simp only [showI, h, Bool.false_and, Bool.and_false]
theorem showI_C {n : Int} {s : ShowD} (h : btwB (s.text.size : Int) 1 20 = true) (h2 : s.text.data.toList.all byteB = true) : showI n s = litsI s.cond n := by simp only [showI, h, h2, Bool.true_and]
theorem byteB_eq (c : UInt8) : byteB c = btwB (c.toNat : Int) 33 126 := rfl
theorem bytes_take (s : ByteArray) {k : Nat} (h : k < s.size) : s.data.toList.take (k + 1) = s.data.toList.take k ++ [s[k]] := by
 rw [List.take_succ_eq_append_getElem (by simpa using h)]; rfl
theorem bytes_no {s : ByteArray} {k : Nat} (h : k < s.size) (hb : byteB s[k] = false) : s.data.toList.all byteB = false := by
 rw [List.all_eq_false]
 exact ⟨s[k], by rw [show s[k] = s.data.toList[k]'(by simpa using h) from rfl]; exact List.getElem_mem _, by rw [hb]; simp⟩
theorem bytes_yes {s : ByteArray} {k : Nat} (h : k < s.size) (h0 : (s.data.toList.take k).all byteB = true) (hb : byteB s[k] = true) : (s.data.toList.take (k + 1)).all byteB = true := by
 rw [bytes_take s h, List.all_append, h0]; simp [hb]
theorem bytes_end {s : ByteArray} {k : Nat} (h : s.size ≤ k) (h0 : (s.data.toList.take k).all byteB = true) : s.data.toList.all byteB = true := by
 rwa [List.take_of_length_le (by simpa using h)] at h0

set_option maxHeartbeats 1000000 in
theorem showOk_calls {cs : List Value} {s : ShowD} {w : World} (n : Int) (h : Rd.R w cs s) :
  Calls Tryz.prog 226 #[.agg cs.toArray, .int .i64 n] w fun e w' => e = .returned (.bool (showI n s)) ∧ Below w.heap.size w w' := by
 obtain ⟨c1, rfl, hf, g1⟩ := h
 have tb : Below w.heap.size w (w.alloc (.cells #[.string s.text, c1] 185)) := (Below.refl _ _).alloc (Nat.le_refl _) _
 have g1 := Rd.mono (α := List Int) tb g1
 cases hA : btwB (s.text.size : Int) 1 20
 ·have hv := Lib.hid (showI_A (n := n) hA)
  go_enter Tryz.func226, Tryz.ntmps226
  go_wp2_with (go_at_call 147; refine (within_calls _ _ _ _).mono ?_; rintro e w' ⟨rfl, rfl⟩)
  go_ret
  exact ⟨ret_bool hv.out.symm, tb⟩
 ·go_enter Tryz.func226, Tryz.ntmps226
  go_wp2_with (go_at_call 147; refine (within_calls _ _ _ _).mono ?_; rintro e w' ⟨rfl, rfl⟩)
  go_loop [5, 14] (fun _ i => ∃ k : Nat, k ≤ s.text.size ∧ i = .int .i64 k ∧ Hid ((s.text.data.toList.take k).all byteB = true)) (fun _ i => s.text.size - (intOf i).toNat)
  case atStart => exact ⟨0, Nat.zero_le _, rfl, show (s.text.data.toList.take 0).all _ = true by simp⟩
  case round =>
   obtain ⟨k, hk, rfl, hS⟩ := hrel
   by_cases hlt : k < s.text.size
   ·have hu0 : (0 : Int) ≤ (s.text[k].toNat : Int) := by omega
    have hu1 : (s.text[k].toNat : Int) ≤ 255 := by have := s.text[k].toNat_lt; omega
    cases hB : btwB (s.text[k].toNat : Int) 33 126
    ·have hv := Lib.hid (showI_B (n := n) (bytes_no hlt hB))
     clear hS
     go_wp2_with (go_at_call 147; refine (within_calls _ _ _ _).mono ?_; rintro e w' ⟨rfl, rfl⟩)
     go_ret
     exact ⟨ret_bool hv.out.symm, tb⟩
    ·have hS' := Lib.hid (bytes_yes hlt hS.out hB)
     clear hS
     go_wp2_with (go_at_call 147; refine (within_calls _ _ _ _).mono ?_; rintro e w' ⟨rfl, rfl⟩)
     go_round
     case rel => exact ⟨k + 1, by omega, by go_num, hS'⟩
     case measure => simp [intOf]; omega
   ·have hv := Lib.hid (showI_C (n := n) hA (bytes_end (by omega) hS.out))
    clear hS
    go_wp2_with (go_at_call 153; refine (literalsOk_calls _ g1).mono ?_; rintro e w' ⟨rfl, rfl⟩)
    go_ret
    exact ⟨ret_bool hv.out.symm, tb⟩

/-- The cells of a program. -/
def progCs (p : ProgD) (c1 c2 c4 c5 c6 c7 : Value) : List Value := [.int .i64 p.atoms, c1, c2, .bool p.projOn, c4, c5, c6, c7]

set_option maxHeartbeats 2000000 in
theorem rulesOk_calls {cs : List Value} {p : ProgD} {w : World} (h : Rd.R w cs p) :
  Calls Tryz.prog 148 #[.agg cs.toArray] w fun e w' => e = .returned (.bool (rulesB p.rules p.atoms)) ∧ Below w.heap.size w w' := by
 obtain ⟨c1, c2, c4, c5, c6, c7, rfl, hf, g1, g2, g4, g5, g6, g7⟩ := h
 obtain ⟨a, cap, rfl, _, h⟩ := g1.sl
 have hm := h.1
 have CX := Cells.new w [.int .i64 p.atoms, .slice a p.rules.length cap, c2, .bool p.projOn, c4, c5, c6, c7] 30
 have tb : Below w.heap.size w (w.alloc (.cells #[.int .i64 p.atoms, .slice a p.rules.length cap, c2, .bool p.projOn, c4, c5, c6, c7] 30)) := (Below.refl _ _).alloc (Nat.le_refl _) _
 clear g1 g2 g4 g5 g6 g7 hf
 by_cases hl : 60 < p.rules.length
 ·have hv := Lib.hid (rulesI_A (n := p.atoms) hl)
  have hli : (60 : Int) < (p.rules.length : Int) := by omega
  clear h hl CX
  go_enter Tryz.func148, Tryz.ntmps148
  go_wp2
  go_ret
  exact ⟨ret_bool hv.out.symm, tb⟩
 ·have HV := Lib.hid (rulesI_B (n := p.atoms) (show p.rules.length ≤ 60 by omega))
  have hli : (p.rules.length : Int) ≤ 60 := by omega
  have HX := Lib.hid CX
  clear hl CX
  by_cases hne : 0 < p.rules.length
  ·obtain ⟨b, off, rfl, hc⟩ := h.base hne
   have HC := Lib.hid hc
   clear h hc
   go_enter Tryz.func148, Tryz.ntmps148
   go_wp2
   go_loopw [4, 12] (fun _ i wr => ∃ k : Nat, k ≤ p.rules.length ∧ i = .int .i64 k ∧ Hid ((p.rules.take k).all (fun r => ruleOkB r p.atoms) = true) ∧ Hid (Cells wr w.heap.size 0 [.int .i64 p.atoms, .slice (some ⟨b, off, none⟩) p.rules.length cap, c2, .bool p.projOn, c4, c5, c6, c7]) ∧ Below w.heap.size w wr) (fun _ i _ => p.rules.length - (intOf i).toNat)
   case atStart => exact ⟨0, Nat.zero_le _, rfl, show (p.rules.take 0).all _ = true by simp, HX, tb⟩
   case round =>
    obtain ⟨k, hk, rfl, hS, hX, hb⟩ := hrel
    obtain ⟨y0, y1, y2, y3, y4, y5, y6, y7⟩ := cells8 hX.out
    have hsz := hX.out.lt
    by_cases hlt : k < p.rules.length
    ·obtain ⟨ecs, hC, hR⟩ := HC.out k hlt
     have hC := hC.later hb
     have hR := Rd.mono hb hR
     have hone := Rd.one hR
     obtain ⟨e0, e1, e2, e3, e4, rfl⟩ := list5 (Rd.len hR)
     have u0 : wr.cell? ⟨b, off + k * 5, none⟩ = some e0 := hC.c0
     have s0 := sto Tryz.prog (hone e0 (by simp))
     have u1 : wr.cell? ⟨b, off + k * 5+ 1, none⟩ = some e1 := hC.c1
     have s1 := sto Tryz.prog (hone e1 (by simp))
     have u2 : wr.cell? ⟨b, off + k * 5+ 2, none⟩ = some e2 := hC.c2
     have s2 := sto Tryz.prog (hone e2 (by simp))
     have u3 : wr.cell? ⟨b, off + k * 5+ 3, none⟩ = some e3 := hC.c3
     have s3 := sto Tryz.prog (hone e3 (by simp))
     have u4 : wr.cell? ⟨b, off + k * 5+ 4, none⟩ = some e4 := hC.c4
     have s4 := sto Tryz.prog (hone e4 (by simp))
     have hR := Rd.mono ((Below.refl _ _).alloc (Nat.le_refl _) (.cells #[e0, e1, e2, e3, e4] 34)) hR
     have hbe := hb.alloc hb.size (.cells #[e0, e1, e2, e3, e4] 34)
     have hX' := Lib.hid (hX.out.alloc (.cells #[e0, e1, e2, e3, e4] 34))
     clear hC hone hX
     cases hL : ruleOkB (nth p.rules k) p.atoms
     ·have hv := Lib.hid (HV.out.trans (all_no hlt hL))
      clear hS
      go_wp2_with fail
      refine (implRuleOk_calls _ hR).mono ?_
      rintro e w2 ⟨rfl, hb2⟩
      have hbe := hbe.step hb2
      clear hb2 hR
      go_wp2
      go_ret
      exact ⟨ret_bool hv.out.symm, hbe⟩
     ·have hS' := Lib.hid (all_take hlt hS.out hL)
      clear hS
      go_wp2_with fail
      refine (implRuleOk_calls _ hR).mono ?_
      rintro e w2 ⟨rfl, hb2⟩
      have hbe := hbe.step hb2
      have HX2 := Lib.hid (hX'.out.later hb2)
      clear hX' hR hb2
      go_wp2
      go_roundw
      case rel => exact ⟨k + 1, by omega, by go_num, hS', HX2, hbe⟩
      case measure => simp [intOf]; omega
    ·have hv := Lib.hid (HV.out.trans (all_end (by omega) hS.out))
     go_wp2
     go_ret
     exact ⟨ret_bool hv.out.symm, hb⟩
  ·have hn : p.rules = [] := by cases hh : p.rules <;> simp_all
   have hnl : (p.rules.length : Int) = 0 := by rw [hn]; rfl
   have hv : Hid (rulesB p.rules p.atoms = true) := HV.out.trans (by rw [hn]; rfl)
   clear h hne hn hm
   go_enter Tryz.func148, Tryz.ntmps148
   go_wp2
   refine wp_loop_rounds 1 ?_
   rw [rounds_succ]
   go_wp2
   go_ret
   exact ⟨ret_bool hv.out.symm, tb⟩

set_option maxHeartbeats 2000000 in
theorem showsOk_calls {cs : List Value} {p : ProgD} {w : World} (h : Rd.R w cs p) :
  Calls Tryz.prog 151 #[.agg cs.toArray] w fun e w' => e = .returned (.bool (showsI p.shows p.atoms)) ∧ Below w.heap.size w w' := by
 obtain ⟨c1, c2, c4, c5, c6, c7, rfl, hf, g1, g2, g4, g5, g6, g7⟩ := h
 obtain ⟨a, cap, rfl, _, h⟩ := g5.sl
 have hm := h.1
 have CX := Cells.new w [.int .i64 p.atoms, c1, c2, .bool p.projOn, c4, .slice a p.shows.length cap, c6, c7] 30
 have tb : Below w.heap.size w (w.alloc (.cells #[.int .i64 p.atoms, c1, c2, .bool p.projOn, c4, .slice a p.shows.length cap, c6, c7] 30)) := (Below.refl _ _).alloc (Nat.le_refl _) _
 clear g1 g2 g4 g5 g6 g7 hf
 by_cases hl : 20 < p.shows.length
 ·have hv := Lib.hid (showsI_A (n := p.atoms) hl)
  have hli : (20 : Int) < (p.shows.length : Int) := by omega
  clear h hl CX
  go_enter Tryz.func151, Tryz.ntmps151
  go_wp2
  go_ret
  exact ⟨ret_bool hv.out.symm, tb⟩
 ·have HV := Lib.hid (showsI_B (n := p.atoms) (show p.shows.length ≤ 20 by omega))
  have hli : (p.shows.length : Int) ≤ 20 := by omega
  have HX := Lib.hid CX
  clear hl CX
  by_cases hne : 0 < p.shows.length
  ·obtain ⟨b, off, rfl, hc⟩ := h.base hne
   have HC := Lib.hid hc
   clear h hc
   go_enter Tryz.func151, Tryz.ntmps151
   go_wp2
   go_loopw [4, 12] (fun _ i wr => ∃ k : Nat, k ≤ p.shows.length ∧ i = .int .i64 k ∧ Hid ((p.shows.take k).all (showI p.atoms) = true) ∧ Hid (Cells wr w.heap.size 0 [.int .i64 p.atoms, c1, c2, .bool p.projOn, c4, .slice (some ⟨b, off, none⟩) p.shows.length cap, c6, c7]) ∧ Below w.heap.size w wr) (fun _ i _ => p.shows.length - (intOf i).toNat)
   case atStart => exact ⟨0, Nat.zero_le _, rfl, show (p.shows.take 0).all _ = true by simp, HX, tb⟩
   case round =>
    obtain ⟨k, hk, rfl, hS, hX, hb⟩ := hrel
    obtain ⟨y0, y1, y2, y3, y4, y5, y6, y7⟩ := cells8 hX.out
    have hsz := hX.out.lt
    by_cases hlt : k < p.shows.length
    ·obtain ⟨ecs, hC, hR⟩ := HC.out k hlt
     have hC := hC.later hb
     have hR := Rd.mono hb hR
     have hone := Rd.one hR
     obtain ⟨e0, e1, rfl⟩ := list2 (Rd.len hR)
     have u0 : wr.cell? ⟨b, off + k * 2, none⟩ = some e0 := hC.c0
     have s0 := sto Tryz.prog (hone e0 (by simp))
     have u1 : wr.cell? ⟨b, off + k * 2+ 1, none⟩ = some e1 := hC.c1
     have s1 := sto Tryz.prog (hone e1 (by simp))
     have hR := Rd.mono ((Below.refl _ _).alloc (Nat.le_refl _) (.cells #[e0, e1] 185)) hR
     have hbe := hb.alloc hb.size (.cells #[e0, e1] 185)
     have hX' := Lib.hid (hX.out.alloc (.cells #[e0, e1] 185))
     clear hC hone hX
     cases hL : showI p.atoms (nth p.shows k)
     ·have hv := Lib.hid (HV.out.trans (all_no hlt hL))
      clear hS
      go_wp2_with fail
      refine (showOk_calls _ hR).mono ?_
      rintro e w2 ⟨rfl, hb2⟩
      have hbe := hbe.step hb2
      clear hb2 hR
      go_wp2
      go_ret
      exact ⟨ret_bool hv.out.symm, hbe⟩
     ·have hS' := Lib.hid (all_take hlt hS.out hL)
      clear hS
      go_wp2_with fail
      refine (showOk_calls _ hR).mono ?_
      rintro e w2 ⟨rfl, hb2⟩
      have hbe := hbe.step hb2
      have HX2 := Lib.hid (hX'.out.later hb2)
      clear hX' hR hb2
      go_wp2
      go_roundw
      case rel => exact ⟨k + 1, by omega, by go_num, hS', HX2, hbe⟩
      case measure => simp [intOf]; omega
    ·have hv := Lib.hid (HV.out.trans (all_end (by omega) hS.out))
     go_wp2
     go_ret
     exact ⟨ret_bool hv.out.symm, hb⟩
  ·have hn : p.shows = [] := by cases hh : p.shows <;> simp_all
   have hnl : (p.shows.length : Int) = 0 := by rw [hn]; rfl
   have hv : Hid (showsI p.shows p.atoms = true) := HV.out.trans (by rw [hn]; rfl)
   clear h hne hn hm
   go_enter Tryz.func151, Tryz.ntmps151
   go_wp2
   refine wp_loop_rounds 1 ?_
   rw [rounds_succ]
   go_wp2
   go_ret
   exact ⟨ret_bool hv.out.symm, tb⟩


set_option maxHeartbeats 4000000 in
theorem levelsOk_calls {cs : List Value} {p : ProgD} {w : World} (h : Rd.R w cs p) :
  Calls Tryz.prog 149 #[.agg cs.toArray] w fun e w' => e = .returned (.bool (levelsI p.levels p.atoms)) ∧ Below w.heap.size w w' := by
 obtain ⟨c1, c2, c4, c5, c6, c7, rfl, hf, g1, g2, g4, g5, g6, g7⟩ := h
 obtain ⟨a, cap, rfl, _, h⟩ := g2.sl
 have hm := h.1
 have CX := Cells.new w [.int .i64 p.atoms, c1, .slice a p.levels.length cap, .bool p.projOn, c4, c5, c6, c7] 30
 have tb : Below w.heap.size w (w.alloc (.cells #[.int .i64 p.atoms, c1, .slice a p.levels.length cap, .bool p.projOn, c4, c5, c6, c7] 30)) := (Below.refl _ _).alloc (Nat.le_refl _) _
 clear g1 g2 g4 g5 g6 g7 hf
 by_cases hl : 6 < p.levels.length
 ·have hv := Lib.hid (levelsI_A (n := p.atoms) hl)
  have hli : (6 : Int) < (p.levels.length : Int) := by omega
  clear h hl CX
  go_enter Tryz.func149, Tryz.ntmps149
  go_wp2
  go_ret
  exact ⟨ret_bool hv.out.symm, tb⟩
 ·have HV := Lib.hid (levelsI_B (n := p.atoms) (show p.levels.length ≤ 6 by omega))
  have hli : (p.levels.length : Int) ≤ 6 := by omega
  have HX := Lib.hid CX
  clear hl CX
  by_cases hne : 0 < p.levels.length
  ·obtain ⟨b, off, rfl, hc⟩ := h.base hne
   have HC := Lib.hid hc
   clear h hc
   go_enter Tryz.func149, Tryz.ntmps149
   go_wp2
   go_loopw [3, 5, 13] (fun l _ i wr => ∃ k : Nat, k ≤ p.levels.length ∧ i = .int .i64 k ∧ l = .int .i64 (leastOf p.levels k) ∧ Hid (toB (levelI p.atoms p.levels) k = true) ∧ Hid (Cells wr w.heap.size 0 [.int .i64 p.atoms, c1, .slice (some ⟨b, off, none⟩) p.levels.length cap, .bool p.projOn, c4, c5, c6, c7]) ∧ Below w.heap.size w wr) (fun _ _ i _ => p.levels.length - (intOf i).toNat)
   case atStart => exact ⟨0, Nat.zero_le _, rfl, rfl, rfl, HX, tb⟩
   case round =>
    obtain ⟨k, hk, rfl, rfl, hS, hX, hb⟩ := hrel
    obtain ⟨y0, y1, y2, y3, y4, y5, y6, y7⟩ := cells8 hX.out
    have hsz := hX.out.lt
    by_cases hlt : k < p.levels.length
    ·obtain ⟨ecs, hC, hR⟩ := HC.out k hlt
     have hC := hC.later hb
     obtain ⟨d1, rfl, hfp, hR1⟩ := hR
     have hR1 := Rd.mono (α := List (Int × Int)) hb hR1
     have hone := hR1.one1
     have u0 := hC.c0
     have u1 := hC.c1
     rw [show Rd.k LevelD = 2 from rfl] at u0 u1
     have s1 := sto Tryz.prog hone
     have hR1 := Rd.mono (α := List (Int × Int)) ((Below.refl _ _).alloc (Nat.le_refl _) (.cells #[.int .i64 (nth p.levels k).p, d1] 182)) hR1
     have hbe := hb.alloc hb.size (.cells #[.int .i64 (nth p.levels k).p, d1] 182)
     have hX' := Lib.hid (hX.out.alloc (.cells #[.int .i64 (nth p.levels k).p, d1] 182))
     have hCL := Lib.hid (Cells.new wr [.int .i64 (nth p.levels k).p, d1] 182)
     clear hC hone hX
     cases hA : btwB (nth p.levels k).p (leastOf p.levels k) 100000
     ·have hv := Lib.hid (HV.out.trans (toB_no (levelI_A (n := p.atoms) hA) hlt))
      clear hS
      go_wp2_with (first | (go_at_call 147; refine (within_calls _ _ _ _).mono ?_; rintro e w' ⟨rfl, rfl⟩) | (go_at_call 225; refine (weighedOk_calls _ _ _ hR1).mono ?_; rintro e w2 ⟨rfl, hb2⟩; have hbe2 := hbe.step hb2; have HX2 := Lib.hid (hX'.out.later hb2); obtain ⟨z0, z1⟩ := cells2 (hCL.out.later hb2)))
      go_ret
      exact ⟨ret_bool hv.out.symm, hbe⟩
     ·have hbd : (nth p.levels k).p ≤ 100000 := by unfold btwB at hA; simp only [decide_eq_true_eq] at hA; exact hA.2
      have hbd0 : -9223372036854775808 ≤ (nth p.levels k).p := hfp.1
      cases hB : weighedB (nth p.levels k).lits p.atoms (-1000) 1000
      ·have hv := Lib.hid (HV.out.trans (toB_no ((levelI_B (n := p.atoms) hA).trans hB) hlt))
       clear hS
       go_wp2_with (first | (go_at_call 147; refine (within_calls _ _ _ _).mono ?_; rintro e w' ⟨rfl, rfl⟩) | (go_at_call 225; refine (weighedOk_calls _ _ _ hR1).mono ?_; rintro e w2 ⟨rfl, hb2⟩; have hbe2 := hbe.step hb2; have HX2 := Lib.hid (hX'.out.later hb2); obtain ⟨z0, z1⟩ := cells2 (hCL.out.later hb2)))
       go_ret
       exact ⟨ret_bool hv.out.symm, hbe2⟩
      ·have hS' := Lib.hid (toB_yes hS.out ((levelI_B (n := p.atoms) hA).trans hB))
       have hls := Lib.hid (leastOf_succ p.levels k)
       clear hS
       go_wp2_with (first | (go_at_call 147; refine (within_calls _ _ _ _).mono ?_; rintro e w' ⟨rfl, rfl⟩) | (go_at_call 225; refine (weighedOk_calls _ _ _ hR1).mono ?_; rintro e w2 ⟨rfl, hb2⟩; have hbe2 := hbe.step hb2; have HX2 := Lib.hid (hX'.out.later hb2); obtain ⟨z0, z1⟩ := cells2 (hCL.out.later hb2)))
       go_roundw
       case rel => exact ⟨k + 1, by omega, by go_num, by rw [hls.out], hS', HX2, hbe2⟩
       case measure => simp [intOf]; omega
    ·have hv : Hid (levelsI p.levels p.atoms = true) := by show _ = _; rw [HV.out, show p.levels.length = k by omega]; exact hS.out
     go_wp2
     go_ret
     exact ⟨ret_bool hv.out.symm, hb⟩
  ·have hn : p.levels = [] := by cases hh : p.levels <;> simp_all
   have hnl : (p.levels.length : Int) = 0 := by rw [hn]; rfl
   have hv : Hid (levelsI p.levels p.atoms = true) := HV.out.trans (by rw [hn]; rfl)
   clear h hne hn hm
   go_enter Tryz.func149, Tryz.ntmps149
   go_wp2
   refine wp_loop_rounds 1 ?_
   rw [rounds_succ]
   go_wp2
   go_ret
   exact ⟨ret_bool hv.out.symm, tb⟩

set_option maxHeartbeats 4000000 in
theorem extsOk_calls {cs : List Value} {p : ProgD} {w : World} (h : Rd.R w cs p) (hn1 : p.atoms ≤ 12) :
  Calls Tryz.prog 152 #[.agg cs.toArray] w fun e w' => e = .returned (.bool (extsB p.exts p.atoms)) ∧ Below w.heap.size w w' := by
 obtain ⟨c1, c2, c4, c5, c6, c7, rfl, hf, g1, g2, g4, g5, g6, g7⟩ := h
 obtain ⟨a, cap, rfl, _, h⟩ := g6.sl
 have hm := h.1
 have CX := Cells.new w [.int .i64 p.atoms, c1, c2, .bool p.projOn, c4, c5, .slice a p.exts.length cap, c7] 30
 have tb : Below w.heap.size w (w.alloc (.cells #[.int .i64 p.atoms, c1, c2, .bool p.projOn, c4, c5, .slice a p.exts.length cap, c7] 30)) := (Below.refl _ _).alloc (Nat.le_refl _) _
 have HV := Lib.hid (exts_same (es := p.exts) hn1)
 have HX := Lib.hid CX
 clear g1 g2 g4 g5 g6 g7 hf CX
 by_cases hne : 0 < p.exts.length
 ·obtain ⟨b, off, rfl, hc⟩ := h.base hne
  have HC := Lib.hid hc
  clear h hc
  go_enter Tryz.func152, Tryz.ntmps152
  go_wp2
  go_loopw [3, 5, 9] (fun l _ i wr => ∃ k : Nat, k ≤ p.exts.length ∧ i = .int .i64 k ∧ l = .int .i64 (leastE p.exts k) ∧ Hid (toB (extI p.atoms p.exts) k = true) ∧ Hid (Cells wr w.heap.size 0 [.int .i64 p.atoms, c1, c2, .bool p.projOn, c4, c5, .slice (some ⟨b, off, none⟩) p.exts.length cap, c7]) ∧ Below w.heap.size w wr) (fun _ _ i _ => p.exts.length - (intOf i).toNat)
  case atStart => exact ⟨0, Nat.zero_le _, rfl, rfl, rfl, HX, tb⟩
  case round =>
   obtain ⟨k, hk, rfl, rfl, hS, hX, hb⟩ := hrel
   obtain ⟨y0, y1, y2, y3, y4, y5, y6, y7⟩ := cells8 hX.out
   have hsz := hX.out.lt
   by_cases hlt : k < p.exts.length
   ·obtain ⟨ecs, hC, hR⟩ := HC.out k hlt
    have hC := hC.later hb
    obtain ⟨rfl, hf0, hf1⟩ := hR
    have u0 := hC.c0
    have u1 := hC.c1
    rw [show Rd.k (Int × Int) = 2 from rfl] at u0 u1
    have hbe := hb.alloc hb.size (.cells #[.int .i64 (nth p.exts k).1, .int .i64 (nth p.exts k).2] 132)
    have hX' := Lib.hid (hX.out.alloc (.cells #[.int .i64 (nth p.exts k).1, .int .i64 (nth p.exts k).2] 132))
    clear hC hX
    cases hA : btwB (nth p.exts k).1 (leastE p.exts k) p.atoms
    ·have hv := Lib.hid (HV.out.symm.trans (toB_no (extI_A (n := p.atoms) hA) hlt))
     clear hS
     go_wp2_with (go_at_call 147; refine (within_calls _ _ _ _).mono ?_; rintro e w' ⟨rfl, rfl⟩)
     go_ret
     exact ⟨ret_bool hv.out.symm, hbe⟩
    ·have hbd : (nth p.exts k).1 ≤ 12 := by unfold btwB at hA; simp only [decide_eq_true_eq] at hA; omega
     have hbd0 : -9223372036854775808 ≤ (nth p.exts k).1 := hf0.1
     cases hB : btwB (nth p.exts k).2 0 2
     ·have hv := Lib.hid (HV.out.symm.trans (toB_no ((extI_B (n := p.atoms) hA).trans hB) hlt))
      clear hS
      go_wp2_with (go_at_call 147; refine (within_calls _ _ _ _).mono ?_; rintro e w' ⟨rfl, rfl⟩)
      go_ret
      exact ⟨ret_bool hv.out.symm, hbe⟩
     ·have hS' := Lib.hid (toB_yes hS.out ((extI_B (n := p.atoms) hA).trans hB))
      have hls := Lib.hid (leastE_succ p.exts k)
      clear hS
      go_wp2_with (go_at_call 147; refine (within_calls _ _ _ _).mono ?_; rintro e w' ⟨rfl, rfl⟩)
      go_roundw
      case rel => exact ⟨k + 1, by omega, by go_num, by rw [hls.out], hS', hX', hbe⟩
      case measure => simp [intOf]; omega
   ·have hv : Hid (extsB p.exts p.atoms = true) := by show _ = _; rw [← HV.out, show p.exts.length = k by omega]; exact hS.out
    go_wp2
    go_ret
    exact ⟨ret_bool hv.out.symm, hb⟩
 ·have hn : p.exts = [] := by cases hh : p.exts <;> simp_all
  have hnl : (p.exts.length : Int) = 0 := by rw [hn]; rfl
  have hv : Hid (extsB p.exts p.atoms = true) := HV.out.symm.trans (by rw [hn]; rfl)
  clear h hne hn hm
  go_enter Tryz.func152, Tryz.ntmps152
  go_wp2
  refine wp_loop_rounds 1 ?_
  rw [rounds_succ]
  go_wp2
  go_ret
  exact ⟨ret_bool hv.out.symm, tb⟩

theorem projB_A {p : ProgD} (h : setOkB p.project p.atoms = false) : projB p = false := by simp only [projB, h, Bool.false_and]
theorem projB_B {p : ProgD} (h : setOkB p.project p.atoms = true) (h2 : p.projOn = true) : projB p = true := by simp only [projB, h, h2, Bool.true_and, Bool.true_or]
theorem projB_C {p : ProgD} (h : setOkB p.project p.atoms = true) (h2 : p.projOn = false) : projB p = ((p.project.length : Int) == 0) := by
 simp only [projB, h, h2, Bool.true_and, Bool.false_or]
 rw [Bool.eq_iff_iff, beq_iff_eq, beq_iff_eq]; omega
set_option maxHeartbeats 1000000 in
theorem projectOk_calls {cs : List Value} {p : ProgD} {w : World} (h : Rd.R w cs p) :
  Calls Tryz.prog 150 #[.agg cs.toArray] w fun e w' => e = .returned (.bool (projB p)) ∧ Below w.heap.size w w' := by
 obtain ⟨c1, c2, c4, c5, c6, c7, rfl, hf, g1, g2, g4, g5, g6, g7⟩ := h
 obtain ⟨a, cap, rfl, _, h⟩ := g4.sl
 have hm := h.1
 clear g1 g2 g4 g5 g6 g7 hf
 cases hA : setOkB p.project p.atoms
 ·have hv := Lib.hid (projB_A hA)
  go_enter Tryz.func150, Tryz.ntmps150
  go_wp2_with (go_at_call 97; refine (implSetOk_calls _ _ _ _ _ (h.later ((Below.refl _ _).alloc (by simp) _)).ints).mono ?_; rintro e w' ⟨rfl, rfl⟩)
  go_ret
  exact ⟨ret_bool hv.out.symm, (Below.refl _ _).alloc (Nat.le_refl _) _⟩
 ·cases hB : p.projOn
  ·have hv := Lib.hid (projB_C hA hB)
   go_enter Tryz.func150, Tryz.ntmps150
   go_wp2_with (go_at_call 97; refine (implSetOk_calls _ _ _ _ _ (h.later ((Below.refl _ _).alloc (by simp) _)).ints).mono ?_; rintro e w' ⟨rfl, rfl⟩)
   go_ret
   exact ⟨ret_bool hv.out.symm, (Below.refl _ _).alloc (Nat.le_refl _) _⟩
  ·have hv := Lib.hid (projB_B hA hB)
   go_enter Tryz.func150, Tryz.ntmps150
   go_wp2_with (go_at_call 97; refine (implSetOk_calls _ _ _ _ _ (h.later ((Below.refl _ _).alloc (by simp) _)).ints).mono ?_; rintro e w' ⟨rfl, rfl⟩)
   go_ret
   exact ⟨ret_bool hv.out.symm, (Below.refl _ _).alloc (Nat.le_refl _) _⟩

set_option maxHeartbeats 4000000 in
theorem implProgOk_calls {cs : List Value} {p : ProgD} {w : World} (h : Rd.R w cs p) :
  Calls Tryz.prog 68 #[.agg cs.toArray] w fun e w' => e = .returned (.bool (progOkB p)) ∧ Below w.heap.size w w' := by
 have hh := h
 obtain ⟨c1, c2, c4, c5, c6, c7, rfl, hf, g1, g2, g4, g5, g6, g7⟩ := hh
 have CX0 := Cells.new w [.int .i64 p.atoms, c1, c2, .bool p.projOn, c4, c5, c6, c7] 30
 have t0 : Below w.heap.size w (w.alloc (.cells #[.int .i64 p.atoms, c1, c2, .bool p.projOn, c4, c5, c6, c7] 30)) := (Below.refl _ _).alloc (Nat.le_refl _) _
 cases hA : btwB p.atoms 0 12
 ·have hv : Hid (progOkB p = false) := by show _ = _; simp only [progOkB, hA, Bool.false_and]
  go_enter Tryz.func68, Tryz.ntmps68
  go_wp2_with (go_at_call 147; refine (within_calls _ _ _ _).mono ?_; rintro e w' ⟨rfl, rfl⟩)
  go_ret
  exact ⟨ret_bool hv.out.symm, t0⟩
 obtain ⟨hn0, hn1⟩ : 0 ≤ p.atoms ∧ p.atoms ≤ 12 := by unfold btwB at hA; simpa using hA
 have e2 := Lib.hid (levels_same (rd_levels g2) hn0 hn1)
 have e5 := Lib.hid (shows_same (rd_shows g5) hn0 hn1)
 have e7 := Lib.hid (lits_same (rd_ints g7) hn0 hn1)
 have HP : Hid (progOkB p = (rulesB p.rules p.atoms && (levelsI p.levels p.atoms && (projB p && (showsI p.shows p.atoms && (extsB p.exts p.atoms && litsI p.assume p.atoms)))))) := by
  show _ = _; rw [e2.out, e5.out, e7.out]; simp only [progOkB, hA, Bool.true_and]
 go_enter Tryz.func68, Tryz.ntmps68
 go_wp2_with (go_at_call 147; refine (within_calls _ _ _ _).mono ?_; rintro e w' ⟨rfl, rfl⟩)
 refine (rulesOk_calls (Rd.mono t0 h)).mono ?_
 rintro e w1 ⟨rfl, b1⟩
 have t1 := t0.step b1
 have CX1 := CX0.later b1
 obtain ⟨y0, y1, y2, y3, y4, y5, y6, y7⟩ := cells8 CX1
 cases h1 : rulesB p.rules p.atoms
 ·have hv : Hid (progOkB p = false) := by show _ = _; rw [HP.out, h1]; rfl
  go_wp2
  go_ret
  exact ⟨ret_bool hv.out.symm, t1⟩
 go_wp2_with fail
 refine (levelsOk_calls (Rd.mono t1 h)).mono ?_
 rintro e w2 ⟨rfl, b2⟩
 have t2 := t1.step b2
 have CX2 := CX1.later b2
 obtain ⟨y0, y1, y2, y3, y4, y5, y6, y7⟩ := cells8 CX2
 cases h2 : levelsI p.levels p.atoms
 ·have hv : Hid (progOkB p = false) := by show _ = _; rw [HP.out, h1, h2]; rfl
  go_wp2
  go_ret
  exact ⟨ret_bool hv.out.symm, t2⟩
 go_wp2_with fail
 refine (projectOk_calls (Rd.mono t2 h)).mono ?_
 rintro e w3 ⟨rfl, b3⟩
 have t3 := t2.step b3
 have CX3 := CX2.later b3
 obtain ⟨y0, y1, y2, y3, y4, y5, y6, y7⟩ := cells8 CX3
 cases h3 : projB p
 ·have hv : Hid (progOkB p = false) := by show _ = _; rw [HP.out, h1, h2, h3]; rfl
  go_wp2
  go_ret
  exact ⟨ret_bool hv.out.symm, t3⟩
 go_wp2_with fail
 refine (showsOk_calls (Rd.mono t3 h)).mono ?_
 rintro e w4 ⟨rfl, b4⟩
 have t4 := t3.step b4
 have CX4 := CX3.later b4
 obtain ⟨y0, y1, y2, y3, y4, y5, y6, y7⟩ := cells8 CX4
 cases h4 : showsI p.shows p.atoms
 ·have hv : Hid (progOkB p = false) := by show _ = _; rw [HP.out, h1, h2, h3, h4]; rfl
  go_wp2
  go_ret
  exact ⟨ret_bool hv.out.symm, t4⟩
 go_wp2_with fail
 refine (extsOk_calls (Rd.mono t4 h) hn1).mono ?_
 rintro e w5 ⟨rfl, b5⟩
 have t5 := t4.step b5
 have CX5 := CX4.later b5
 obtain ⟨y0, y1, y2, y3, y4, y5, y6, y7⟩ := cells8 CX5
 cases h5 : extsB p.exts p.atoms
 ·have hv : Hid (progOkB p = false) := by show _ = _; rw [HP.out, h1, h2, h3, h4, h5]; rfl
  go_wp2
  go_ret
  exact ⟨ret_bool hv.out.symm, t5⟩
 have hv : Hid (progOkB p = litsI p.assume p.atoms) := by show _ = _; rw [HP.out, h1, h2, h3, h4, h5]; rfl
 go_wp2_with fail
 refine (literalsOk_calls _ (Rd.mono (α := List Int) t5 g7)).mono ?_
 rintro e w' ⟨rfl, rfl⟩
 go_wp2
 go_ret
 exact ⟨ret_bool hv.out.symm, t5⟩

end Go.Proofs.YthikhkeofcjdfaaGreat
