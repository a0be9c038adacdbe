/-
 An answer, the answers and their number: what spec answers. No condition of its own.
-/
import Derived.Test.YthikhkeofcjdfaaGreatAnsD
import Derived.Test.YthikhkeofcjdfaaGreatLeastS
import Derived.Test.YthikhkeofcjdfaaGreatFoldS
import Derived.Test.YthikhkeofcjdfaaGreatOwnD
namespace Go.Proofs.YthikhkeofcjdfaaGreat
set_option linter.unusedVariables false
set_option linter.unusedSimpArgs false
open Go.RowKit
set_option maxRecDepth 100000

theorem eqB_dec (xs ys : List Int) : eqB xs ys = decide (xs = ys) := rfl

set_option maxHeartbeats 2000000 in
theorem l05Answer_calls {cs : List Value} {q : ProgD} {w : World} {v : Value} {xs : List Int} (h : Rd.R w cs q) (gx : RdL w [v] xs) (hok : progOkB q = true) :
  Calls Tryz.prog 73 #[.agg cs.toArray, v] w fun e w' => e = .returned (.bool (ansB q xs)) ∧ Below w.heap.size w w' := by
 have hr12 := Lib.hid (rules12 hok)
 have h0 := h
 obtain ⟨c1, c2, c4, c5, c6, c7, rfl, hf, g1, g2, g4, g5, g6, g7⟩ := h0
 obtain ⟨a1, k1, rfl, _, _⟩ := g1.sl
 obtain ⟨ax, cx, rfl, _, hx⟩ := gx.sl
 have CX := Cells.new w [.int .i64 q.atoms, .slice a1 q.rules.length k1, c2, .bool q.projOn, c4, c5, c6, c7] 30
 have tb : Below w.heap.size w (w.alloc (.cells #[.int .i64 q.atoms, .slice a1 q.rules.length k1, c2, .bool q.projOn, c4, c5, c6, c7] 30)) := (Below.refl _ _).alloc (Nat.le_refl _) _
 clear g2 g4 g5 g6 g7 hok
 cases hS : setOkB xs q.atoms
 ·have hv := Lib.hid (ansB_A hS)
  go_enter Tryz.func73, Tryz.ntmps73
  go_wp2_with fail
  refine (specSetOk_calls _ _ _ _ _ (hx.later tb).ints).mono ?_
  rintro e w1 ⟨he, b1⟩
  rw [hS] at he
  subst he
  have t1 := tb.step b1
  go_wp2
  go_ret
  exact ⟨ret_bool hv.out.symm, t1⟩
 ·cases hM : modelB q xs
  ·have hv := Lib.hid (ansB_B (xs := xs) hM)
   go_enter Tryz.func73, Tryz.ntmps73
   go_wp2_with fail
   refine (specSetOk_calls _ _ _ _ _ (hx.later tb).ints).mono ?_
   rintro e w1 ⟨he, b1⟩
   rw [hS] at he
   subst he
   have t1 := tb.step b1
   obtain ⟨y0, y1, y2, y3, y4, y5, y6, y7⟩ := cells8 (CX.later b1)
   go_wp2_with fail
   refine (specModel_calls (Rd.mono t1 h) (Rd.mono (α := List Int) t1 gx)).mono ?_
   rintro e w2 ⟨he, b2⟩
   rw [hM] at he
   subst he
   have t2 := t1.step b2
   go_wp2
   go_ret
   exact ⟨ret_bool hv.out.symm, t2⟩
  ·have hv := Lib.hid (ansB_C hS hM)
   go_enter Tryz.func73, Tryz.ntmps73
   go_wp2_with fail
   refine (specSetOk_calls _ _ _ _ _ (hx.later tb).ints).mono ?_
   rintro e w1 ⟨he, b1⟩
   rw [hS] at he
   subst he
   have t1 := tb.step b1
   have CX1 := CX.later b1
   obtain ⟨y0, y1, y2, y3, y4, y5, y6, y7⟩ := cells8 CX1
   go_wp2_with fail
   refine (specModel_calls (Rd.mono t1 h) (Rd.mono (α := List Int) t1 gx)).mono ?_
   rintro e w2 ⟨he, b2⟩
   rw [hM] at he
   subst he
   have t2 := t1.step b2
   have CX2 := CX1.later b2
   clear y0 y1 y2 y3 y4 y5 y6 y7
   obtain ⟨y0, y1, y2, y3, y4, y5, y6, y7⟩ := cells8 CX2
   go_wp2_with fail
   refine (l05Least_calls false (Rd.mono (α := List RuleD) t2 g1) (Rd.mono (α := List Int) t2 gx) hr12.out).mono ?_
   rintro e w3 ⟨v3, rfl, o3, b3⟩
   have t3 := t2.step b3
   obtain ⟨p3, q3, rfl, hI3, _⟩ := o3.open
   go_wp2_with fail
   refine (l01Same_calls _ _ _ _ _ _ _ hI3 (hx.later t3).ints).mono ?_
   rintro e w4 ⟨rfl, b4⟩
   have t4 := t3.step b4
   go_wp2
   go_ret
   exact ⟨ret_bool (by rw [hv.out]; rfl), t4⟩


theorem info_set : (Tryz.prog.info? 44).map (fun i => (i.zero, i.size, i.bytes)) = some (some (.agg #[.slice none 0 0]), 1, 24) := by kernel_rfl
theorem pow_atoms {n : Int} (h0 : 0 ≤ n) (h1 : n ≤ 12) : 2 ^ n.toNat ≤ 4096 := by
 have : (2 : Nat) ^ n.toNat ≤ 2 ^ 12 := Nat.pow_le_pow_right (by omega) (by omega)
 omega
theorem shl_one {n : Int} (h0 : 0 ≤ n) (h1 : n ≤ 12) : wrap64 ((2 : Int) ^ n.toNat) = ((2 ^ n.toNat : Nat) : Int) := by
 have h2 := pow_atoms h0 h1
 rw [show (2 : Int) ^ n.toNat = ((2 ^ n.toNat : Nat) : Int) by simp]
 generalize 2 ^ n.toNat = P at *
 unfold wrap64
 omega


set_option maxHeartbeats 4000000 in
theorem specAnswers_calls {cs : List Value} {p : ProgD} {w : World} (h : Rd.R w cs p) :
  Calls Tryz.prog 17 #[.agg cs.toArray] w fun e w' => ∃ u, e = .returned u ∧ Own w.heap.size w' [u] (answersL p) ∧ Below w.heap.size w w' := by
 obtain ⟨i3, hi3, hz30, hz31, hz32⟩ := info_parts info_set
 obtain ⟨p0, p1, p2, p3, p4, p5, p6, p7, rfl⟩ := list8 (Rd.len h)
 have t0 : Below w.heap.size w ((w.alloc (.cells #[p0, p1, p2, p3, p4, p5, p6, p7] 30)).alloc (.cells #[] 44)) := ((Below.refl _ _).alloc (by simp) _).alloc (by simp) _
 have hn0 : OwnD (α := List Int) w.heap.size (fun f => f = w.heap.size + 1) 44 ((w.alloc (.cells #[p0, p1, p2, p3, p4, p5, p6, p7] 30)).alloc (.cells #[] 44)) (.slice (some ⟨w.heap.size + 1, 0, none⟩) 0 0) [] := by
  have := World.ownsRow_lit (e := 44) (size := 1) (base := w.heap.size) (w.alloc (.cells #[p0, p1, p2, p3, p4, p5, p6, p7] 30)) #[] 0 (by simp) (by simp [maxLen]) (by simp)
  rw [World.size_alloc] at this
  exact OwnD.start this fun g hg => by simpa [Value.ownBlock] using hg.symm
 cases hF : foldB p
 ·have hv := Lib.hid (answersL_no hF)
  go_enter Tryz.func17, Tryz.ntmps17
  go_wp2_with fail
  refine (specFold_calls (Rd.mono t0 h)).mono ?_
  rintro e w1 ⟨cs1, he, o1, b1⟩
  rw [hF] at he
  subst he
  have hn1 := hn0.later b1
  have t1 := t0.step b1
  have l1 := Rd.one o1.rd
  obtain ⟨x0, x1, x2, x3, x4, x5, x6, x7, rfl⟩ := list8 (Rd.len o1.rd)
  have st0 := sto Tryz.prog (l1 x0 (by simp))
  have st1 := sto Tryz.prog (l1 x1 (by simp))
  have st2 := sto Tryz.prog (l1 x2 (by simp))
  have st3 := sto Tryz.prog (l1 x3 (by simp))
  have st4 := sto Tryz.prog (l1 x4 (by simp))
  have st5 := sto Tryz.prog (l1 x5 (by simp))
  have st6 := sto Tryz.prog (l1 x6 (by simp))
  have st7 := sto Tryz.prog (l1 x7 (by simp))
  have o1 := o1.alloc (.cells #[x0, x1, x2, x3, x4, x5, x6, x7] 30)
  have CX1 := Cells.new w1 [x0, x1, x2, x3, x4, x5, x6, x7] 30
  have t1 := t1.alloc t1.size (.cells #[x0, x1, x2, x3, x4, x5, x6, x7] 30)
  clear l1
  have hn2 := hn1.later ((Below.refl w1.heap.size w1).alloc (Nat.le_refl _) (.cells #[x0, x1, x2, x3, x4, x5, x6, x7] 30))
  go_wp2
  go_ret
  exact ⟨_, rfl, by rw [hv.out]; exact ownD_own hn2 (fun f h => by omega), t1⟩
 ·have hv := Lib.hid (answersL_yes hF)
  have hok : progOkB (foldD p) = true := foldR_ok hF
  go_enter Tryz.func17, Tryz.ntmps17
  go_wp2_with fail
  refine (specFold_calls (Rd.mono t0 h)).mono ?_
  rintro e w1 ⟨cs1, he, o1, b1⟩
  rw [hF] at he
  rw [foldR_yes hF] at o1
  subst he
  have hn1 := hn0.later b1
  have t1 := t0.step b1
  have l1 := Rd.one o1.rd
  obtain ⟨x0, x1, x2, x3, x4, x5, x6, x7, rfl⟩ := list8 (Rd.len o1.rd)
  have st0 := sto Tryz.prog (l1 x0 (by simp))
  have st1 := sto Tryz.prog (l1 x1 (by simp))
  have st2 := sto Tryz.prog (l1 x2 (by simp))
  have st3 := sto Tryz.prog (l1 x3 (by simp))
  have st4 := sto Tryz.prog (l1 x4 (by simp))
  have st5 := sto Tryz.prog (l1 x5 (by simp))
  have st6 := sto Tryz.prog (l1 x6 (by simp))
  have st7 := sto Tryz.prog (l1 x7 (by simp))
  have o1 := o1.alloc (.cells #[x0, x1, x2, x3, x4, x5, x6, x7] 30)
  have CX1 := Cells.new w1 [x0, x1, x2, x3, x4, x5, x6, x7] 30
  have t1 := t1.alloc t1.size (.cells #[x0, x1, x2, x3, x4, x5, x6, x7] 30)
  clear l1
  have hn2 := hn1.later ((Below.refl w1.heap.size w1).alloc (Nat.le_refl _) (.cells #[x0, x1, x2, x3, x4, x5, x6, x7] 30))
  have oR := o1.rd
  obtain ⟨_, _, _, _, _, _, hl, _⟩ := oR
  simp only [List.cons.injEq, and_true] at hl
  obtain ⟨rfl, -⟩ := hl
  have hat : (foldD p).atoms = p.atoms := rfl
  obtain ⟨ha0, ha1⟩ := progOk_atoms hok
  rw [hat] at o1 CX1 t1 hn2 ha0 ha1
  have hsh := shl_one ha0 ha1
  have hpw := pow_atoms ha0 ha1
  obtain ⟨P, hP⟩ : ∃ P : Nat, P = 2 ^ p.atoms.toNat := ⟨_, rfl⟩
  rw [← hP] at hsh hpw
  have HP := Lib.hid hP
  clear hP
  have hCX := Lib.hid CX1
  have hO := Lib.hid o1
  have z1 := b1.size
  rw [World.size_alloc, World.size_alloc] at z1
  clear hn0 hn1 t0 o1 CX1 b1
  obtain ⟨wa, hwa⟩ : ∃ wa, wa = w1.alloc (.cells #[.int .i64 p.atoms, x1, x2, x3, x4, x5, x6, x7] 30) := ⟨_, rfl⟩
  rw [← hwa] at hn2 t1 hCX hO
  go_wp2
  rw [← hwa]
  have hza : wa.heap.size = w1.heap.size + 1 := by rw [hwa, World.size_alloc]
  have hn3 := hn2.weak (D' := fun f => f = w.heap.size + 1 ∨ wa.heap.size ≤ f) (Nat.le_refl _) fun f hf => .inl hf
  clear hwa st0 st1 st2 st3 st4 st5 st6 st7 hn2
  go_loopw [3, 6] (fun v i wr => ∃ k : Nat, k ≤ P ∧ i = .int .i64 k ∧ OwnD w.heap.size (fun f => f = w.heap.size + 1 ∨ wa.heap.size ≤ f) 44 wr v (ansTo (foldD p) k) ∧ Below w.heap.size w wr ∧ Hid (∀ g, g < wa.heap.size → g ≠ w.heap.size + 1 → wr.heap[g]? = wa.heap[g]?) ∧ wa.heap.size ≤ wr.heap.size) (fun _ i _ => 4097 - (intOf i).toNat)
  case atStart => exact ⟨0, Nat.zero_le _, rfl, hn3, t1, fun _ _ _ => rfl, Nat.le_refl _⟩
  case round =>
   obtain ⟨k, hk, rfl, ho, hb, HK, hsa⟩ := hrel
   clear hn3
   have hX := Cells.kept hCX.out (HK.out w1.heap.size (by omega) (by omega))
   have hQ : Hid (∃ fp, Ow.O wr [.int .i64 p.atoms, x1, x2, x3, x4, x5, x6, x7] (foldD p) fp) := by
    obtain ⟨fp, hq, hl⟩ := hO.out
    rw [World.size_alloc, World.size_alloc] at hl
    exact ⟨fp, Ow.kept hq fun g hg => HK.out g (Ow.lt hq g hg) (by have := hl g hg; omega)⟩
   have hQ : Rd.R wr [.int .i64 p.atoms, x1, x2, x3, x4, x5, x6, x7] (foldD p) := by obtain ⟨fp, hq⟩ := hQ.out; exact Ow.rd hq
   obtain ⟨y0, y1, y2, y3, y4, y5, y6, y7⟩ := cells8 hX
   have hszw : w.heap.size ≤ wr.heap.size := hb.size
   have hall := ansTo_len (foldD p) k
   have hOB := Lib.hid ho.at
   obtain ⟨av, kv, rfl⟩ := ho.form
   by_cases hlt : k < P
   ·have hltI : (k : Int) < (P : Int) := by omega
    have hk4 : (k : Int) ≤ 4096 := by omega
    cases hA : ansB (foldD p) (setN k)
    ·have hE := Lib.hid (ansTo_no hA)
     go_wp2_with fail
     refine (specSetOf_calls _ _).mono ?_
     rintro e w2 ⟨v2, rfl, o2, b2⟩
     have g2 : RdL _ _ (setN k) := o2.own.rd
     obtain ⟨a2, n2, rfl, _, _⟩ := g2.sl
     clear y0 y1 y2 y3 y4 y5 y6 y7
     obtain ⟨y0, y1, y2, y3, y4, y5, y6, y7⟩ := cells8 (hX.later b2)
     go_wp2_with fail
     refine (l05Answer_calls (Rd.mono b2 hQ) g2 hok).mono ?_
     rintro e w3 ⟨he, b3⟩
     rw [hA] at he
     subst he
     have ho4 := (ho.later b2).later b3
     have b23 := b2.trans (b3.mono b2.size)
     have hb4 := hb.step b23
     have HK4 : Hid (∀ g, g < wa.heap.size → g ≠ w.heap.size + 1 → w3.heap[g]? = wa.heap[g]?) := fun g h1 h2 => (b23.block g (by omega)).trans (HK.out g h1 h2)
     have hs4 := b23.size
     go_wp2
     go_roundw
     case rel => exact ⟨k + 1, by omega, by go_num, by rw [hE.out]; exact ho4, hb4, HK4, by omega⟩
     case measure => simp [intOf]; omega
    ·have hE := Lib.hid (ansTo_yes hA)
     go_wp2_with fail
     refine (specSetOf_calls _ _).mono ?_
     rintro e w2 ⟨v2, rfl, o2, b2⟩
     have g2 : RdL _ _ (setN k) := o2.own.rd
     obtain ⟨a2, n2, rfl, _, _⟩ := g2.sl
     clear y0 y1 y2 y3 y4 y5 y6 y7
     obtain ⟨y0, y1, y2, y3, y4, y5, y6, y7⟩ := cells8 (hX.later b2)
     go_wp2_with fail
     refine (l05Answer_calls (Rd.mono b2 hQ) g2 hok).mono ?_
     rintro e w3 ⟨he, b3⟩
     rw [hA] at he
     subst he
     have ho4 := (ho.later b2).later b3
     have hlen := ansTo_len (foldD p) k
     have hoN := ((o2.own.later b3).alloc (.cells #[.slice a2 (setN k).length n2] 44))
     have hcN := Cells.new w3 [.slice a2 (setN k).length n2] 44
     have hbN : Below wr.heap.size wr (w3.alloc (.cells #[.slice a2 (setN k).length n2] 44)) := (b2.trans (b3.mono b2.size)).alloc (Nat.le_trans b2.size b3.size) _
     have hle2 : ((ansTo (foldD p) k).length + 1) * 24 ≤ 140737488355328 := by omega
     have hle3 : (ansTo (foldD p) k).length + 1 ≤ 140737488355328 := by omega
     obtain ⟨v5, w5, r5, ho5, hb5, hg5⟩ := run_append_oneD (α := List Int) (P := Tryz.prog) (t := 40) (ty := 40) (c := 1) i3 _ 24 Tryz.underlying40 hi3 hz30 hz31 hz32 rfl (by decide) ho hbN hcN hoN (fun f hf => .inr (Nat.le_trans hsa hf)) hle2 hle3 hszw
     have hb6 := (hb.step hbN).trans hb5
     have HK6 : Hid (∀ g, g < wa.heap.size → g ≠ w.heap.size + 1 → w5.heap[g]? = wa.heap[g]?) := fun g h1 h2 => (hg5.block g (by have := hbN.size; omega) (fun e => by have := hOB.out g e.symm; omega)).trans ((hbN.block g (by omega)).trans (HK.out g h1 h2))
     have hs6 : wa.heap.size ≤ w5.heap.size := Nat.le_trans hsa (Nat.le_trans hbN.size hg5.size)
     obtain ⟨a5, k5, rfl⟩ := ho5.form
     go_wp2_with (at_builtin; refine wpList_append_of rfl _ _ rfl rfl rfl r5 ?_)
     go_roundw
     case rel => exact ⟨k + 1, by omega, by go_num, by rw [hE.out]; have h9 := ho5; rw [List.length_append] at h9; exact h9, hb6, HK6, hs6⟩
     case measure => simp [intOf]; omega
   ·have hge : (P : Int) ≤ (k : Int) := by omega
    obtain rfl : k = P := by omega
    go_wp2
    go_ret
    exact ⟨_, rfl, by rw [hv.out, ← HP.out]; exact ownD_own ho (fun f h => by have := t1.size; omega), hb⟩

end Go.Proofs.YthikhkeofcjdfaaGreat
