/-
  spec.Bounded: what it answers. No condition of its own.
-/
import Derived.Test.YtiemlklngmifdaaGreatBndJ
import Derived.Test.YtiemlklngmifdaaGreatCopyM
import Derived.Test.YtiemlklngmifdaaGreatSpecProg
import Derived.BigRegion
namespace Go.Proofs.YtiemlklngmifdaaGreat
set_option linter.unusedVariables false
set_option linter.unusedSimpArgs false
open Go.RowKit
set_option maxRecDepth 100000

def abOk (r : RuleD) : Bool := btwB r.bound (-100000) 100000
theorem bndB_E {p : ProgD} {cs : List Int} (h : progOkB p = true) (hl : cs.length = p.levels.length) (h60 : 60 < p.rules.length + cs.length) : bndB p cs = false := by
  cases hc : cs.all costOkB
  · exact bndB_C hc
  · rw [bndB_D h hl hc, bnd_same h hl, decide_eq_false (by omega), Bool.false_and]
theorem bndB_F {p : ProgD} {cs : List Int} (h : progOkB p = true) (hl : cs.length = p.levels.length) {k : Nat} (hk : k < cs.length) (hb : abOk (aboveR (nth cs k) (nth p.levels.reverse k)) = false) : bndB p cs = false := by
  cases hc : cs.all costOkB
  · exact bndB_C hc
  · rw [bndB_D h hl hc, bnd_same h hl]
    have hr : (abRules cs p.levels.reverse).all (fun r => btwB r.bound (-100000) 100000) = false := by
      rw [List.all_eq_false]
      have hk2 : k < p.levels.reverse.length := by rw [List.length_reverse]; omega
      refine ⟨aboveR (nth cs k) (nth p.levels.reverse k), ?_, by unfold abOk at hb; rw [hb]; simp⟩
      unfold abRules
      rw [List.mem_iff_getElem]
      exact ⟨k, by rw [List.length_zipWith]; omega, by rw [List.getElem_zipWith, ← nth_eq hk, ← nth_eq hk2]⟩
    rw [hr, Bool.and_false]
theorem bndB_G {p : ProgD} {cs : List Int} (h : progOkB p = true) (hl : cs.length = p.levels.length) (h60 : p.rules.length + cs.length ≤ 60) (hc : cs.all costOkB = true) (ha : (abRules cs p.levels.reverse).all abOk = true) : bndB p cs = true := by
  rw [bndB_D h hl hc, bnd_same h hl, decide_eq_true h60, Bool.true_and]
  exact ha

/-- The box of the rule that is put together: its bound, its body. -/
structure ABs (w : World) (nb : Int) (ys : List (Int × Int)) (v : Value) (W : World) : Prop where
  rb : W.heap[w.heap.size]? = some (.cells #[.bool false, .slice none 0 0, .bool true, .int .i64 nb, v] 100 (0, 0))
  row : OwnF (w.heap.size + 1) 104 W v ys
  bel : Below w.heap.size w W
theorem ABs.sl {w : World} {nb : Int} {ys : List (Int × Int)} {v : Value} {W : World} (h : ABs w nb ys v W) : ∃ a c, v = .slice a ys.length c := by
  rcases h.row.1.2 with ⟨hv, hn⟩ | ⟨g, cap, cur, hv, _⟩
  · exact ⟨none, 0, by rw [hv, hn]⟩
  · exact ⟨_, _, hv⟩
theorem ABs.bound {w : World} {nb : Int} {ys : List (Int × Int)} {v : Value} {W : World} (h : ABs w nb ys v W) (n2 : Int) : ABs w n2 ys v (W.setCell ⟨w.heap.size, 3, none⟩ (.int .i64 n2)) :=
  ⟨by rw [heap_setCell_same W _ 3 _ _ _ h.rb]; rfl, ⟨ownsRow_setCell_below h.row.1 (show w.heap.size < w.heap.size + 1 by omega) _, h.row.2⟩, h.bel.setCell (Nat.le_refl _) _⟩
theorem ABs.alloc {w : World} {nb : Int} {ys : List (Int × Int)} {v : Value} {W : World} (h : ABs w nb ys v W) (o : Obj) : ABs w nb ys v (W.alloc o) :=
  ⟨(Below.heap_alloc _ _ _ (block_lt h.rb)).trans h.rb, ⟨h.row.1.alloc _, h.row.2⟩, h.bel.alloc h.bel.size _⟩
theorem ABs.drew {w : World} {nb : Int} {ys : List (Int × Int)} {v : Value} {W : World} (h : ABs w nb ys v W) : ABs w nb ys v W.drew :=
  ⟨h.rb, h.row.ch (D := fun _ => False) ⟨rfl, rfl, rfl, Nat.le_refl _, fun _ _ _ => rfl⟩ (fun _ _ h => h), h.bel.drew⟩
theorem ABs.push {w : World} {nb : Int} {ys : List (Int × Int)} {v : Value} {W : World} (h : ABs w nb ys v W) (q : Int × Int) (h1 : Fits q.1) (h2 : Fits q.2) (hl : ys.length ≤ 1000) :
    ∃ g' cap' w1, (Builtin.append_ #[98, 98] 98 #[v, .slice (some ⟨W.heap.size, 0, none⟩) 1 1]).run Tryz.prog (W.alloc (.cells #[.int .i64 q.1, .int .i64 q.2] 104)) = .ok (.slice (some ⟨g', 0, none⟩) (ys.length + 1) cap') w1 ∧
      w1.cell? ⟨w.heap.size, 4, none⟩ = some v ∧ w1.frozen? ⟨w.heap.size, 4, none⟩ = false ∧ Below w.heap.size w w1 ∧
      ABs w nb (ys ++ [q]) (.slice (some ⟨g', 0, none⟩) (ys.length + 1) cap') (w1.setCell ⟨w.heap.size, 4, none⟩ (.slice (some ⟨g', 0, none⟩) (ys.length + 1) cap')) := by
  obtain ⟨i0, hi, hz0, hz1, hz2⟩ := info_parts info_wl
  have hA := h.alloc (.cells #[.int .i64 q.1, .int .i64 q.2] 104)
  have CY := Cells.new W [.int .i64 q.1, .int .i64 q.2] 104
  have hlt := block_lt h.rb
  obtain ⟨v', w1, r1, r2, r3, _⟩ := run_append_own (P := Tryz.prog) (w := W.alloc (.cells #[.int .i64 q.1, .int .i64 q.2] 104)) (w.heap.size + 1) 98 98 104 i0 _ 2 16 Tryz.underlying98 hi hz0 hz1 hz2 rfl (by omega) _ _ _ hA.row.1 ⟨W.heap.size, 0, none⟩ 1 1 [.int .i64 q.1, .int .i64 q.2] rfl
    (fun j u hu => by
      have hc := CY j u hu
      unfold Addr.add
      by_cases hj : j = 0
      · subst hj; simpa using hc
      · rw [if_neg hj]; exact hc) (by simp [Value.oneCell']) (by unfold maxLen; omega) (by omega) (by rw [World.size_alloc]; omega)
  obtain ⟨g', cap', rfl⟩ : ∃ g cap, v' = .slice (some ⟨g, 0, none⟩) (ys.length + 1) cap := by
    rcases r2.2 with ⟨_, hn⟩ | ⟨g, cap, cur, hv, _⟩
    · omega
    · exact ⟨g, cap, hv⟩
  have hne : ∀ k, v.ownBlock = some k → w.heap.size + 1 ≤ k := fun k hk => by
    rcases h.row.1.2 with ⟨hv9, _⟩ | ⟨g9, _, _, hv9, hg9, _⟩
    · rw [hv9] at hk; cases hk
    · rw [hv9] at hk
      have e9 : g9 = k := by simpa [Value.ownBlock] using hk
      omega
  have t4 : Ch (fun k => w.heap.size + 1 ≤ k) (W.alloc (.cells #[.int .i64 q.1, .int .i64 q.2] 104)) w1 := Ch.grown r3 hne
  have hrb := t4.at hA.rb (by omega)
  have hb1 := hA.bel.trans ((t4.below (lo := w.heap.size + 1) (fun _ h => h) (by rw [World.size_alloc]; omega)).mono (by omega))
  refine ⟨g', cap', w1, r1, by rw [cell_of_row w1 _ 4 _ _ _ hrb]; rfl, frozen_of_row w1 _ 4 _ _ hrb, hb1, ?_, ⟨?_, ?_⟩, ?_⟩
  · rw [heap_setCell_same w1 _ 4 _ _ _ hrb]; rfl
  · rw [List.flatMap_append, List.length_append]
    exact ownsRow_setCell_below r2 (show w.heap.size < w.heap.size + 1 by omega) _
  · intro y hy
    rcases List.mem_append.1 hy with hy | hy
    · exact h.row.2 y hy
    · rw [List.mem_singleton.1 hy]; exact ⟨h1, h2⟩
  · exact hb1.setCell (show w.heap.size ≤ w.heap.size by omega) _
theorem ABs.rule {w : World} {c : Int} {l : LevelD} {v : Value} {W : World} (h : ABs w (aboveR c l).bound (aboveR c l).body v W) (hf : Fits (aboveR c l).bound) : Own w.heap.size W [.bool false, .slice none 0 0, .bool true, .int .i64 (aboveR c l).bound, v] (aboveR c l) :=
  own_rule (lo := w.heap.size) (a := w.heap.size + 1) (b := w.heap.size + 1) (x := aboveR c l) (show OwnIn (w.heap.size + 1) (w.heap.size + 1) W [.slice none 0 0] ([] : List Int) from ⟨[], ⟨none, 0, rfl, by simp, by omega, .inl ⟨rfl, rfl, rfl⟩⟩, by simp⟩) h.row.own.shut (Nat.le_refl _) (by omega) (Nat.le_refl _) hf

set_option maxHeartbeats 8000000 in
theorem specBounded_calls {cs : List Value} {p : ProgD} {v : Value} {xs : List Int} {w : World} (h : Rd.R w cs p) (gx : RdL w [v] xs) :
    Calls Tryz.prog 17 #[.agg cs.toArray, v] w fun e w' => ∃ cs', e = .returned (.tuple #[.agg cs'.toArray, .bool (bndB p xs)]) ∧ Own w.heap.size w' cs' (bndR p xs) ∧ Below w.heap.size w w' := by
  have HRD := Lib.hid h
  obtain ⟨ax, cx, rfl, _, hx⟩ := gx.sl
  have hxm := hx.1
  obtain ⟨p1, p2, p4, p5, p6, p7, rfl, hf, g1, g2, g4, g5, g6, g7⟩ := h
  obtain ⟨a1, q1, rfl, _, h1⟩ := g1.sl
  have hm1 := h1.1
  obtain ⟨a2, q2, rfl, _, h2⟩ := g2.sl
  have hm2 := h2.1
  have CX := (Cells.new w [.int .i64 p.atoms, .slice a1 p.rules.length q1, .slice a2 p.levels.length q2, .bool p.projOn, p4, p5, p6, p7] 40).alloc (.cells #[.int .i64 0, .slice none 0 0, .slice none 0 0, .bool false, .slice none 0 0, .slice none 0 0, .slice none 0 0, .slice none 0 0] 40)
  have hpx := (Below.heap_alloc _ (.cells #[.int .i64 0, .slice none 0 0, .slice none 0 0, .bool false, .slice none 0 0, .slice none 0 0, .slice none 0 0, .slice none 0 0] 40) w.heap.size (by simp)).trans (alloc_block w #[.int .i64 p.atoms, .slice a1 p.rules.length q1, .slice a2 p.levels.length q2, .bool p.projOn, p4, p5, p6, p7] 40)
  have hz := alloc_block (w.alloc (.cells #[.int .i64 p.atoms, .slice a1 p.rules.length q1, .slice a2 p.levels.length q2, .bool p.projOn, p4, p5, p6, p7] 40)) #[.int .i64 0, .slice none 0 0, .slice none 0 0, .bool false, .slice none 0 0, .slice none 0 0, .slice none 0 0, .slice none 0 0] 40
  rw [World.size_alloc] at hz
  have t0 : Below w.heap.size w ((w.alloc (.cells #[.int .i64 p.atoms, .slice a1 p.rules.length q1, .slice a2 p.levels.length q2, .bool p.projOn, p4, p5, p6, p7] 40)).alloc (.cells #[.int .i64 0, .slice none 0 0, .slice none 0 0, .bool false, .slice none 0 0, .slice none 0 0, .slice none 0 0, .slice none 0 0] 40)) := ((Below.refl _ _).alloc (by simp) _).alloc (by simp) _
  obtain ⟨x0, x1, x2, x3, x4, x5, x6, x7⟩ := cells8 CX
  have HI := Lib.hid (specProgOk_calls (Rd.mono t0 HRD.out))
  have hs0 : ((w.alloc (.cells #[.int .i64 p.atoms, .slice a1 p.rules.length q1, .slice a2 p.levels.length q2, .bool p.projOn, p4, p5, p6, p7] 40)).alloc (.cells #[.int .i64 0, .slice none 0 0, .slice none 0 0, .bool false, .slice none 0 0, .slice none 0 0, .slice none 0 0, .slice none 0 0] 40)).heap.size = w.heap.size + 2 := by rw [World.size_alloc, World.size_alloc]
  clear g1 g2 g4 g5 g6 g7 hf h1
  cases hok : progOkB p
  · have hb0 := bndB_A (cs := xs) hok
    have hr := Lib.hid (bndR_no hb0)
    have hb := Lib.hid hb0
    rw [hok] at HI
    clear hok hb0
    go_enter Tryz.func17, Tryz.ntmps17
    go_wp2_with fail
    refine HI.out.mono ?_
    rintro e w1 ⟨rfl, b1⟩
    have tz := t0.step b1
    have hz1 := (b1.block _ (block_lt hz)).trans hz
    have hfz := fun j => frozen_of_row w1 (w.heap.size + 1) j _ _ hz1
    have hzl := block_lt hz1
    obtain ⟨z0, z1, z2, z3, z4, z5, z6, z7⟩ := cells8 (w := w1) (b := w.heap.size + 1) (fun j u hu => by rw [Nat.zero_add, cell_of_row w1 _ j _ _ _ hz1]; simpa using hu)
    clear x0 x1 x2 x3 x4 x5 x6 x7 CX t0 hs0 hpx
    go_wp2
    exact bodyPost_ret (v := .tuple #[.agg #[.int .i64 0, .slice none 0 0, .slice none 0 0, .bool false, .slice none 0 0, .slice none 0 0, .slice none 0 0, .slice none 0 0], .bool false])
      (by simp [results, Tryz.results17, go_sem, z0, z1, z2, z3, z4, z5, z6, z7]) rfl ⟨_, by rw [hb.out], by rw [hr.out]; exact own_zero _ _, by
        repeat (refine Below.setCell ?_ (by simp; try omega) _)
        exact tz⟩
  rw [hok] at HI
  by_cases hlen : xs.length = p.levels.length
  case neg =>
    have hb0 := bndB_B (p := p) hlen
    have hr := Lib.hid (bndR_no hb0)
    have hb := Lib.hid hb0
    have hne : ((xs.length : Int) != (p.levels.length : Int)) = true := bne_iff_ne.2 (by omega)
    clear hok hb0 hlen
    go_enter Tryz.func17, Tryz.ntmps17
    go_wp2_with fail
    refine HI.out.mono ?_
    rintro e w1 ⟨rfl, b1⟩
    have tz := t0.step b1
    have hz1 := (b1.block _ (block_lt hz)).trans hz
    have hfz := fun j => frozen_of_row w1 (w.heap.size + 1) j _ _ hz1
    have hzl := block_lt hz1
    obtain ⟨z0, z1, z2, z3, z4, z5, z6, z7⟩ := cells8 (w := w1) (b := w.heap.size + 1) (fun j u hu => by rw [Nat.zero_add, cell_of_row w1 _ j _ _ _ hz1]; simpa using hu)
    clear x0 x1 x2 x3 x4 x5 x6 x7
    obtain ⟨x0, x1, x2, x3, x4, x5, x6, x7⟩ := cells8 (CX.later b1)
    clear CX t0 hs0 hpx
    go_wp2
    exact bodyPost_ret (v := .tuple #[.agg #[.int .i64 0, .slice none 0 0, .slice none 0 0, .bool false, .slice none 0 0, .slice none 0 0, .slice none 0 0, .slice none 0 0], .bool false])
      (by simp [results, Tryz.results17, go_sem, z0, z1, z2, z3, z4, z5, z6, z7]) rfl ⟨_, by rw [hb.out], by rw [hr.out]; exact own_zero _ _, by
        repeat (refine Below.setCell ?_ (by simp; try omega) _)
        exact tz⟩
  have HLEN := Lib.hid hlen
  have heq : ((xs.length : Int) != (p.levels.length : Int)) = false := by rw [show (xs.length : Int) = (p.levels.length : Int) by omega]; exact bne_self_eq_false _
  have hlv0 := levels_ok (progOk_levels hok)
  have hl6 : p.levels.length ≤ 6 := hlv0.2.1
  have HLIT := Lib.hid (fun l (hl : l ∈ p.levels) => level_lits (progOk_levels hok) hl)
  have HAT := Lib.hid (progOk_atoms hok)
  have sp := szP_ok hok
  have hpr : p.rules.length ≤ 60 := (progOk_rules hok).1
  have hxl6 : xs.length ≤ 6 := by omega
  by_cases h60 : 60 < p.rules.length + xs.length
  · have hb0 := bndB_E hok hlen h60
    have hr := Lib.hid (bndR_no hb0)
    have hb := Lib.hid hb0
    have h60' : (60 : Int) < (p.rules.length : Int) + (xs.length : Int) := by omega
    clear hok hb0 hlen hlv0
    go_enter Tryz.func17, Tryz.ntmps17
    go_wp2_with fail
    refine HI.out.mono ?_
    rintro e w1 ⟨rfl, b1⟩
    have tz := t0.step b1
    have hz1 := (b1.block _ (block_lt hz)).trans hz
    have hfz := fun j => frozen_of_row w1 (w.heap.size + 1) j _ _ hz1
    have hzl := block_lt hz1
    obtain ⟨z0, z1, z2, z3, z4, z5, z6, z7⟩ := cells8 (w := w1) (b := w.heap.size + 1) (fun j u hu => by rw [Nat.zero_add, cell_of_row w1 _ j _ _ _ hz1]; simpa using hu)
    clear x0 x1 x2 x3 x4 x5 x6 x7
    obtain ⟨x0, x1, x2, x3, x4, x5, x6, x7⟩ := cells8 (CX.later b1)
    clear CX t0 hs0 hpx
    go_wp2
    exact bodyPost_ret (v := .tuple #[.agg #[.int .i64 0, .slice none 0 0, .slice none 0 0, .bool false, .slice none 0 0, .slice none 0 0, .slice none 0 0, .slice none 0 0], .bool false])
      (by simp [results, Tryz.results17, go_sem, z0, z1, z2, z3, z4, z5, z6, z7]) rfl ⟨_, by rw [hb.out], by rw [hr.out]; exact own_zero _ _, by
        repeat (refine Below.setCell ?_ (by simp; try omega) _)
        exact tz⟩
  have HC := Lib.hid (fun hc => bndB_C (p := p) (cs := xs) hc)
  have HF := Lib.hid (fun (k : Nat) (hk : k < xs.length) hb => bndB_F hok hlen hk hb)
  have HG := Lib.hid (fun hc ha => bndB_G hok hlen (by omega) hc ha)
  have h60' : (p.rules.length : Int) + (xs.length : Int) ≤ 60 := by omega
  have h60n : p.rules.length + xs.length ≤ 60 := by omega
  clear hlv0 hok hlen h60
  go_enter Tryz.func17, Tryz.ntmps17
  go_wp2_with fail
  refine HI.out.mono ?_
  rintro e w1 ⟨rfl, b1⟩
  have t1 := t0.step b1
  have hs1 := b1.size
  rw [hs0] at hs1
  clear x0 x1 x2 x3 x4 x5 x6 x7
  obtain ⟨x0, x1, x2, x3, x4, x5, x6, x7⟩ := cells8 (CX.later b1)
  go_wp2_with fail
  refine (l02Copy_calls (Rd.mono t1 HRD.out) sp).mono ?_
  rintro e w3 ⟨c1, c2, c4, c5, c6, c7, D, rfl, hP, hD, b3⟩
  clear x0 x1 x2 x3 x4 x5 x6 x7
  have b13 := b1.step b3
  have hs3 := b3.size
  have t3 := t1.step b3
  have one := Rd.one hP.own.rd
  have st1 := sto Tryz.prog (one c1 (by simp))
  have st2 := sto Tryz.prog (one c2 (by simp))
  have st4 := sto Tryz.prog (one c4 (by simp))
  have st5 := sto Tryz.prog (one c5 (by simp))
  have st6 := sto Tryz.prog (one c6 (by simp))
  have st7 := sto Tryz.prog (one c7 (by simp))
  have hl0 : w.heap.size < w3.heap.size := by omega
  have t4 := t3.alloc t3.size (.cells #[.int .i64 p.atoms, c1, c2, .bool p.projOn, c4, c5, c6, c7] 40)
  have hbx := alloc_block w3 #[.int .i64 p.atoms, c1, c2, .bool p.projOn, c4, c5, c6, c7] 40
  have hz4 := (Below.heap_alloc w3 (.cells #[.int .i64 p.atoms, c1, c2, .bool p.projOn, c4, c5, c6, c7] 40) (w.heap.size + 1) (by omega)).trans ((b13.block _ (block_lt hz)).trans hz)
  have hp4 := (Below.heap_alloc w3 (.cells #[.int .i64 p.atoms, c1, c2, .bool p.projOn, c4, c5, c6, c7] 40) w.heap.size (by omega)).trans ((b13.block _ (block_lt hpx)).trans hpx)
  have hP4 := hP.later ((Below.refl w3.heap.size w3).alloc (Nat.le_refl _) (.cells #[.int .i64 p.atoms, c1, c2, .bool p.projOn, c4, c5, c6, c7] 40))
  have zw4 : (w3.alloc (.cells #[.int .i64 p.atoms, c1, c2, .bool p.projOn, c4, c5, c6, c7] 40)).heap.size = w3.heap.size + 1 := World.size_alloc _ _
  obtain ⟨w5, hw5⟩ : ∃ w5, w5 = w3.alloc (.cells #[.int .i64 p.atoms, c1, c2, .bool p.projOn, c4, c5, c6, c7] 40) := ⟨_, rfl⟩
  rw [← hw5] at t4 hbx hz4 hp4 hP4 zw4
  have hB0 : BI w p xs p.levels.reverse w1.heap.size w3.heap.size w3.heap.size w5 0 D c1 c2 c4 c5 c6 c7 w5 :=
    ⟨by
      have e : p.rules ++ abRules (xs.take 0) (p.levels.reverse.take 0) = p.rules := by simp [abRules]
      rw [e]; exact hP4, hbx, fun f hf => ⟨by have := hD f hf; omega, fun e => by have := hD f hf; omega⟩, hz4, t4, ⟨by omega, hs3, Nat.le_refl _, by omega⟩, fun _ _ _ => rfl, fun f hf => .inl (hD f hf), Nat.le_refl _⟩
  have HB0 := Lib.hid hB0
  have HP4 := Lib.hid hp4
  have hx := hx.ints
  have HX := Lib.hid hx
  clear hz b1 b3 b13 t0 t1 t3 t4 hbx hz4 hp4 hP4 hP hD one HI hB0 CX hpx hx
  have HW5 := Lib.hid hw5
  clear hw5
  go_wp2
  rw [← HW5.out]
  clear st1 st2 st4 st5 st6 st7
  go_loopw [7] (fun i wr => ∃ (k : Nat) (c1' : Value) (D : Nat → Prop), k ≤ xs.length ∧ i = .int .i64 (k : Int) ∧ BI w p xs p.levels.reverse w1.heap.size w3.heap.size w3.heap.size w5 k D c1' c2 c4 c5 c6 c7 wr ∧ (xs.take k).all costOkB = true ∧ (abRules (xs.take k) (p.levels.reverse.take k)).all abOk = true ∧ wr.heap[w.heap.size]? = some (.cells #[.int .i64 p.atoms, .slice a1 p.rules.length q1, .slice a2 p.levels.length q2, .bool p.projOn, p4, p5, p6, p7] 40 (0, 0))) (fun i _ => xs.length - (intOf i).toNat)
  case atStart => exact ⟨0, c1, D, Nat.zero_le _, rfl, HB0.out, by simp, by simp [abRules], HP4.out⟩
  case round =>
    obtain ⟨k, c1', D, hk, rfl, hBI, hall, hab, hpb⟩ := hrel
    clear HB0 HP4
    obtain ⟨wo, rfl⟩ : ∃ wo : World, wo = wr := ⟨_, rfl⟩
    obtain ⟨l1, l2, l3, l4⟩ := hBI.los
    by_cases hlt : k < xs.length
    · obtain ⟨b', off', rfl, hcx⟩ := HX.out.2.2 k hlt
      have hbw : b' < w.heap.size := cell_lt hcx
      have hcx : wo.cell? ⟨b', off' + k, none⟩ = _ := (bcell hBI.bel).1 b' _ hbw |>.trans hcx
      have hkl : k < p.levels.reverse.length := by rw [List.length_reverse, ← HLEN.out]; exact hlt
      have hlm : nth p.levels.reverse k ∈ p.levels := List.mem_reverse.1 (nth_mem hkl)
      have HLK := Lib.hid (HLIT.out _ hlm)
      have hat := HAT.out
      have hkx' : (k : Int) < (xs.length : Int) := by omega
      have HIN : Hid ((xs.take (k + 1)).all costOkB = costOkB (el xs k)) := by
        show _ = _
        rw [all_take_yes' hlt hall]
        rfl
      have HCN : Hid (el xs k = nth xs k) := rfl
      have hlr := h2
      cases hco : costOkB (el xs k)
      · have hba : xs.all costOkB = false := by
          have h1 := HIN.out
          rw [hco] at h1
          cases h2 : xs.all costOkB
          · rfl
          · rw [List.all_eq_true] at h2
            have h3 : (xs.take (k + 1)).all costOkB = true := List.all_eq_true.2 fun y hy => h2 y (List.mem_of_mem_take hy)
            rw [h3] at h1; cases h1
        have hb0 := HC.out hba
        have hr := Lib.hid (bndR_no hb0)
        have hb := Lib.hid hb0
        have HW : Hid (btwB (el xs k) (-100000) 100000 = false) := hco
        have tz := hBI.bel
        have hz1 := hBI.zb
        have hfz := fun j => frozen_of_row wo (w.heap.size + 1) j _ _ hz1
        have hzl := block_lt hz1
        obtain ⟨z0, z1, z2, z3, z4, z5, z6, z7⟩ := cells8 (w := wo) (b := w.heap.size + 1) (fun j u hu => by rw [Nat.zero_add, cell_of_row wo _ j _ _ _ hz1]; simpa using hu)
        clear hb0 hba hco hBI hab hall
        generalize el xs k = cst at *
        go_wp2_with (go_at_call 65; refine (between_calls _ _ _ _).mono ?_; rintro e w' ⟨rfl, rfl⟩; rw [HW.out])
        exact bodyPost_ret (v := .tuple #[.agg #[.int .i64 0, .slice none 0 0, .slice none 0 0, .bool false, .slice none 0 0, .slice none 0 0, .slice none 0 0, .slice none 0 0], .bool false])
          (by simp [results, Tryz.results17, go_sem, z0, z1, z2, z3, z4, z5, z6, z7]) rfl ⟨_, by rw [hb.out], by rw [hr.out]; exact own_zero _ _, by
            repeat (refine Below.setCell ?_ (by simp; try omega) _)
            exact tz⟩
      · have HALL : Hid ((xs.take (k + 1)).all costOkB = true) := HIN.out.trans hco
        have HW : Hid (btwB (el xs k) (-100000) 100000 = true) := hco
        have hcb : -100000 ≤ el xs k ∧ el xs k ≤ 100000 := by
          have := hco
          simp only [costOkB, btwB, decide_eq_true_eq] at this
          exact this
        clear hco
        obtain ⟨cst, hcst⟩ : ∃ c, c = el xs k := ⟨_, rfl⟩
        rw [← hcst] at hcx HW hcb
        have HCST := Lib.hid hcst
        clear hcst
        obtain ⟨y0, y1, y2, y3, y4, y5, y6, y7⟩ := cells8 (w := wo) (b := w.heap.size) (fun j u hu => by rw [Nat.zero_add, cell_of_row wo _ j _ _ _ hpb]; simpa using hu)
        have hlw0 : w.heap.size < wo.heap.size := block_lt hpb
        have hpl : xs.length = p.levels.length := HLEN.out
        obtain ⟨b2, off2, rfl, hcb2⟩ := hlr.base (by omega)
        have hki : p.levels.length - 1 - k < p.levels.length := by omega
        obtain ⟨ecs, hC, hR⟩ := hcb2 _ hki
        have hnr : nth p.levels.reverse k = nth p.levels (p.levels.length - 1 - k) := nth_rev (by rw [← HLEN.out]; exact hlt)
        rw [← hnr] at hR
        obtain ⟨lt, hlt9⟩ : ∃ l, l = nth p.levels.reverse k := ⟨_, rfl⟩
        rw [← hlt9] at hR HLK
        have HLT := Lib.hid hlt9
        clear hlt9 hnr
        obtain ⟨c1l, rfl, hfl, gl⟩ := hR
        obtain ⟨la, lc, rfl, _, hrl⟩ := gl.sl
        have hlm2 := hrl.1
        have hC := hC.later hBI.bel
        have u1 := hC.c1
        rw [show Rd.k LevelD = 2 from rfl] at u1
        have hkc : ((p.levels.length : Int) - 1) - (k : Int) = ((p.levels.length - 1 - k : Nat) : Int) := by omega
        obtain ⟨I, hI⟩ : ∃ I, I = p.levels.length - 1 - k := ⟨_, rfl⟩
        rw [← hI] at u1 hkc
        have hk1 : (I : Int) < (p.levels.length : Int) := by omega
        have hlb2 : b2 < wo.heap.size := cell_lt u1
        clear hI hki
        have hA0 : ABs wo (cst + 1 + abS (lt.lits.take 0)) (abB (lt.lits.take 0)) (.slice none 0 0) (wo.alloc (.cells #[.bool false, .slice none 0 0, .bool true, .int .i64 (cst + 1), .slice none 0 0] 100)) := by
          refine ⟨?_, ⟨⟨rfl, .inl ⟨rfl, rfl⟩⟩, by simp [abB]⟩, (Below.refl _ _).alloc (Nat.le_refl _) _⟩
          rw [alloc_block wo #[.bool false, .slice none 0 0, .bool true, .int .i64 (cst + 1), .slice none 0 0] 100]
          simp [abS]
        have HA0 := Lib.hid hA0
        clear hA0 hC hcb2 gl hpl
        go_wp2_with (go_at_call 65; refine (between_calls _ _ _ _).mono ?_; rintro e w' ⟨rfl, rfl⟩; rw [HW.out])
        go_loopw [10] (fun i wr => ∃ (j : Nat) (v : Value), j ≤ lt.lits.length ∧ i = .int .i64 (j : Int) ∧ ABs wo (cst + 1 + abS (lt.lits.take j)) (abB (lt.lits.take j)) v wr) (fun i _ => lt.lits.length - (intOf i).toNat)
        case atStart => exact ⟨0, _, Nat.zero_le _, rfl, HA0.out⟩
        case round =>
          obtain ⟨j, v, hj, rfl, hA⟩ := hrel
          clear HA0 y0 y1 y2 y3 y4 y5 y6 y7
          have hll := HLK.out.1
          obtain ⟨hb0, hb1⟩ := abS_take_bd j (fun q hq => (HLK.out.2 q hq).2) hll
          have hbl := abB_take_len lt.lits j hll
          have hszr := hA.bel.size
          obtain ⟨va, vc, rfl⟩ := hA.sl
          by_cases hjl : j < lt.lits.length
          · obtain ⟨b3, off3, rfl, hc3⟩ := hrl.base (by omega)
            obtain ⟨ecs, hC3, hR3⟩ := hc3 j hjl
            have hC3 := hC3.later hBI.bel
            obtain ⟨rfl, hF1, hF2⟩ := hR3
            have v0 := hC3.c0
            have v1 := hC3.c1
            rw [show Rd.k (Int × Int) = 2 from rfl] at v0 v1
            obtain ⟨hlit, hw1, hw2⟩ := HLK.out.2 _ (nth_mem hjl)
            have hL := lit12 (by
              have h1 := hlit
              simp only [litB, btwB, Bool.or_eq_true, decide_eq_true_eq] at h1 ⊢
              omega : litB (nth lt.lits j).1 12 = true)
            have hL1 : -12 ≤ (nth lt.lits j).1 := by omega
            have hL2 : (nth lt.lits j).1 ≤ 12 := by omega
            have hjn : (j : Int) < (lt.lits.length : Int) := by omega
            have HN := Lib.hid (fun hn => abS_neg hjl hn)
            have HNB := Lib.hid (fun hn => abB_neg hjl hn)
            have HP := Lib.hid (fun hn => abB_pos hjl hn)
            have HZ := Lib.hid (fun hn => abB_zero hjl hn)
            have HM := Lib.hid (fun hn => abS_non hjl hn)
            have HA := Lib.hid hA
            have hb3 : b3 < wo.heap.size := cell_lt v0
            clear hC3 hc3 hL hlit hA
            generalize abS (lt.lits.take j) = sb at *
            generalize abB (lt.lits.take j) = yb at *
            generalize nth lt.lits j = q at *
            obtain ⟨L, W⟩ := q
            dsimp only at v0 v1 hw1 hw2 hL1 hL2 hF1 hF2 HN HNB HP HZ HM
            have hF3 : Fits (-L) := by unfold Fits; omega
            have hF4 : Fits (-W) := by unfold Fits; omega
            have KS : ∀ W', Below wo.heap.size wo W' → (W'.cell? ⟨b3, off3 + j * 2, none⟩ = some (.int .i64 L) ∧ W'.cell? ⟨b3, off3 + j * 2 + 1, none⟩ = some (.int .i64 W)) := fun W' hb => ⟨cell_kept hb v0, cell_kept hb v1⟩
            obtain ⟨s0', s1'⟩ := KS wr HA.out.bel
            have hbr : b3 < wr.heap.size := by omega
            by_cases hpos : 0 < W
            · have hbd := Lib.hid (HM.out (show ¬ W < 0 by omega))
              have hbb := Lib.hid (HP.out hpos)
              have hAd := HA.out.drew
              obtain ⟨g', cap', w9, r9, e4, f4, bw9, hA3⟩ := hAd.push (L, W) hF1 hF2 (by omega)
              have r3 := fun (W' : World) (hW : W'.heap[wo.heap.size]? = some (.cells #[.bool false, .slice none 0 0, .bool true, .int .i64 (cst + 1 + sb), .slice va yb.length vc] 100 (0, 0))) => (show W'.cell? ⟨wo.heap.size, 4, none⟩ = some (.slice va yb.length vc) by rw [cell_of_row W' _ 4 _ _ _ hW]; rfl)
              have hrb := hAd.rb
              have hrb2 := (hAd.alloc (.cells #[.int .i64 L, .int .i64 W] 104)).rb
              have hbe := hAd.bel
              have hbe2 := (hAd.alloc (.cells #[.int .i64 L, .int .i64 W] 104)).bel
              have HF := Lib.hid hA3
              go_upto_region 15 with fail
              clear s0' s1' v0 v1 hA3 hAd
              refine wp_region_held_drew (S := fun W' => W'.cell? ⟨b3, off3 + j * 2, none⟩ = some (.int .i64 L) ∧ W'.cell? ⟨b3, off3 + j * 2 + 1, none⟩ = some (.int .i64 W)) (by kernel_rfl) (KS _ hbe) (fun hHeld => ?_)
              generalize wr.drew = wq at *
              refine takeD (i := 0) (v := .pointer (some ⟨wo.heap.size, 4, none⟩)) (some 77) rfl rfl (by kernel_rfl) (by kernel_rfl) (by kernel_rfl) (fun _ _ _ h => h) (Or.inl ⟨by rfl, fun w' hw' => ?_⟩) hHeld ?_
              · first | (go_simp; done) | (obtain ⟨s0, s1⟩ := hw'; go_simp)
              try simp only [Act.put, List.setIfInBounds_toArray, List.set_cons_zero, List.set_cons_succ]
              refine takeD (i := 2) (v := .slice (some ⟨b3, off3, none⟩) lt.lits.length lc) (some 79) rfl rfl (by kernel_rfl) (by kernel_rfl) (by kernel_rfl) (fun _ _ _ h => h) (Or.inl ⟨by rfl, fun w' hw' => ?_⟩) hHeld ?_
              · first | (go_simp; done) | (obtain ⟨s0, s1⟩ := hw'; go_simp)
              try simp only [Act.put, List.setIfInBounds_toArray, List.set_cons_zero, List.set_cons_succ]
              refine takeD (i := 3) (v := .int .i64 (j : Int)) (some 80) rfl rfl (by kernel_rfl) (by kernel_rfl) (by kernel_rfl) (fun _ _ _ h => h) (Or.inl ⟨by rfl, fun w' hw' => ?_⟩) hHeld ?_
              · first | (go_simp; done) | (obtain ⟨s0, s1⟩ := hw'; go_simp)
              try simp only [Act.put, List.setIfInBounds_toArray, List.set_cons_zero, List.set_cons_succ]
              refine takeD (i := 4) (v := .pointer (some ⟨b3, off3 + j * 2, none⟩)) (some 81) rfl rfl (by kernel_rfl) (by kernel_rfl) (by kernel_rfl) (fun _ _ _ h => h) (Or.inl ⟨by rfl, fun w' hw' => ?_⟩) hHeld ?_
              · first | (go_simp; done) | (obtain ⟨s0, s1⟩ := hw'; go_simp)
              try simp only [Act.put, List.setIfInBounds_toArray, List.set_cons_zero, List.set_cons_succ]
              refine takeD (i := 5) (v := .agg #[.int .i64 L, .int .i64 W]) (some 82) rfl rfl (by kernel_rfl) (by kernel_rfl) (by kernel_rfl) (fun _ _ _ h => h) (Or.inl ⟨by rfl, fun w' hw' => ?_⟩) hHeld ?_
              · first | (go_simp; done) | (obtain ⟨s0, s1⟩ := hw'; go_simp)
              try simp only [Act.put, List.setIfInBounds_toArray, List.set_cons_zero, List.set_cons_succ]
              refine wpAnyH_ready (rs := [1, 6]) (by kernel_rfl) (by simp) ?_
              refine AllReadyH.cons rfl (fun K hK => ?_) (AllReadyH.cons rfl (fun K hK => ?_) AllReadyH.nil)
              · have q3 := r3 _ hrb
                go_simp
                refine hK.out _ _ (KS _ hbe) (fun hHeld => ?_)
                clear hK K
                try simp only [Act.put, List.setIfInBounds_toArray, List.set_cons_zero, List.set_cons_succ]
                refine wpAnyH_ready (rs := [6]) (by kernel_rfl) (by simp) ?_
                refine AllReadyH.cons rfl (fun K hK => ?_) AllReadyH.nil
                go_simp
                refine hK.out _ _ (KS _ hbe2) (fun hHeld => ?_)
                clear hK K
                try simp only [Act.put, List.setIfInBounds_toArray, List.set_cons_zero, List.set_cons_succ]
                refine wpAnyH_ready (rs := [7]) (by kernel_rfl) (by simp) ?_
                refine AllReadyH.cons rfl (fun K hK => ?_) AllReadyH.nil
                refine step_append_of rfl _ _ rfl rfl rfl r9 ?_
                refine hK.out _ _ (KS _ bw9) (fun hHeld => ?_)
                clear hK K
                try simp only [Act.put, List.setIfInBounds_toArray, List.set_cons_zero, List.set_cons_succ]
                refine takeD (i := 8) (v := .pointer (some ⟨wo.heap.size, 4, none⟩)) (some 85) rfl rfl (by kernel_rfl) (by kernel_rfl) (by kernel_rfl) (fun _ _ _ h => h) (Or.inl ⟨by rfl, fun w' hw' => ?_⟩) hHeld ?_
                · first | (go_simp; done) | (obtain ⟨s0, s1⟩ := hw'; go_simp)
                try simp only [Act.put, List.setIfInBounds_toArray, List.set_cons_zero, List.set_cons_succ]
                refine wpAnyH_ready (rs := [9]) (by kernel_rfl) (by simp) ?_
                refine AllReadyH.cons rfl (fun K hK => ?_) AllReadyH.nil
                go_simp
                refine hK.out _ _ (KS _ HF.out.bel) (fun hHeld => ?_)
                clear hK K
                try simp only [Act.put, List.setIfInBounds_toArray, List.set_cons_zero, List.set_cons_succ]
                refine wpAnyH_done (by kernel_rfl) ?_ _
                go_wp2
                go_roundw
                case rel => exact ⟨j + 1, _, by omega, by go_num, by rw [hbd.out, hbb.out]; exact HF.out⟩
                case measure => simp [intOf]; omega
              · go_simp
                refine hK.out _ _ (KS _ hbe2) (fun hHeld => ?_)
                clear hK K
                try simp only [Act.put, List.setIfInBounds_toArray, List.set_cons_zero, List.set_cons_succ]
                refine wpAnyH_ready (rs := [1]) (by kernel_rfl) (by simp) ?_
                refine AllReadyH.cons rfl (fun K hK => ?_) AllReadyH.nil
                have q3 := r3 _ hrb2
                go_simp
                refine hK.out _ _ (KS _ hbe2) (fun hHeld => ?_)
                clear hK K
                try simp only [Act.put, List.setIfInBounds_toArray, List.set_cons_zero, List.set_cons_succ]
                refine wpAnyH_ready (rs := [7]) (by kernel_rfl) (by simp) ?_
                refine AllReadyH.cons rfl (fun K hK => ?_) AllReadyH.nil
                refine step_append_of rfl _ _ rfl rfl rfl r9 ?_
                refine hK.out _ _ (KS _ bw9) (fun hHeld => ?_)
                clear hK K
                try simp only [Act.put, List.setIfInBounds_toArray, List.set_cons_zero, List.set_cons_succ]
                refine takeD (i := 8) (v := .pointer (some ⟨wo.heap.size, 4, none⟩)) (some 85) rfl rfl (by kernel_rfl) (by kernel_rfl) (by kernel_rfl) (fun _ _ _ h => h) (Or.inl ⟨by rfl, fun w' hw' => ?_⟩) hHeld ?_
                · first | (go_simp; done) | (obtain ⟨s0, s1⟩ := hw'; go_simp)
                try simp only [Act.put, List.setIfInBounds_toArray, List.set_cons_zero, List.set_cons_succ]
                refine wpAnyH_ready (rs := [9]) (by kernel_rfl) (by simp) ?_
                refine AllReadyH.cons rfl (fun K hK => ?_) AllReadyH.nil
                go_simp
                refine hK.out _ _ (KS _ HF.out.bel) (fun hHeld => ?_)
                clear hK K
                try simp only [Act.put, List.setIfInBounds_toArray, List.set_cons_zero, List.set_cons_succ]
                refine wpAnyH_done (by kernel_rfl) ?_ _
                go_wp2
                go_roundw
                case rel => exact ⟨j + 1, _, by omega, by go_num, by rw [hbd.out, hbb.out]; exact HF.out⟩
                case measure => simp [intOf]; omega
            · by_cases hneg : W < 0
              · have hbd := Lib.hid (HN.out hneg)
                have hbb := Lib.hid (HNB.out hneg)
                have hAd := HA.out.drew
                obtain ⟨g', cap', w9, r9, e4, f4, bw9, hA3⟩ := hAd.push (-L, -W) hF3 hF4 (by omega)
                have r3 := fun (W' : World) (hW : W'.heap[wo.heap.size]? = some (.cells #[.bool false, .slice none 0 0, .bool true, .int .i64 (cst + 1 + sb), .slice va yb.length vc] 100 (0, 0))) => (show W'.cell? ⟨wo.heap.size, 4, none⟩ = some (.slice va yb.length vc) by rw [cell_of_row W' _ 4 _ _ _ hW]; rfl)
                have hrb := hAd.rb
                have hrb2 := (hAd.alloc (.cells #[.int .i64 (-L), .int .i64 (-W)] 104)).rb
                have hbe := hAd.bel
                have hbe2 := (hAd.alloc (.cells #[.int .i64 (-L), .int .i64 (-W)] 104)).bel
                have HF := Lib.hid hA3
                have hwL : IntKind.i64.wrap (-L) = -L := IntWalk.i64_in _ (by omega)
                have hwW : IntKind.i64.wrap (-W) = -W := IntWalk.i64_in _ (by omega)
                have hwS : IntKind.i64.wrap (cst + 1 + sb - W) = cst + 1 + sb - W := IntWalk.i64_in _ (by omega)
                go_upto_region 17 with fail
                clear s0' s1' v0 v1 hA3 hAd
                refine wp_region_held_drew (S := fun W' => W'.cell? ⟨b3, off3 + j * 2, none⟩ = some (.int .i64 L) ∧ W'.cell? ⟨b3, off3 + j * 2 + 1, none⟩ = some (.int .i64 W)) (by kernel_rfl) (KS _ hbe) (fun hHeld => ?_)
                generalize wr.drew = wq at *
                refine takeD (i := 0) (v := .pointer (some ⟨wo.heap.size, 4, none⟩)) (some 93) rfl rfl (by kernel_rfl) (by kernel_rfl) (by kernel_rfl) (fun _ _ _ h => h) (Or.inl ⟨by rfl, fun w' hw' => ?_⟩) hHeld ?_
                · first | (go_simp; done) | (obtain ⟨s0, s1⟩ := hw'; go_simp)
                try simp only [Act.put, List.setIfInBounds_toArray, List.set_cons_zero, List.set_cons_succ]
                refine takeD (i := 2) (v := .slice (some ⟨b3, off3, none⟩) lt.lits.length lc) (some 95) rfl rfl (by kernel_rfl) (by kernel_rfl) (by kernel_rfl) (fun _ _ _ h => h) (Or.inl ⟨by rfl, fun w' hw' => ?_⟩) hHeld ?_
                · first | (go_simp; done) | (obtain ⟨s0, s1⟩ := hw'; go_simp)
                try simp only [Act.put, List.setIfInBounds_toArray, List.set_cons_zero, List.set_cons_succ]
                refine takeD (i := 3) (v := .int .i64 (j : Int)) (some 96) rfl rfl (by kernel_rfl) (by kernel_rfl) (by kernel_rfl) (fun _ _ _ h => h) (Or.inl ⟨by rfl, fun w' hw' => ?_⟩) hHeld ?_
                · first | (go_simp; done) | (obtain ⟨s0, s1⟩ := hw'; go_simp)
                try simp only [Act.put, List.setIfInBounds_toArray, List.set_cons_zero, List.set_cons_succ]
                refine takeD (i := 4) (v := .pointer (some ⟨b3, off3 + j * 2, none⟩)) (some 97) rfl rfl (by kernel_rfl) (by kernel_rfl) (by kernel_rfl) (fun _ _ _ h => h) (Or.inl ⟨by rfl, fun w' hw' => ?_⟩) hHeld ?_
                · first | (go_simp; done) | (obtain ⟨s0, s1⟩ := hw'; go_simp)
                try simp only [Act.put, List.setIfInBounds_toArray, List.set_cons_zero, List.set_cons_succ]
                refine takeD (i := 5) (v := .pointer (some ⟨b3, off3 + j * 2, none⟩)) (some 98) rfl rfl (by kernel_rfl) (by kernel_rfl) (by kernel_rfl) (fun _ _ _ h => h) (Or.inl ⟨by rfl, fun w' hw' => ?_⟩) hHeld ?_
                · first | (go_simp; done) | (obtain ⟨s0, s1⟩ := hw'; go_simp)
                try simp only [Act.put, List.setIfInBounds_toArray, List.set_cons_zero, List.set_cons_succ]
                refine takeD (i := 6) (v := .int .i64 L) (some 99) rfl rfl (by kernel_rfl) (by kernel_rfl) (by kernel_rfl) (fun _ _ _ h => h) (Or.inl ⟨by rfl, fun w' hw' => ?_⟩) hHeld ?_
                · first | (go_simp; done) | (obtain ⟨s0, s1⟩ := hw'; go_simp)
                try simp only [Act.put, List.setIfInBounds_toArray, List.set_cons_zero, List.set_cons_succ]
                refine takeD (i := 7) (v := .int .i64 (-L)) (some 100) rfl rfl (by kernel_rfl) (by kernel_rfl) (by kernel_rfl) (fun _ _ _ h => h) (Or.inl ⟨by rfl, fun w' hw' => ?_⟩) hHeld ?_
                · first | (go_simp; done) | (obtain ⟨s0, s1⟩ := hw'; go_simp)
                try simp only [Act.put, List.setIfInBounds_toArray, List.set_cons_zero, List.set_cons_succ]
                refine takeD (i := 8) (v := .slice (some ⟨b3, off3, none⟩) lt.lits.length lc) (some 101) rfl rfl (by kernel_rfl) (by kernel_rfl) (by kernel_rfl) (fun _ _ _ h => h) (Or.inl ⟨by rfl, fun w' hw' => ?_⟩) hHeld ?_
                · first | (go_simp; done) | (obtain ⟨s0, s1⟩ := hw'; go_simp)
                try simp only [Act.put, List.setIfInBounds_toArray, List.set_cons_zero, List.set_cons_succ]
                refine takeD (i := 9) (v := .int .i64 (j : Int)) (some 102) rfl rfl (by kernel_rfl) (by kernel_rfl) (by kernel_rfl) (fun _ _ _ h => h) (Or.inl ⟨by rfl, fun w' hw' => ?_⟩) hHeld ?_
                · first | (go_simp; done) | (obtain ⟨s0, s1⟩ := hw'; go_simp)
                try simp only [Act.put, List.setIfInBounds_toArray, List.set_cons_zero, List.set_cons_succ]
                refine takeD (i := 10) (v := .pointer (some ⟨b3, off3 + j * 2, none⟩)) (some 103) rfl rfl (by kernel_rfl) (by kernel_rfl) (by kernel_rfl) (fun _ _ _ h => h) (Or.inl ⟨by rfl, fun w' hw' => ?_⟩) hHeld ?_
                · first | (go_simp; done) | (obtain ⟨s0, s1⟩ := hw'; go_simp)
                try simp only [Act.put, List.setIfInBounds_toArray, List.set_cons_zero, List.set_cons_succ]
                refine takeD (i := 11) (v := .pointer (some ⟨b3, off3 + j * 2 + 1, none⟩)) (some 104) rfl rfl (by kernel_rfl) (by kernel_rfl) (by kernel_rfl) (fun _ _ _ h => h) (Or.inl ⟨by rfl, fun w' hw' => ?_⟩) hHeld ?_
                · first | (go_simp; done) | (obtain ⟨s0, s1⟩ := hw'; go_simp)
                try simp only [Act.put, List.setIfInBounds_toArray, List.set_cons_zero, List.set_cons_succ]
                refine takeD (i := 12) (v := .int .i64 W) (some 105) rfl rfl (by kernel_rfl) (by kernel_rfl) (by kernel_rfl) (fun _ _ _ h => h) (Or.inl ⟨by rfl, fun w' hw' => ?_⟩) hHeld ?_
                · first | (go_simp; done) | (obtain ⟨s0, s1⟩ := hw'; go_simp)
                try simp only [Act.put, List.setIfInBounds_toArray, List.set_cons_zero, List.set_cons_succ]
                refine takeD (i := 13) (v := .int .i64 (-W)) (some 106) rfl rfl (by kernel_rfl) (by kernel_rfl) (by kernel_rfl) (fun _ _ _ h => h) (Or.inl ⟨by rfl, fun w' hw' => ?_⟩) hHeld ?_
                · first | (go_simp; done) | (obtain ⟨s0, s1⟩ := hw'; go_simp)
                try simp only [Act.put, List.setIfInBounds_toArray, List.set_cons_zero, List.set_cons_succ]
                refine takeD (i := 14) (v := .agg #[.int .i64 (-L), .int .i64 (-W)]) (some 107) rfl rfl (by kernel_rfl) (by kernel_rfl) (by kernel_rfl) (fun _ _ _ h => h) (Or.inl ⟨by rfl, fun w' hw' => ?_⟩) hHeld ?_
                · first | (go_simp; done) | (obtain ⟨s0, s1⟩ := hw'; go_simp)
                try simp only [Act.put, List.setIfInBounds_toArray, List.set_cons_zero, List.set_cons_succ]
                refine wpAnyH_ready (rs := [1, 15]) (by kernel_rfl) (by simp) ?_
                refine AllReadyH.cons rfl (fun K hK => ?_) (AllReadyH.cons rfl (fun K hK => ?_) AllReadyH.nil)
                · have q3 := r3 _ hrb
                  go_simp
                  refine hK.out _ _ (KS _ hbe) (fun hHeld => ?_)
                  clear hK K
                  try simp only [Act.put, List.setIfInBounds_toArray, List.set_cons_zero, List.set_cons_succ]
                  refine wpAnyH_ready (rs := [15]) (by kernel_rfl) (by simp) ?_
                  refine AllReadyH.cons rfl (fun K hK => ?_) AllReadyH.nil
                  go_simp
                  refine hK.out _ _ (KS _ hbe2) (fun hHeld => ?_)
                  clear hK K
                  try simp only [Act.put, List.setIfInBounds_toArray, List.set_cons_zero, List.set_cons_succ]
                  refine wpAnyH_ready (rs := [16]) (by kernel_rfl) (by simp) ?_
                  refine AllReadyH.cons rfl (fun K hK => ?_) AllReadyH.nil
                  refine step_append_of rfl _ _ rfl rfl rfl r9 ?_
                  refine hK.out _ _ (KS _ bw9) (fun hHeld => ?_)
                  clear hK K
                  try simp only [Act.put, List.setIfInBounds_toArray, List.set_cons_zero, List.set_cons_succ]
                  refine takeD (i := 17) (v := .pointer (some ⟨wo.heap.size, 4, none⟩)) (some 110) rfl rfl (by kernel_rfl) (by kernel_rfl) (by kernel_rfl) (fun _ _ _ h => h) (Or.inl ⟨by rfl, fun w' hw' => ?_⟩) hHeld ?_
                  · first | (go_simp; done) | (obtain ⟨s0, s1⟩ := hw'; go_simp)
                  try simp only [Act.put, List.setIfInBounds_toArray, List.set_cons_zero, List.set_cons_succ]
                  refine wpAnyH_ready (rs := [18]) (by kernel_rfl) (by simp) ?_
                  refine AllReadyH.cons rfl (fun K hK => ?_) AllReadyH.nil
                  go_simp
                  refine hK.out _ _ (KS _ HF.out.bel) (fun hHeld => ?_)
                  clear hK K
                  try simp only [Act.put, List.setIfInBounds_toArray, List.set_cons_zero, List.set_cons_succ]
                  refine wpAnyH_done (by kernel_rfl) ?_ _
                  clear hrb hrb2 hbe hbe2 e4 f4 bw9 r9 hHeld
                  generalize w9.setCell ⟨wo.heap.size, 4, none⟩ (.slice (some ⟨g', 0, none⟩) (yb.length + 1) cap') = wz at *
                  go_upto_region 18 with fail
                  have hBz := HF.out.drew
                  have HFz := Lib.hid (hBz.bound (cst + 1 + sb - W))
                  have hbz := hBz.bel
                  have hrz := hBz.rb
                  have q5 : wz.drew.cell? ⟨wo.heap.size, 3, none⟩ = some (.int .i64 (cst + 1 + sb)) := by rw [cell_of_row _ _ 3 _ _ _ hrz]; rfl
                  have f5 := frozen_of_row wz.drew wo.heap.size 3 _ _ hrz
                  refine wp_region_held_drew (S := fun W' => W'.cell? ⟨b3, off3 + j * 2, none⟩ = some (.int .i64 L) ∧ W'.cell? ⟨b3, off3 + j * 2 + 1, none⟩ = some (.int .i64 W)) (by kernel_rfl) (KS _ hbz) (fun hHeld => ?_)
                  clear hBz hrz
                  generalize wz.drew = wy at *
                  refine takeD (i := 0) (v := .pointer (some ⟨wo.heap.size, 3, none⟩)) (some 111) rfl rfl (by kernel_rfl) (by kernel_rfl) (by kernel_rfl) (fun _ _ _ h => h) (Or.inl ⟨by rfl, fun w' hw' => ?_⟩) hHeld ?_
                  · first | (go_simp; done) | (obtain ⟨s0, s1⟩ := hw'; go_simp)
                  try simp only [Act.put, List.setIfInBounds_toArray, List.set_cons_zero, List.set_cons_succ]
                  refine takeD (i := 2) (v := .slice (some ⟨b3, off3, none⟩) lt.lits.length lc) (some 113) rfl rfl (by kernel_rfl) (by kernel_rfl) (by kernel_rfl) (fun _ _ _ h => h) (Or.inl ⟨by rfl, fun w' hw' => ?_⟩) hHeld ?_
                  · first | (go_simp; done) | (obtain ⟨s0, s1⟩ := hw'; go_simp)
                  try simp only [Act.put, List.setIfInBounds_toArray, List.set_cons_zero, List.set_cons_succ]
                  refine takeD (i := 3) (v := .int .i64 (j : Int)) (some 114) rfl rfl (by kernel_rfl) (by kernel_rfl) (by kernel_rfl) (fun _ _ _ h => h) (Or.inl ⟨by rfl, fun w' hw' => ?_⟩) hHeld ?_
                  · first | (go_simp; done) | (obtain ⟨s0, s1⟩ := hw'; go_simp)
                  try simp only [Act.put, List.setIfInBounds_toArray, List.set_cons_zero, List.set_cons_succ]
                  refine takeD (i := 4) (v := .pointer (some ⟨b3, off3 + j * 2, none⟩)) (some 115) rfl rfl (by kernel_rfl) (by kernel_rfl) (by kernel_rfl) (fun _ _ _ h => h) (Or.inl ⟨by rfl, fun w' hw' => ?_⟩) hHeld ?_
                  · first | (go_simp; done) | (obtain ⟨s0, s1⟩ := hw'; go_simp)
                  try simp only [Act.put, List.setIfInBounds_toArray, List.set_cons_zero, List.set_cons_succ]
                  refine takeD (i := 5) (v := .pointer (some ⟨b3, off3 + j * 2 + 1, none⟩)) (some 116) rfl rfl (by kernel_rfl) (by kernel_rfl) (by kernel_rfl) (fun _ _ _ h => h) (Or.inl ⟨by rfl, fun w' hw' => ?_⟩) hHeld ?_
                  · first | (go_simp; done) | (obtain ⟨s0, s1⟩ := hw'; go_simp)
                  try simp only [Act.put, List.setIfInBounds_toArray, List.set_cons_zero, List.set_cons_succ]
                  refine takeD (i := 6) (v := .int .i64 W) (some 117) rfl rfl (by kernel_rfl) (by kernel_rfl) (by kernel_rfl) (fun _ _ _ h => h) (Or.inl ⟨by rfl, fun w' hw' => ?_⟩) hHeld ?_
                  · first | (go_simp; done) | (obtain ⟨s0, s1⟩ := hw'; go_simp)
                  try simp only [Act.put, List.setIfInBounds_toArray, List.set_cons_zero, List.set_cons_succ]
                  refine wpAnyH_ready (rs := [1]) (by kernel_rfl) (by simp) ?_
                  refine AllReadyH.cons rfl (fun K hK => ?_) AllReadyH.nil
                  go_simp
                  refine hK.out _ _ (KS _ hbz) (fun hHeld => ?_)
                  clear hK K
                  try simp only [Act.put, List.setIfInBounds_toArray, List.set_cons_zero, List.set_cons_succ]
                  refine takeD (i := 7) (v := .int .i64 (cst + 1 + sb - W)) (some 118) rfl rfl (by kernel_rfl) (by kernel_rfl) (by kernel_rfl) (fun _ _ _ h => h) (Or.inl ⟨by rfl, fun w' hw' => ?_⟩) hHeld ?_
                  · first | (go_simp; done) | (obtain ⟨s0, s1⟩ := hw'; go_simp)
                  try simp only [Act.put, List.setIfInBounds_toArray, List.set_cons_zero, List.set_cons_succ]
                  refine takeD (i := 8) (v := .pointer (some ⟨wo.heap.size, 3, none⟩)) (some 119) rfl rfl (by kernel_rfl) (by kernel_rfl) (by kernel_rfl) (fun _ _ _ h => h) (Or.inl ⟨by rfl, fun w' hw' => ?_⟩) hHeld ?_
                  · first | (go_simp; done) | (obtain ⟨s0, s1⟩ := hw'; go_simp)
                  try simp only [Act.put, List.setIfInBounds_toArray, List.set_cons_zero, List.set_cons_succ]
                  refine wpAnyH_ready (rs := [9]) (by kernel_rfl) (by simp) ?_
                  refine AllReadyH.cons rfl (fun K hK => ?_) AllReadyH.nil
                  go_simp
                  refine hK.out _ _ (KS _ HFz.out.bel) (fun hHeld => ?_)
                  clear hK K
                  try simp only [Act.put, List.setIfInBounds_toArray, List.set_cons_zero, List.set_cons_succ]
                  refine wpAnyH_done (by kernel_rfl) ?_ _
                  go_wp2
                  go_roundw
                  case rel => exact ⟨j + 1, _, by omega, by go_num, by rw [hbd.out, hbb.out, show cst + 1 + (sb + -W) = cst + 1 + sb - W by omega]; exact HFz.out⟩
                  case measure => simp [intOf]; omega
                · go_simp
                  refine hK.out _ _ (KS _ hbe2) (fun hHeld => ?_)
                  clear hK K
                  try simp only [Act.put, List.setIfInBounds_toArray, List.set_cons_zero, List.set_cons_succ]
                  refine wpAnyH_ready (rs := [1]) (by kernel_rfl) (by simp) ?_
                  refine AllReadyH.cons rfl (fun K hK => ?_) AllReadyH.nil
                  have q3 := r3 _ hrb2
                  go_simp
                  refine hK.out _ _ (KS _ hbe2) (fun hHeld => ?_)
                  clear hK K
                  try simp only [Act.put, List.setIfInBounds_toArray, List.set_cons_zero, List.set_cons_succ]
                  refine wpAnyH_ready (rs := [16]) (by kernel_rfl) (by simp) ?_
                  refine AllReadyH.cons rfl (fun K hK => ?_) AllReadyH.nil
                  refine step_append_of rfl _ _ rfl rfl rfl r9 ?_
                  refine hK.out _ _ (KS _ bw9) (fun hHeld => ?_)
                  clear hK K
                  try simp only [Act.put, List.setIfInBounds_toArray, List.set_cons_zero, List.set_cons_succ]
                  refine takeD (i := 17) (v := .pointer (some ⟨wo.heap.size, 4, none⟩)) (some 110) rfl rfl (by kernel_rfl) (by kernel_rfl) (by kernel_rfl) (fun _ _ _ h => h) (Or.inl ⟨by rfl, fun w' hw' => ?_⟩) hHeld ?_
                  · first | (go_simp; done) | (obtain ⟨s0, s1⟩ := hw'; go_simp)
                  try simp only [Act.put, List.setIfInBounds_toArray, List.set_cons_zero, List.set_cons_succ]
                  refine wpAnyH_ready (rs := [18]) (by kernel_rfl) (by simp) ?_
                  refine AllReadyH.cons rfl (fun K hK => ?_) AllReadyH.nil
                  go_simp
                  refine hK.out _ _ (KS _ HF.out.bel) (fun hHeld => ?_)
                  clear hK K
                  try simp only [Act.put, List.setIfInBounds_toArray, List.set_cons_zero, List.set_cons_succ]
                  refine wpAnyH_done (by kernel_rfl) ?_ _
                  clear hrb hrb2 hbe hbe2 e4 f4 bw9 r9 hHeld
                  generalize w9.setCell ⟨wo.heap.size, 4, none⟩ (.slice (some ⟨g', 0, none⟩) (yb.length + 1) cap') = wz at *
                  go_upto_region 18 with fail
                  have hBz := HF.out.drew
                  have HFz := Lib.hid (hBz.bound (cst + 1 + sb - W))
                  have hbz := hBz.bel
                  have hrz := hBz.rb
                  have q5 : wz.drew.cell? ⟨wo.heap.size, 3, none⟩ = some (.int .i64 (cst + 1 + sb)) := by rw [cell_of_row _ _ 3 _ _ _ hrz]; rfl
                  have f5 := frozen_of_row wz.drew wo.heap.size 3 _ _ hrz
                  refine wp_region_held_drew (S := fun W' => W'.cell? ⟨b3, off3 + j * 2, none⟩ = some (.int .i64 L) ∧ W'.cell? ⟨b3, off3 + j * 2 + 1, none⟩ = some (.int .i64 W)) (by kernel_rfl) (KS _ hbz) (fun hHeld => ?_)
                  clear hBz hrz
                  generalize wz.drew = wy at *
                  refine takeD (i := 0) (v := .pointer (some ⟨wo.heap.size, 3, none⟩)) (some 111) rfl rfl (by kernel_rfl) (by kernel_rfl) (by kernel_rfl) (fun _ _ _ h => h) (Or.inl ⟨by rfl, fun w' hw' => ?_⟩) hHeld ?_
                  · first | (go_simp; done) | (obtain ⟨s0, s1⟩ := hw'; go_simp)
                  try simp only [Act.put, List.setIfInBounds_toArray, List.set_cons_zero, List.set_cons_succ]
                  refine takeD (i := 2) (v := .slice (some ⟨b3, off3, none⟩) lt.lits.length lc) (some 113) rfl rfl (by kernel_rfl) (by kernel_rfl) (by kernel_rfl) (fun _ _ _ h => h) (Or.inl ⟨by rfl, fun w' hw' => ?_⟩) hHeld ?_
                  · first | (go_simp; done) | (obtain ⟨s0, s1⟩ := hw'; go_simp)
                  try simp only [Act.put, List.setIfInBounds_toArray, List.set_cons_zero, List.set_cons_succ]
                  refine takeD (i := 3) (v := .int .i64 (j : Int)) (some 114) rfl rfl (by kernel_rfl) (by kernel_rfl) (by kernel_rfl) (fun _ _ _ h => h) (Or.inl ⟨by rfl, fun w' hw' => ?_⟩) hHeld ?_
                  · first | (go_simp; done) | (obtain ⟨s0, s1⟩ := hw'; go_simp)
                  try simp only [Act.put, List.setIfInBounds_toArray, List.set_cons_zero, List.set_cons_succ]
                  refine takeD (i := 4) (v := .pointer (some ⟨b3, off3 + j * 2, none⟩)) (some 115) rfl rfl (by kernel_rfl) (by kernel_rfl) (by kernel_rfl) (fun _ _ _ h => h) (Or.inl ⟨by rfl, fun w' hw' => ?_⟩) hHeld ?_
                  · first | (go_simp; done) | (obtain ⟨s0, s1⟩ := hw'; go_simp)
                  try simp only [Act.put, List.setIfInBounds_toArray, List.set_cons_zero, List.set_cons_succ]
                  refine takeD (i := 5) (v := .pointer (some ⟨b3, off3 + j * 2 + 1, none⟩)) (some 116) rfl rfl (by kernel_rfl) (by kernel_rfl) (by kernel_rfl) (fun _ _ _ h => h) (Or.inl ⟨by rfl, fun w' hw' => ?_⟩) hHeld ?_
                  · first | (go_simp; done) | (obtain ⟨s0, s1⟩ := hw'; go_simp)
                  try simp only [Act.put, List.setIfInBounds_toArray, List.set_cons_zero, List.set_cons_succ]
                  refine takeD (i := 6) (v := .int .i64 W) (some 117) rfl rfl (by kernel_rfl) (by kernel_rfl) (by kernel_rfl) (fun _ _ _ h => h) (Or.inl ⟨by rfl, fun w' hw' => ?_⟩) hHeld ?_
                  · first | (go_simp; done) | (obtain ⟨s0, s1⟩ := hw'; go_simp)
                  try simp only [Act.put, List.setIfInBounds_toArray, List.set_cons_zero, List.set_cons_succ]
                  refine wpAnyH_ready (rs := [1]) (by kernel_rfl) (by simp) ?_
                  refine AllReadyH.cons rfl (fun K hK => ?_) AllReadyH.nil
                  go_simp
                  refine hK.out _ _ (KS _ hbz) (fun hHeld => ?_)
                  clear hK K
                  try simp only [Act.put, List.setIfInBounds_toArray, List.set_cons_zero, List.set_cons_succ]
                  refine takeD (i := 7) (v := .int .i64 (cst + 1 + sb - W)) (some 118) rfl rfl (by kernel_rfl) (by kernel_rfl) (by kernel_rfl) (fun _ _ _ h => h) (Or.inl ⟨by rfl, fun w' hw' => ?_⟩) hHeld ?_
                  · first | (go_simp; done) | (obtain ⟨s0, s1⟩ := hw'; go_simp)
                  try simp only [Act.put, List.setIfInBounds_toArray, List.set_cons_zero, List.set_cons_succ]
                  refine takeD (i := 8) (v := .pointer (some ⟨wo.heap.size, 3, none⟩)) (some 119) rfl rfl (by kernel_rfl) (by kernel_rfl) (by kernel_rfl) (fun _ _ _ h => h) (Or.inl ⟨by rfl, fun w' hw' => ?_⟩) hHeld ?_
                  · first | (go_simp; done) | (obtain ⟨s0, s1⟩ := hw'; go_simp)
                  try simp only [Act.put, List.setIfInBounds_toArray, List.set_cons_zero, List.set_cons_succ]
                  refine wpAnyH_ready (rs := [9]) (by kernel_rfl) (by simp) ?_
                  refine AllReadyH.cons rfl (fun K hK => ?_) AllReadyH.nil
                  go_simp
                  refine hK.out _ _ (KS _ HFz.out.bel) (fun hHeld => ?_)
                  clear hK K
                  try simp only [Act.put, List.setIfInBounds_toArray, List.set_cons_zero, List.set_cons_succ]
                  refine wpAnyH_done (by kernel_rfl) ?_ _
                  go_wp2
                  go_roundw
                  case rel => exact ⟨j + 1, _, by omega, by go_num, by rw [hbd.out, hbb.out, show cst + 1 + (sb + -W) = cst + 1 + sb - W by omega]; exact HFz.out⟩
                  case measure => simp [intOf]; omega
              · have hW0 : W = 0 := by omega
                have hbd := Lib.hid (HM.out hneg)
                have hbb := Lib.hid (HZ.out hW0)
                subst hW0
                clear hneg hpos
                go_wp2
                go_roundw
                case rel => exact ⟨j + 1, _, by omega, by go_num, by rw [hbd.out, hbb.out]; exact HA.out⟩
                case measure => simp [intOf]; omega
          · have htk : lt.lits.take j = lt.lits := List.take_of_length_le (by omega)
            rw [htk] at hA hb0 hb1
            have hvl : (abB lt.lits).length = (aboveR cst lt).body.length := rfl
            rw [hvl] at hA
            have hA : ABs wo (aboveR cst lt).bound (aboveR cst lt).body (.slice va (aboveR cst lt).body.length vc) wr := hA
            have hfit : Fits (aboveR cst lt).bound := by show Fits (cst + 1 + abS lt.lits); unfold Fits; omega
            have hBr := hBI.later hA.bel
            have hE : aboveR (nth xs k) (nth p.levels.reverse k) = aboveR cst lt := by rw [HLT.out, HCST.out]; rfl
            obtain ⟨r0, r1, r2, r3, r4⟩ := cells5 (w := wr) (b := wo.heap.size) (fun j u hu => by rw [Nat.zero_add, cell_of_row wr _ j _ _ _ hA.rb]; simpa using hu)
            have hlr5 := block_lt hA.rb
            have hc1 : wr.cell? ⟨w3.heap.size, 1, none⟩ = some c1' := by rw [cell_of_row _ _ 1 _ _ _ hBr.box]; rfl
            have hl31 := block_lt hBr.box
            cases hQ : abOk (aboveR cst lt)
            · have hb0 := HF.out k hlt (by rw [hE]; exact hQ)
              have hr := Lib.hid (bndR_no hb0)
              have hb := Lib.hid hb0
              have HQ : Hid (btwB (aboveR cst lt).bound (-100000) 100000 = false) := hQ
              have tz := hBr.bel
              have hz1 := hBr.zb
              have hfz := fun j => frozen_of_row wr (w.heap.size + 1) j _ _ hz1
              have hzl := block_lt hz1
              obtain ⟨z0, z1, z2, z3, z4, z5, z6, z7⟩ := cells8 (w := wr) (b := w.heap.size + 1) (fun j u hu => by rw [Nat.zero_add, cell_of_row wr _ j _ _ _ hz1]; simpa using hu)
              clear hb0 hQ hBr hBI hab hall hA hvl htk hE
              generalize aboveR cst lt = ar at *
              go_wp2_with (go_at_call 65; refine (between_calls _ _ _ _).mono ?_; rintro e w' ⟨rfl, rfl⟩; rw [HQ.out])
              exact bodyPost_ret (v := .tuple #[.agg #[.int .i64 0, .slice none 0 0, .slice none 0 0, .bool false, .slice none 0 0, .slice none 0 0, .slice none 0 0, .slice none 0 0], .bool false])
                (by simp [results, Tryz.results17, go_sem, z0, z1, z2, z3, z4, z5, z6, z7]) rfl ⟨_, by rw [hb.out], by rw [hr.out]; exact own_zero _ _, by
                  repeat (refine Below.setCell ?_ (by simp; try omega) _)
                  exact tz⟩
            · have HQ : Hid (btwB (aboveR cst lt).bound (-100000) 100000 = true) := hQ
              have hnD : ¬ D w.heap.size := fun hd => by
                obtain ⟨_, _, _, _, _, hlo⟩ := hBI.pr
                have := hlo _ hd
                omega
              have hab2 : Hid ((abRules (xs.take (k + 1)) (p.levels.reverse.take (k + 1))).all abOk = true) := by
                show _ = _
                rw [abR_take hlt hkl, List.all_append, hab, hE]
                simp [hQ]
              have bA2 := hA.bel.alloc hA.bel.size (.cells #[.bool false, .slice none 0 0, .bool true, .int .i64 (aboveR cst lt).bound, .slice va (aboveR cst lt).body.length vc] 100)
              have hO2 := (hA.alloc (.cells #[.bool false, .slice none 0 0, .bool true, .int .i64 (aboveR cst lt).bound, .slice va (aboveR cst lt).body.length vc] 100)).rule hfit
              rw [← hE] at hO2
              have hC2 := Cells.new wr [.bool false, .slice none 0 0, .bool true, .int .i64 (aboveR cst lt).bound, .slice va (aboveR cst lt).body.length vc] 100
              have hO2' : Own wo.heap.size (wr.alloc (.cells #[.bool false, .slice none 0 0, .bool true, .int .i64 (aboveR cst lt).bound, .slice va (aboveR cst lt).body.length vc] 100)) [.bool false, .slice none 0 0, .bool true, .int .i64 (aboveR cst lt).bound, .slice va (aboveR cst lt).body.length vc] (aboveR (nth xs k) (nth p.levels.reverse k)) := by rw [hE] at hO2 ⊢; exact hO2
              obtain ⟨a9, n9, w9, D9, r9, f9, hc9, hk9, hB9⟩ := hBI.push bA2 hlt hkl hC2 hO2' hpr (by omega)
              have hpw : Hid ((w9.setCell ⟨w3.heap.size, 1, none⟩ (.slice a9 (p.rules.length + (k + 1)) n9)).heap[w.heap.size]? = some (.cells #[.int .i64 p.atoms, .slice a1 p.rules.length q1, .slice (some ⟨b2, off2, none⟩) p.levels.length q2, .bool p.projOn, p4, p5, p6, p7] 40 (0, 0))) :=
                (Below.heap_setCell _ _ _ _ (by simp; omega)).trans ((hk9 w.heap.size (Nat.lt_of_lt_of_le (block_lt hpb) bA2.size) hnD).trans ((bA2.block _ (block_lt hpb)).trans hpb))
              have ff := f9 1
              have HB9 := Lib.hid hB9
              clear hQ hBr hBI hab hall hA hvl htk hE hO2 hO2' hC2 bA2 hB9 hk9 hnD f9
              generalize aboveR cst lt = ar at *
              go_wp2_with (first | (go_at_call 65; refine (between_calls _ _ _ _).mono ?_; rintro e w' ⟨rfl, rfl⟩; rw [HQ.out]) | (at_builtin; refine wpList_append_of rfl _ _ rfl rfl rfl r9 ?_))
              go_roundw
              case rel => exact ⟨k + 1, _, D9, by omega, by go_num, HB9.out, HALL.out, hab2.out, hpw.out⟩
              case measure => simp [intOf]; omega
    · obtain rfl : k = xs.length := by omega
      have htx : xs.take xs.length = xs := List.take_of_length_le (by omega)
      have htl : p.levels.reverse.take xs.length = p.levels.reverse := List.take_of_length_le (by rw [List.length_reverse, ← HLEN.out]; omega)
      rw [htx] at hall
      rw [htx, htl] at hab
      have hbd := HG.out hall hab
      have hPR := hBI.pr
      rw [htx, htl] at hPR
      have hPR : OwnPR w1.heap.size w3.heap.size D wo c1' c2 c4 c5 c6 c7 (bndD p xs) := hPR
      have one := Rd.one hPR.own.rd
      have st1 := sto Tryz.prog (one c1' (by simp))
      have st2 := sto Tryz.prog (one c2 (by simp))
      have st4 := sto Tryz.prog (one c4 (by simp))
      have st5 := sto Tryz.prog (one c5 (by simp))
      have st6 := sto Tryz.prog (one c6 (by simp))
      have st7 := sto Tryz.prog (one c7 (by simp))
      have hbx := hBI.box
      have hz1 := hBI.zb
      have hbl := hBI.bel
      have hnD : ¬ D (w.heap.size + 1) := fun hd => by
        obtain ⟨_, _, _, _, _, hlo⟩ := hPR
        have := hlo _ hd
        omega
      obtain ⟨x0, x1, x2, x3, x4, x5, x6, x7⟩ := cells8 (w := wo) (b := w3.heap.size) (fun j u hu => by rw [Nat.zero_add, cell_of_row wo _ j _ _ _ hbx]; simpa using hu)
      have hfz := fun j => frozen_of_row wo (w.heap.size + 1) j _ _ hz1
      have hzl := block_lt hz1
      obtain ⟨z0, z1, z2, z3, z4, z5, z6, z7⟩ := cells8 (w := wo) (b := w.heap.size + 1) (fun j u hu => by rw [Nat.zero_add, cell_of_row wo _ j _ _ _ hz1]; simpa using hu)
      have hr := Lib.hid (bndR_yes hbd)
      have hb := Lib.hid hbd
      clear htx htl hBI hall hab hbd hlt one
      go_wp2
      refine bodyPost_ret (v := .tuple #[.agg #[.int .i64 p.atoms, c1', c2, .bool p.projOn, c4, c5, c6, c7], .bool true])
        (by simp [results, Tryz.results17, go_sem, z0, z1, z2, z3, z4, z5, z6, z7]) rfl ⟨[.int .i64 p.atoms, c1', c2, .bool p.projOn, c4, c5, c6, c7], by rw [hb.out], ?_, ?_⟩
      · rw [hr.out]
        have hfin := fun (W : World) (hW : OwnPR w1.heap.size w3.heap.size D W c1' c2 c4 c5 c6 c7 (bndD p xs)) => hW.own
        refine (hfin _ ?_).mono (by omega)
        repeat (refine OwnPR.far ?_ hnD (.inl (by show w.heap.size + 1 < _; omega)) _)
        exact hPR
      · repeat (refine Below.setCell ?_ (by simp; try omega) _)
        exact hbl

end Go.Proofs.YtiemlklngmifdaaGreat
