/-
  impl.Bounded: what it answers. No condition of its own.
-/
import Derived.Test.YtiemlklngmifdaaGreatBndI
import Derived.Test.YtiemlklngmifdaaGreatBothI
namespace Go.Proofs.YtiemlklngmifdaaGreat
set_option linter.unusedVariables false
set_option linter.unusedSimpArgs false
open Go.RowKit
set_option maxRecDepth 100000

theorem abR_take {cs : List Int} {ls : List LevelD} {k : Nat} (h1 : k < cs.length) (h2 : k < ls.length) : abRules (cs.take (k + 1)) (ls.take (k + 1)) = abRules (cs.take k) (ls.take k) ++ [aboveR (nth cs k) (nth ls k)] := by
  unfold abRules
  rw [take_nth h1, take_nth h2, List.zipWith_append (by rw [List.length_take, List.length_take]; omega)]
  rfl
theorem all_take_yes' {f : Int → Bool} {xs : List Int} {k : Nat} (hk : k < xs.length) (h : (xs.take k).all f = true) : (xs.take (k + 1)).all f = f (nth xs k) := by
  rw [take_nth hk, List.all_append, h]; simp
/-- What the loop holds: the program that grows, its box, the result's box. -/
structure BI (w : World) (p : ProgD) (xs : List Int) (lvs : List LevelD) (lo hi Bt : Nat) (w5 : World) (k : Nat) (D : Nat → Prop) (c1 c2 c4 c5 c6 c7 : Value) (W : World) : Prop where
  pr : OwnPR lo hi D W c1 c2 c4 c5 c6 c7 { p with rules := p.rules ++ abRules (xs.take k) (lvs.take k) }
  box : W.heap[Bt]? = some (.cells #[.int .i64 p.atoms, c1, c2, .bool p.projOn, c4, c5, c6, c7] 40 (0, 0))
  dl : ∀ f, D f → f < W.heap.size ∧ f ≠ Bt
  zb : W.heap[w.heap.size + 1]? = some (.cells #[.int .i64 0, .slice none 0 0, .slice none 0 0, .bool false, .slice none 0 0, .slice none 0 0, .slice none 0 0, .slice none 0 0] 40 (0, 0))
  bel : Below w.heap.size w W
  los : w.heap.size + 2 ≤ lo ∧ lo ≤ hi ∧ hi ≤ Bt ∧ Bt < W.heap.size
  keep : ∀ j, Bt < j → j < w5.heap.size → W.heap[j]? = w5.heap[j]?
  dd : ∀ f, D f → f < hi ∨ w5.heap.size ≤ f
  n5 : w5.heap.size ≤ W.heap.size

/-- Later worlds that keep what was there. -/
theorem BI.later {w : World} {p : ProgD} {xs : List Int} {lvs : List LevelD} {lo hi Bt k : Nat} {w5 : World} {D : Nat → Prop} {c1 c2 c4 c5 c6 c7 : Value} {W W' : World} (h : BI w p xs lvs lo hi Bt w5 k D c1 c2 c4 c5 c6 c7 W) (hb : Below W.heap.size W W') : BI w p xs lvs lo hi Bt w5 k D c1 c2 c4 c5 c6 c7 W' :=
  ⟨h.pr.later hb, (hb.block _ (block_lt h.box)).trans h.box, fun f hf => ⟨Nat.lt_of_lt_of_le (h.dl f hf).1 hb.size, (h.dl f hf).2⟩, (hb.block _ (block_lt h.zb)).trans h.zb, h.bel.step hb, ⟨h.los.1, h.los.2.1, h.los.2.2.1, Nat.lt_of_lt_of_le h.los.2.2.2 hb.size⟩, fun j h1 h2 => (hb.block j (Nat.lt_of_lt_of_le h2 h.n5)).trans (h.keep j h1 h2), h.dd, Nat.le_trans h.n5 hb.size⟩

/-- One rule more: it lies in memory that is new since W0, in a box of its own. -/
theorem BI.push {w : World} {p : ProgD} {xs : List Int} {lvs : List LevelD} {lo hi Bt k : Nat} {w5 : World} {D : Nat → Prop} {c1 c2 c4 c5 c6 c7 : Value} {W0 W : World} {cs : List Value} {g : Nat} (h : BI w p xs lvs lo hi Bt w5 k D c1 c2 c4 c5 c6 c7 W0) (hb : Below W0.heap.size W0 W)
    (h1 : k < xs.length) (h2 : k < lvs.length) (hC : Cells W g 0 cs) (ho : Own W0.heap.size W cs (aboveR (nth xs k) (nth lvs k))) (hl : p.rules.length ≤ 60) (hx : xs.length ≤ 1000) :
    ∃ a n w1 D', (Builtin.append_ #[35, 35] 35 #[c1, .slice (some ⟨g, 0, none⟩) 1 1]).run Tryz.prog W = .ok (.slice a (p.rules.length + (k + 1)) n) w1 ∧
      (∀ i, w1.frozen? ⟨Bt, i, none⟩ = false) ∧ w1.cell? ⟨Bt, 1, none⟩ = some c1 ∧ (∀ j, j < W.heap.size → ¬ D j → w1.heap[j]? = W.heap[j]?) ∧
      BI w p xs lvs lo hi Bt w5 (k + 1) D' (.slice a (p.rules.length + (k + 1)) n) c2 c4 c5 c6 c7 (w1.setCell ⟨Bt, 1, none⟩ (.slice a (p.rules.length + (k + 1)) n)) := by
  obtain ⟨i0, hi0, hz0, hz1, hz2⟩ := info_parts info_copiesRule
  obtain ⟨fp, of, hfp⟩ := ho
  have htl : (abRules (xs.take k) (lvs.take k)).length = k := by
    rw [abRules_len (by rw [List.length_take, List.length_take]; omega), List.length_take]; omega
  obtain ⟨l1, l2, l3, l4⟩ := h.los
  obtain ⟨v4, w4, r4, hP4, b4, hk4, a4, n4, rfl⟩ := h.pr.append_run (P := Tryz.prog) (zs := [aboveR (nth xs k) (nth lvs k)]) (t := 35) (ty := 35) (ad := ⟨g, 0, none⟩) (c := 1) (fps2 := [fp]) i0 _ 72 Tryz.underlying35 hi0 hz0 hz1 hz2 rfl hb (fun f hf => (h.dl f hf).1) (by omega)
    ⟨g, 0, rfl, rfl, by simpa using Ow.nodup of, fun j hj => by
      have : j = 0 := by simp at hj; omega
      subst this
      exact ⟨_, by rw [Nat.zero_mul]; exact hC, of⟩⟩ (fun f hf => by simp at hf; exact hfp f hf) (by show ((p.rules ++ abRules (xs.take k) (lvs.take k)).length + 1) * 72 ≤ _; rw [List.length_append, htl]; omega) (by show (p.rules ++ abRules (xs.take k) (lvs.take k)).length + 1 ≤ _; rw [List.length_append, htl]; omega)
  have hln : (({ p with rules := p.rules ++ abRules (xs.take k) (lvs.take k) } : ProgD).rules ++ [aboveR (nth xs k) (nth lvs k)]).length = p.rules.length + (k + 1) := by
    show ((p.rules ++ abRules (xs.take k) (lvs.take k)) ++ [aboveR (nth xs k) (nth lvs k)]).length = _
    rw [List.length_append, List.length_append, htl]; simp; omega
  rw [hln] at r4 hP4
  have hsz := hb.size
  have hDB : ¬ D Bt := fun hd => (h.dl _ hd).2 rfl
  have hDz : ¬ D (w.heap.size + 1) := fun hd => by
    obtain ⟨_, _, _, _, _, hlo⟩ := h.pr
    have := hlo _ hd
    omega
  have hbx := (hk4 Bt (by omega) hDB).trans ((hb.block _ l4).trans h.box)
  have hzb := (hk4 (w.heap.size + 1) (by omega) hDz).trans ((hb.block _ (by omega)).trans h.zb)
  have hP5 : OwnPR lo hi (fun f => (D f ∨ W0.heap.size ≤ f) ∧ f < w4.heap.size) w4 (.slice a4 (p.rules.length + (k + 1)) n4) c2 c4 c5 c6 c7 { p with rules := p.rules ++ abRules (xs.take (k + 1)) (lvs.take (k + 1)) } := by
    have e : p.rules ++ abRules (xs.take (k + 1)) (lvs.take (k + 1)) = (p.rules ++ abRules (xs.take k) (lvs.take k)) ++ [aboveR (nth xs k) (nth lvs k)] := by rw [abR_take h1 h2, List.append_assoc]
    rw [e]; exact hP4
  have hnB : ¬ ((D Bt ∨ W0.heap.size ≤ Bt) ∧ Bt < w4.heap.size) := fun hd => hd.1.elim hDB (fun h => by omega)
  have hb4s := b4.size
  refine ⟨a4, n4, w4, _, r4, fun i => frozen_of_row w4 Bt i _ _ hbx, by rw [cell_of_row w4 Bt 1 _ _ _ hbx]; rfl, hk4, hP5.far (q := ⟨Bt, 1, none⟩) hnB (.inr l3) _, ?_, fun f hf => ⟨by simp [World.setCell]; exact hf.2, fun e => by subst e; exact hnB hf⟩, ?_, ?_, ⟨l1, l2, l3, by simp [World.setCell]; omega⟩, fun j h1 h2 => ?_, fun f hf => hf.1.elim (fun hd => h.dd f hd) (fun hd => .inr (Nat.le_trans h.n5 hd)), by have := h.n5; simp [World.setCell]; omega⟩
  · rw [heap_setCell_same w4 Bt 1 _ _ _ hbx]; rfl
  · exact (Below.heap_setCell _ _ _ _ (by simp; omega)).trans hzb
  · exact ((h.bel.step hb).trans (b4.mono (by omega))).setCell (show w.heap.size ≤ Bt by omega) _
  · have hn5 := h.n5
    have hnd : ¬ D j := fun hd => by have := h.dd j hd; omega
    exact (Below.heap_setCell _ _ _ _ (by simp; omega)).trans ((hk4 j (by omega) hnd).trans ((hb.block j (by omega)).trans (h.keep j h1 h2)))

theorem lvc_cells {B : Nat} {e : TypeId} {w : World} {a : Option Addr} {n c : Nat} {zs : List LvC} (h : OwnF B e w (.slice a n c) zs) {i : Nat} (hi : i < zs.length) :
    ∃ g, a = some ⟨g, 0, none⟩ ∧ B ≤ g ∧ g < w.heap.size ∧ w.cell? ⟨g, i * 2, none⟩ = some (.int .i64 (nth zs i).p) ∧ w.cell? ⟨g, i * 2 + 1, none⟩ = some (.slice (nth zs i).a (nth zs i).n (nth zs i).c) := by
  rcases h.1.2 with ⟨hv, hn⟩ | ⟨g, cap, cur, hv, hg, hh, hr⟩
  · omega
  · have hrow := h.1
    rw [hv] at hrow
    obtain ⟨rfl, rfl, rfl⟩ := Value.slice.inj hv
    have hroom := mul_room (K := Rd.k LvC) hi
    have hk : Rd.k LvC = 2 := rfl
    rw [hk] at hroom hrow
    have e0 := flat_at h.2 hi (j := 0) (v := .int .i64 (nth zs i).p) rfl
    have e1 := flat_at h.2 hi (j := 1) (v := .slice (nth zs i).a (nth zs i).n (nth zs i).c) rfl
    rw [hk] at e0 e1
    exact ⟨g, rfl, hg, block_lt hh, by rw [hrow.cellAt _ (by omega)]; exact e0, by rw [hrow.cellAt _ (by omega)]; exact e1⟩

set_option maxHeartbeats 8000000 in
theorem implBounded_calls {cs : List Value} {p : ProgD} {v : Value} {xs : List Int} {w : World} (h : Rd.R w cs p) (gx : RdL w [v] xs) :
    Calls Tryz.prog 19 #[.agg cs.toArray, v] w fun e w' => ∃ cs', e = .returned (.tuple #[.agg cs'.toArray, .bool (bndB p xs)]) ∧ Own w.heap.size w' cs' (bndR p xs) ∧ Below w.heap.size w w' := by
  have HRD := Lib.hid h
  obtain ⟨ax, cx, rfl, _, hx⟩ := gx.sl
  have hxm := hx.1
  obtain ⟨p1, p2, p4, p5, p6, p7, rfl, hf, g1, g2, g4, g5, g6, g7⟩ := h
  obtain ⟨a2, q2, rfl, _, h2⟩ := g2.sl
  have hm2 := h2.1
  have CX := (Cells.new w [.int .i64 p.atoms, p1, .slice a2 p.levels.length q2, .bool p.projOn, p4, p5, p6, p7] 40).alloc (.cells #[.int .i64 0, .slice none 0 0, .slice none 0 0, .bool false, .slice none 0 0, .slice none 0 0, .slice none 0 0, .slice none 0 0] 40)
  have hz := alloc_block (w.alloc (.cells #[.int .i64 p.atoms, p1, .slice a2 p.levels.length q2, .bool p.projOn, p4, p5, p6, p7] 40)) #[.int .i64 0, .slice none 0 0, .slice none 0 0, .bool false, .slice none 0 0, .slice none 0 0, .slice none 0 0, .slice none 0 0] 40
  rw [World.size_alloc] at hz
  have t0 : Below w.heap.size w ((w.alloc (.cells #[.int .i64 p.atoms, p1, .slice a2 p.levels.length q2, .bool p.projOn, p4, p5, p6, p7] 40)).alloc (.cells #[.int .i64 0, .slice none 0 0, .slice none 0 0, .bool false, .slice none 0 0, .slice none 0 0, .slice none 0 0, .slice none 0 0] 40)) := ((Below.refl _ _).alloc (by simp) _).alloc (by simp) _
  obtain ⟨x0, x1, x2, x3, x4, x5, x6, x7⟩ := cells8 CX
  have HI := Lib.hid (implProgOk_calls (Rd.mono t0 HRD.out))
  have hs0 : ((w.alloc (.cells #[.int .i64 p.atoms, p1, .slice a2 p.levels.length q2, .bool p.projOn, p4, p5, p6, p7] 40)).alloc (.cells #[.int .i64 0, .slice none 0 0, .slice none 0 0, .bool false, .slice none 0 0, .slice none 0 0, .slice none 0 0, .slice none 0 0] 40)).heap.size = w.heap.size + 2 := by rw [World.size_alloc, World.size_alloc]
  clear g1 g2 g4 g5 g6 g7 hf
  cases hok : progOkB p
  · have hb0 := bndB_A (cs := xs) hok
    have hr := Lib.hid (bndR_no hb0)
    have hb := Lib.hid hb0
    rw [hok] at HI
    clear hok hb0
    go_enter Tryz.func19, Tryz.ntmps19
    go_wp2_with fail
    refine HI.out.mono ?_
    rintro e w1 ⟨rfl, b1⟩
    have tz := t0.step b1
    have hz1 := (b1.block _ (block_lt hz)).trans hz
    have hfz := fun j => frozen_of_row w1 (w.heap.size + 1) j _ _ hz1
    have hzl := block_lt hz1
    obtain ⟨z0, z1, z2, z3, z4, z5, z6, z7⟩ := cells8 (w := w1) (b := w.heap.size + 1) (fun j u hu => by rw [Nat.zero_add, cell_of_row w1 _ j _ _ _ hz1]; simpa using hu)
    clear x0 x1 x2 x3 x4 x5 x6 x7 CX t0 hs0
    go_wp2
    exact bodyPost_ret (v := .tuple #[.agg #[.int .i64 0, .slice none 0 0, .slice none 0 0, .bool false, .slice none 0 0, .slice none 0 0, .slice none 0 0, .slice none 0 0], .bool false])
      (by simp [results, Tryz.results19, go_sem, z0, z1, z2, z3, z4, z5, z6, z7]) rfl ⟨_, by rw [hb.out], by rw [hr.out]; exact own_zero _ _, by
        repeat (refine Below.setCell ?_ (by simp; try omega) _)
        exact tz⟩
  rw [hok] at HI
  by_cases hlen : xs.length = p.levels.length
  case neg =>
    have hb0 := bndB_B (p := p) hlen
    have hr := Lib.hid (bndR_no hb0)
    have hb := Lib.hid hb0
    have hne : ((xs.length : Int) == (p.levels.length : Int)) = false := beq_eq_false_iff_ne.2 (by omega)
    clear hok hb0 hlen
    go_enter Tryz.func19, Tryz.ntmps19
    go_wp2_with fail
    refine HI.out.mono ?_
    rintro e w1 ⟨rfl, b1⟩
    have tz := t0.step b1
    have hz1 := (b1.block _ (block_lt hz)).trans hz
    have hfz := fun j => frozen_of_row w1 (w.heap.size + 1) j _ _ hz1
    have hzl := block_lt hz1
    obtain ⟨z0, z1, z2, z3, z4, z5, z6, z7⟩ := cells8 (w := w1) (b := w.heap.size + 1) (fun j u hu => by rw [Nat.zero_add, cell_of_row w1 _ j _ _ _ hz1]; simpa using hu)
    clear x0 x1 x2 x3 x4 x5 x6 x7
    obtain ⟨x0, x1, x2, x3, x4, x5, x6, x7⟩ := cells8 (CX.later b1)
    clear CX t0 hs0
    go_wp2
    exact bodyPost_ret (v := .tuple #[.agg #[.int .i64 0, .slice none 0 0, .slice none 0 0, .bool false, .slice none 0 0, .slice none 0 0, .slice none 0 0, .slice none 0 0], .bool false])
      (by simp [results, Tryz.results19, go_sem, z0, z1, z2, z3, z4, z5, z6, z7]) rfl ⟨_, by rw [hb.out], by rw [hr.out]; exact own_zero _ _, by
        repeat (refine Below.setCell ?_ (by simp; try omega) _)
        exact tz⟩
  have HLEN := Lib.hid hlen
  have heq : ((xs.length : Int) == (p.levels.length : Int)) = true := beq_iff_eq.2 (by omega)
  have hlv0 := levels_ok (progOk_levels hok)
  have hl6 : p.levels.length ≤ 6 := hlv0.2.1
  have HASC := Lib.hid hlv0.2.2
  have HLIT := Lib.hid (fun l (hl : l ∈ p.levels) => level_lits (progOk_levels hok) hl)
  have HAT := Lib.hid (progOk_atoms hok)
  have sp := szP_ok hok
  have hpr : p.rules.length ≤ 60 := (progOk_rules hok).1
  have HB := Lib.hid (fun hc => bndB_D (cs := xs) hok hlen hc)
  have hxl6 : xs.length ≤ 6 := by omega
  clear hlv0 hok hlen
  go_enter Tryz.func19, Tryz.ntmps19
  go_wp2_with fail
  refine HI.out.mono ?_
  rintro e w1 ⟨rfl, b1⟩
  have t1 := t0.step b1
  have hs1 := b1.size
  rw [hs0] at hs1
  clear x0 x1 x2 x3 x4 x5 x6 x7
  obtain ⟨x0, x1, x2, x3, x4, x5, x6, x7⟩ := cells8 (CX.later b1)
  go_wp2_with fail
  refine (progCopied_calls (Rd.mono t1 HRD.out) sp).mono ?_
  rintro e w3 ⟨c1, c2, c4, c5, c6, c7, D, rfl, hP, hD, b3⟩
  clear x0 x1 x2 x3 x4 x5 x6 x7
  have b13 := b1.step b3
  have hs3 := b3.size
  have t3 := t1.step b3
  have one := Rd.one hP.own.rd
  have st1 := sto Tryz.prog (one c1 (by simp))
  have st2 := sto Tryz.prog (one c2 (by simp))
  have st4 := sto Tryz.prog (one c4 (by simp))
  have st5 := sto Tryz.prog (one c5 (by simp))
  have st6 := sto Tryz.prog (one c6 (by simp))
  have st7 := sto Tryz.prog (one c7 (by simp))
  obtain ⟨x0, x1, x2, x3, x4, x5, x6, x7⟩ := cells8 (CX.later b13)
  have hl0 : w.heap.size < w3.heap.size := by omega
  have t4 := t3.alloc t3.size (.cells #[.int .i64 p.atoms, c1, c2, .bool p.projOn, c4, c5, c6, c7] 40)
  have hbx := alloc_block w3 #[.int .i64 p.atoms, c1, c2, .bool p.projOn, c4, c5, c6, c7] 40
  have hz4 := (Below.heap_alloc w3 (.cells #[.int .i64 p.atoms, c1, c2, .bool p.projOn, c4, c5, c6, c7] 40) (w.heap.size + 1) (by omega)).trans ((b13.block _ (block_lt hz)).trans hz)
  have hP4 := hP.later ((Below.refl w3.heap.size w3).alloc (Nat.le_refl _) (.cells #[.int .i64 p.atoms, c1, c2, .bool p.projOn, c4, c5, c6, c7] 40))
  have zw4 : (w3.alloc (.cells #[.int .i64 p.atoms, c1, c2, .bool p.projOn, c4, c5, c6, c7] 40)).heap.size = w3.heap.size + 1 := World.size_alloc _ _
  go_wp2_with fail
  refine (ranked_callsO HRD.out t4 (by omega)).mono ?_
  rintro e w5 ⟨v5, zs, lv, rfl, ho5, hr5, hlz, b5, hlv, hrev⟩
  clear x0 x1 x2 x3 x4 x5 x6 x7
  have hs5 := b5.size
  rw [zw4] at hs5 ho5
  have HREV := Lib.hid (hrev HASC.out)
  have HR5 := Lib.hid hr5
  have HLZ : Hid (zs.length = xs.length) := by show zs.length = xs.length; rw [← hlz, hlv, HLEN.out]
  have HLV : Hid (lv.length = xs.length) := by show lv.length = xs.length; rw [hlv, HLEN.out]
  have hB0 : BI w p xs lv w1.heap.size w3.heap.size w3.heap.size w5 0 D c1 c2 c4 c5 c6 c7 w5 :=
    ⟨by
      have e : p.rules ++ abRules (xs.take 0) (lv.take 0) = p.rules := by simp [abRules]
      rw [e]; exact hP4.later b5, (b5.block _ (block_lt hbx)).trans hbx, fun f hf => ⟨by have := hD f hf; omega, fun e => by have := hD f hf; omega⟩, (b5.block _ (block_lt hz4)).trans hz4, t4.step b5, ⟨by omega, hs3, Nat.le_refl _, by omega⟩, fun _ _ _ => rfl, fun f hf => .inl (hD f hf), Nat.le_refl _⟩
  obtain ⟨a5, q5, rfl⟩ : ∃ a c, v5 = .slice a zs.length c := by
    rcases ho5.1.2 with ⟨hv, hn⟩ | ⟨g, cap, cur, hv, _⟩
    · exact ⟨none, 0, by rw [hv, hn]⟩
    · exact ⟨_, _, hv⟩
  have hz6 : zs.length ≤ 6 := by rw [HLZ.out]; exact hxl6
  clear hlz hlv hrev hr5 CX hz b1 b3 b13 t0 t1 t3 t4 b5 hbx hz4 hP4 hP hD st1 st2 st4 st5 st6 st7 one HI
  have hx := hx.ints
  go_wp2_with fail
  go_loopw [26] (fun i wr => ∃ (k : Nat) (c1' : Value) (D : Nat → Prop), k ≤ zs.length ∧ i = .int .i64 (k : Int) ∧ BI w p xs lv w1.heap.size w3.heap.size w3.heap.size w5 k D c1' c2 c4 c5 c6 c7 wr ∧ (xs.take k).all costOkB = true) (fun i _ => zs.length - (intOf i).toNat)
  case atStart => exact ⟨0, c1, D, Nat.zero_le _, rfl, hB0, by simp⟩
  case round =>
    obtain ⟨k, c1', D, hk, rfl, hBI, hall⟩ := hrel
    clear hB0
    obtain ⟨l1, l2, l3, l4⟩ := hBI.los
    by_cases hlt : k < zs.length
    · obtain ⟨g, rfl, hg1, hg2, u0, u1⟩ := lvc_cells ho5 hlt
      have hkp := hBI.keep g (by omega) hg2
      have u0 : wr.cell? ⟨g, k * 2, none⟩ = _ := (World.cell?_of_block (a := ⟨g, k * 2, none⟩) hkp).trans u0
      have u1 : wr.cell? ⟨g, k * 2 + 1, none⟩ = _ := (World.cell?_of_block (a := ⟨g, k * 2 + 1, none⟩) hkp).trans u1
      have hlr := HR5.out k hlt
      have hkx : k < xs.length := by rw [← HLZ.out]; exact hlt
      have hkl : k < lv.length := by rw [HLV.out]; exact hkx
      obtain ⟨b', off', rfl, hcx⟩ := hx.2.2 k hkx
      have hbw : b' < w.heap.size := cell_lt hcx
      have hcx : wr.cell? ⟨b', off' + k, none⟩ = _ := (bcell hBI.bel).1 b' _ hbw |>.trans hcx
      have hfz : Fits (nth zs k).p := ho5.2 _ (nth_mem hlt)
      have hRL : Rd.R wr [.int .i64 (nth zs k).p, .slice (nth zs k).a (nth zs k).n (nth zs k).c] (nth lv k) := ⟨_, by rw [hlr.1], by rw [← hlr.1]; exact hfz, Rd.mono (α := List (Int × Int)) hBI.bel hlr.2⟩
      have hlm : nth lv k ∈ p.levels := by
        have := nth_mem hkl
        rw [HREV.out] at this ⊢
        exact List.mem_reverse.1 this
      have HLK := Lib.hid (HLIT.out _ hlm)
      have hat := HAT.out
      have hkx' : (k : Int) < (xs.length : Int) := by omega
      have hkz' : (k : Int) < (zs.length : Int) := by omega
      have HIN : Hid ((xs.take (k + 1)).all costOkB = costOkB (el xs k)) := by
        show _ = _
        rw [all_take_yes' hkx hall]
        rfl
      have HCN : Hid (el xs k = nth xs k) := rfl
      have hBx := hBI.later ((Below.refl wr.heap.size wr).alloc (Nat.le_refl _) (.cells #[.int .i64 (nth zs k).p, .slice (nth zs k).a (nth zs k).n (nth zs k).c] 102))
      have hRx := Rd.mono ((Below.refl wr.heap.size wr).alloc (Nat.le_refl _) (.cells #[.int .i64 (nth zs k).p, .slice (nth zs k).a (nth zs k).n (nth zs k).c] 102)) hRL
      have hcq := ((bcell ((Below.refl wr.heap.size wr).alloc (Nat.le_refl _) (.cells #[.int .i64 (nth zs k).p, .slice (nth zs k).a (nth zs k).n (nth zs k).c] 102))).1 b' (off' + k) (by have := hBI.bel.size; omega)).trans hcx
      have CB := Cells.new wr [.int .i64 (nth zs k).p, .slice (nth zs k).a (nth zs k).n (nth zs k).c] 102
      have zq : (wr.alloc (.cells #[.int .i64 (nth zs k).p, .slice (nth zs k).a (nth zs k).n (nth zs k).c] 102)).heap.size = wr.heap.size + 1 := World.size_alloc _ _
      have hDx : ¬ D wr.heap.size := fun hd => by have := (hBI.dl _ hd).1; omega
      have hDb : ¬ D b' := fun hd => by
        obtain ⟨_, _, _, _, _, hlo⟩ := hBI.pr
        have := hlo _ hd
        omega
      have hwr := hBI.bel.size
      clear hkp hlr hfz hRL hlm hall hBI
      generalize el xs k = cst at *
      generalize nth zs k = z at *
      obtain ⟨zp, za, zn, zc⟩ := z
      dsimp only at u0 u1 hBx hRx hcq CB zq
      cases hco : costOkB cst
      · have hba : xs.all costOkB = false := by
          have h1 := HIN.out
          rw [hco] at h1
          cases h2 : xs.all costOkB
          · rfl
          · rw [List.all_eq_true] at h2
            have h3 : (xs.take (k + 1)).all costOkB = true := List.all_eq_true.2 fun y hy => h2 y (List.mem_of_mem_take hy)
            rw [h3] at h1; cases h1
        have hb0 := bndB_C (p := p) hba
        have hr := Lib.hid (bndR_no hb0)
        have hb := Lib.hid hb0
        have HW : Hid (btwB cst (-100000) 100000 = false) := hco
        have tz := hBx.bel
        have hz1 := hBx.zb
        have hfz := fun j => frozen_of_row _ (w.heap.size + 1) j _ _ hz1
        have hzl := block_lt hz1
        obtain ⟨z0, z1, z2, z3, z4, z5, z6, z7⟩ := cells8 (b := w.heap.size + 1) (fun j u hu => by rw [Nat.zero_add, cell_of_row _ _ j _ _ _ hz1]; simpa using hu)
        clear hb0 hba hco hBx hRx CB
        go_wp2_with (go_at_call 68; refine (within_calls _ _ _ _).mono ?_; rintro e w' ⟨rfl, rfl⟩; rw [HW.out])
        exact bodyPost_ret (v := .tuple #[.agg #[.int .i64 0, .slice none 0 0, .slice none 0 0, .bool false, .slice none 0 0, .slice none 0 0, .slice none 0 0, .slice none 0 0], .bool false])
          (by simp [results, Tryz.results19, go_sem, z0, z1, z2, z3, z4, z5, z6, z7]) rfl ⟨_, by rw [hb.out], by rw [hr.out]; exact own_zero _ _, by
            repeat (refine Below.setCell ?_ (by simp; try omega) _)
            exact tz⟩
      · have HALL : Hid ((xs.take (k + 1)).all costOkB = true) := HIN.out.trans hco
        have HW : Hid (btwB cst (-100000) 100000 = true) := hco
        have hcb : -100000 ≤ cst ∧ cst ≤ 100000 := by
          have := hco
          simp only [costOkB, btwB, decide_eq_true_eq] at this
          exact this
        clear hco
        go_upto_region 9 with (go_at_call 68; refine (within_calls _ _ _ _).mono ?_; rintro e w' ⟨rfl, rfl⟩; rw [HW.out])
        generalize wr.alloc (.cells #[.int .i64 zp, .slice za zn zc] 102) = wq0 at *
        have hBq := hBx.later (Below.refl wq0.heap.size wq0).drew
        have HAB := Lib.hid (above_calls cst hcb (Rd.mono (Below.refl wq0.heap.size wq0).drew hRx) HLK.out.1 (fun q hq => ⟨by
          have h1 := (HLK.out.2 q hq).1
          simp only [litB, btwB, Bool.or_eq_true, decide_eq_true_eq] at h1 ⊢
          omega, (HLK.out.2 q hq).2⟩))
        have hcb' : aboveR cst (nth lv k) = aboveR (nth xs k) (nth lv k) := by rw [HCN.out]
        rw [hcb'] at HAB
        obtain ⟨y0, y1⟩ := cells2 CB
        have y0 : wq0.drew.cell? ⟨wr.heap.size, 0, none⟩ = some (.int .i64 zp) := y0
        have y1 : wq0.drew.cell? ⟨wr.heap.size, 1, none⟩ = some (.slice za zn zc) := y1
        have y2 : wq0.drew.cell? ⟨b', off' + k, none⟩ = some (.int .i64 cst) := hcq
        have zq : wq0.drew.heap.size = wr.heap.size + 1 := zq
        have hbx : wr.heap.size < wq0.drew.heap.size := by omega
        have hbb : b' < wq0.drew.heap.size := by omega
        have hbt : w3.heap.size < wq0.drew.heap.size := by omega
        have hbne : wr.heap.size ≠ w3.heap.size := by omega
        have hbn : b' ≠ w3.heap.size := by omega
        obtain ⟨bx, hbxe⟩ : ∃ bx, bx = wr.heap.size := ⟨_, rfl⟩
        have hc1 : wq0.drew.cell? ⟨w3.heap.size, 1, none⟩ = some c1' := by rw [cell_of_row _ _ 1 _ _ _ hBq.box]; rfl
        rw [← hbxe] at y0 y1 hbx hbne hDx ⊢
        clear hcb' hBx hRx CB hcq u0 u1 hcx hbxe
        refine wp_region_held_drew (S := fun w' => w'.cell? ⟨bx, 0, none⟩ = some (.int .i64 zp) ∧ w'.cell? ⟨bx, 1, none⟩ = some (.slice za zn zc) ∧ w'.cell? ⟨b', off' + k, none⟩ = some (.int .i64 cst)) (by kernel_rfl) ⟨y0, y1, y2⟩ (fun hHeld => ?_)
        refine takeD (i := 0) (v := .pointer (some ⟨w3.heap.size, 1, none⟩)) (some 38) rfl rfl (by kernel_rfl) (by kernel_rfl) (by kernel_rfl) (fun _ _ _ h => h) (Or.inl ⟨by rfl, fun w' hw' => ?_⟩) hHeld ?_
        · first | (go_simp; done) | (obtain ⟨s0, s1, s2⟩ := hw'; go_simp)
        try simp only [Act.put, List.setIfInBounds_toArray, List.set_cons_zero, List.set_cons_succ]
        refine takeD (i := 2) (v := .agg #[.int .i64 zp, .slice za zn zc]) (some 40) rfl rfl (by kernel_rfl) (by kernel_rfl) (by kernel_rfl) (fun _ _ _ h => h) (Or.inl ⟨by rfl, fun w' hw' => ?_⟩) hHeld ?_
        · first | (go_simp; done) | (obtain ⟨s0, s1, s2⟩ := hw'; go_simp)
        try simp only [Act.put, List.setIfInBounds_toArray, List.set_cons_zero, List.set_cons_succ]
        refine takeD (i := 3) (v := .slice (some ⟨b', off', none⟩) xs.length cx) (some 41) rfl rfl (by kernel_rfl) (by kernel_rfl) (by kernel_rfl) (fun _ _ _ h => h) (Or.inl ⟨by rfl, fun w' hw' => ?_⟩) hHeld ?_
        · first | (go_simp; done) | (obtain ⟨s0, s1, s2⟩ := hw'; go_simp)
        try simp only [Act.put, List.setIfInBounds_toArray, List.set_cons_zero, List.set_cons_succ]
        refine takeD (i := 4) (v := .int .i64 (k : Int)) (some 42) rfl rfl (by kernel_rfl) (by kernel_rfl) (by kernel_rfl) (fun _ _ _ h => h) (Or.inl ⟨by rfl, fun w' hw' => ?_⟩) hHeld ?_
        · first | (go_simp; done) | (obtain ⟨s0, s1, s2⟩ := hw'; go_simp)
        try simp only [Act.put, List.setIfInBounds_toArray, List.set_cons_zero, List.set_cons_succ]
        refine takeD (i := 5) (v := .pointer (some ⟨b', off' + k, none⟩)) (some 43) rfl rfl (by kernel_rfl) (by kernel_rfl) (by kernel_rfl) (fun _ _ _ h => h) (Or.inl ⟨by rfl, fun w' hw' => ?_⟩) hHeld ?_
        · first | (go_simp; done) | (obtain ⟨s0, s1, s2⟩ := hw'; go_simp)
        try simp only [Act.put, List.setIfInBounds_toArray, List.set_cons_zero, List.set_cons_succ]
        refine takeD (i := 6) (v := .int .i64 cst) (some 44) rfl rfl (by kernel_rfl) (by kernel_rfl) (by kernel_rfl) (fun _ _ _ h => h) (Or.inl ⟨by rfl, fun w' hw' => ?_⟩) hHeld ?_
        · first | (go_simp; done) | (obtain ⟨s0, s1, s2⟩ := hw'; go_simp)
        try simp only [Act.put, List.setIfInBounds_toArray, List.set_cons_zero, List.set_cons_succ]
        have HAB : Hid (Calls Tryz.prog 69 #[.agg #[.int .i64 zp, .slice za zn zc], .int .i64 cst] wq0.drew fun e w' => ∃ cs', e = .returned (.agg cs'.toArray) ∧ Own wq0.drew.heap.size w' cs' (aboveR (nth xs k) (nth lv k)) ∧ Below wq0.drew.heap.size wq0.drew w') := HAB
        generalize wq0.drew = wq at *
        refine wpAnyH_ready (rs := [1, 7]) (by kernel_rfl) (by simp) ?_
        refine AllReadyH.cons rfl (fun K hK => ?_) (AllReadyH.cons rfl (fun K hK => ?_) AllReadyH.nil)
        · go_simp
          refine hK.out _ _ ⟨y0, y1, y2⟩ (fun hHeld => ?_)
          clear hK K
          try simp only [Act.put, List.setIfInBounds_toArray, List.set_cons_zero, List.set_cons_succ]
          refine wpAnyH_ready (rs := [7]) (by kernel_rfl) (by simp) ?_
          refine AllReadyH.cons rfl (fun K hK => ?_) AllReadyH.nil
          go_simp
          refine HAB.out.mono ?_
          rintro e wc ⟨cs', rfl, oc, bc⟩
          obtain ⟨t0, t1, t2, t3, t4, rfl⟩ := list5 (Rd.len oc.rd)
          obtain ⟨kc, _⟩ := bcell bc
          have S1 : wc.cell? ⟨bx, 0, none⟩ = some (.int .i64 zp) ∧ wc.cell? ⟨bx, 1, none⟩ = some (.slice za zn zc) ∧ wc.cell? ⟨b', off' + k, none⟩ = some (.int .i64 cst) := ⟨(kc bx 0 hbx).trans y0, (kc bx 1 hbx).trans y1, (kc b' _ hbb).trans y2⟩
          have hcc : wc.cell? ⟨w3.heap.size, 1, none⟩ = some c1' := (kc _ 1 hbt).trans hc1
          refine hK.out _ _ S1 (fun hHeld => ?_)
          clear hK K
          try simp only [Act.put, List.setIfInBounds_toArray, List.set_cons_zero, List.set_cons_succ]
          refine wpAnyH_ready (rs := [8]) (by kernel_rfl) (by simp) ?_
          refine AllReadyH.cons rfl (fun K hK => ?_) AllReadyH.nil
          have o3 := oc.alloc (.cells #[t0, t1, t2, t3, t4] 100)
          have b3 := bc.alloc bc.size (.cells #[t0, t1, t2, t3, t4] 100)
          have C3 := Cells.new wc [t0, t1, t2, t3, t4] 100
          obtain ⟨k3, _⟩ := bcell b3
          have S2 : (wc.alloc (.cells #[t0, t1, t2, t3, t4] 100)).cell? ⟨bx, 0, none⟩ = some (.int .i64 zp) ∧ (wc.alloc (.cells #[t0, t1, t2, t3, t4] 100)).cell? ⟨bx, 1, none⟩ = some (.slice za zn zc) ∧ (wc.alloc (.cells #[t0, t1, t2, t3, t4] 100)).cell? ⟨b', off' + k, none⟩ = some (.int .i64 cst) := ⟨(k3 bx 0 hbx).trans y0, (k3 bx 1 hbx).trans y1, (k3 b' _ hbb).trans y2⟩
          have hc3 : (wc.alloc (.cells #[t0, t1, t2, t3, t4] 100)).cell? ⟨w3.heap.size, 1, none⟩ = some c1' := (k3 _ 1 hbt).trans hc1
          go_simp
          refine hK.out _ _ S2 (fun hHeld => ?_)
          clear hK K
          try simp only [Act.put, List.setIfInBounds_toArray, List.set_cons_zero, List.set_cons_succ]
          obtain ⟨a9, n9, w9, D9, r9, f9, hc9, hk9, hB9⟩ := hBq.push b3 hkx hkl C3 o3 hpr (by omega)
          have hz3 : wq.heap.size ≤ (wc.alloc (.cells #[t0, t1, t2, t3, t4] 100)).heap.size := b3.size
          have S9 : w9.cell? ⟨bx, 0, none⟩ = some (.int .i64 zp) ∧ w9.cell? ⟨bx, 1, none⟩ = some (.slice za zn zc) ∧ w9.cell? ⟨b', off' + k, none⟩ = some (.int .i64 cst) :=
            ⟨(World.cell?_of_block (a := ⟨bx, 0, none⟩) (hk9 bx (by omega) hDx)).trans S2.1, (World.cell?_of_block (a := ⟨bx, 1, none⟩) (hk9 bx (by omega) hDx)).trans S2.2.1, (World.cell?_of_block (a := ⟨b', off' + k, none⟩) (hk9 b' (by omega) hDb)).trans S2.2.2⟩
          have ff := f9 1
          refine wpAnyH_ready (rs := [9]) (by kernel_rfl) (by simp) ?_
          refine AllReadyH.cons rfl (fun K hK => ?_) AllReadyH.nil
          refine step_append_of rfl _ _ rfl rfl rfl r9 ?_
          refine hK.out _ _ S9 (fun hHeld => ?_)
          clear hK K
          try simp only [Act.put, List.setIfInBounds_toArray, List.set_cons_zero, List.set_cons_succ]
          refine takeD (i := 10) (v := .pointer (some ⟨w3.heap.size, 1, none⟩)) (some 48) rfl rfl (by kernel_rfl) (by kernel_rfl) (by kernel_rfl) (fun _ _ _ h => h) (Or.inl ⟨by rfl, fun w' hw' => ?_⟩) hHeld ?_
          · first | (go_simp; done) | (obtain ⟨s0, s1, s2⟩ := hw'; go_simp)
          try simp only [Act.put, List.setIfInBounds_toArray, List.set_cons_zero, List.set_cons_succ]
          refine wpAnyH_ready (rs := [11]) (by kernel_rfl) (by simp) ?_
          refine AllReadyH.cons rfl (fun K hK => ?_) AllReadyH.nil
          go_simp
          have SF : ∀ j o, j ≠ w3.heap.size → (w9.setCell ⟨w3.heap.size, 1, none⟩ (.slice a9 (p.rules.length + (k + 1)) n9)).cell? ⟨j, o, none⟩ = w9.cell? ⟨j, o, none⟩ := fun j o hj => World.cell?_of_block (a := ⟨j, o, none⟩) (Below.heap_setCell _ _ _ _ (by simpa using hj))
          refine hK.out _ _ ⟨(SF bx 0 hbne).trans S9.1, (SF bx 1 hbne).trans S9.2.1, (SF b' _ hbn).trans S9.2.2⟩ (fun hHeld => ?_)
          clear hK K
          try simp only [Act.put, List.setIfInBounds_toArray, List.set_cons_zero, List.set_cons_succ]
          have HB9 := Lib.hid hB9
          clear S9 S2 S1 SF r9 f9 hc9 hk9 hB9 C3 o3 b3 k3 hc3 hcc kc oc bc ff hHeld
          refine wpAnyH_done (by kernel_rfl) ?_ _
          go_wp2
          go_roundw
          case rel => exact ⟨k + 1, _, _, by omega, by go_num, HB9.out, HALL.out⟩
          case measure => simp [intOf]; omega
        · skip
          go_simp
          refine HAB.out.mono ?_
          rintro e wc ⟨cs', rfl, oc, bc⟩
          obtain ⟨t0, t1, t2, t3, t4, rfl⟩ := list5 (Rd.len oc.rd)
          obtain ⟨kc, _⟩ := bcell bc
          have S1 : wc.cell? ⟨bx, 0, none⟩ = some (.int .i64 zp) ∧ wc.cell? ⟨bx, 1, none⟩ = some (.slice za zn zc) ∧ wc.cell? ⟨b', off' + k, none⟩ = some (.int .i64 cst) := ⟨(kc bx 0 hbx).trans y0, (kc bx 1 hbx).trans y1, (kc b' _ hbb).trans y2⟩
          have hcc : wc.cell? ⟨w3.heap.size, 1, none⟩ = some c1' := (kc _ 1 hbt).trans hc1
          refine hK.out _ _ S1 (fun hHeld => ?_)
          clear hK K
          try simp only [Act.put, List.setIfInBounds_toArray, List.set_cons_zero, List.set_cons_succ]
          refine wpAnyH_ready (rs := [1, 8]) (by kernel_rfl) (by simp) ?_
          refine AllReadyH.cons rfl (fun K hK => ?_) (AllReadyH.cons rfl (fun K hK => ?_) AllReadyH.nil)
          · go_simp
            refine hK.out _ _ S1 (fun hHeld => ?_)
            clear hK K
            try simp only [Act.put, List.setIfInBounds_toArray, List.set_cons_zero, List.set_cons_succ]
            refine wpAnyH_ready (rs := [8]) (by kernel_rfl) (by simp) ?_
            refine AllReadyH.cons rfl (fun K hK => ?_) AllReadyH.nil
            have o3 := oc.alloc (.cells #[t0, t1, t2, t3, t4] 100)
            have b3 := bc.alloc bc.size (.cells #[t0, t1, t2, t3, t4] 100)
            have C3 := Cells.new wc [t0, t1, t2, t3, t4] 100
            obtain ⟨k3, _⟩ := bcell b3
            have S2 : (wc.alloc (.cells #[t0, t1, t2, t3, t4] 100)).cell? ⟨bx, 0, none⟩ = some (.int .i64 zp) ∧ (wc.alloc (.cells #[t0, t1, t2, t3, t4] 100)).cell? ⟨bx, 1, none⟩ = some (.slice za zn zc) ∧ (wc.alloc (.cells #[t0, t1, t2, t3, t4] 100)).cell? ⟨b', off' + k, none⟩ = some (.int .i64 cst) := ⟨(k3 bx 0 hbx).trans y0, (k3 bx 1 hbx).trans y1, (k3 b' _ hbb).trans y2⟩
            have hc3 : (wc.alloc (.cells #[t0, t1, t2, t3, t4] 100)).cell? ⟨w3.heap.size, 1, none⟩ = some c1' := (k3 _ 1 hbt).trans hc1
            go_simp
            refine hK.out _ _ S2 (fun hHeld => ?_)
            clear hK K
            try simp only [Act.put, List.setIfInBounds_toArray, List.set_cons_zero, List.set_cons_succ]
            obtain ⟨a9, n9, w9, D9, r9, f9, hc9, hk9, hB9⟩ := hBq.push b3 hkx hkl C3 o3 hpr (by omega)
            have hz3 : wq.heap.size ≤ (wc.alloc (.cells #[t0, t1, t2, t3, t4] 100)).heap.size := b3.size
            have S9 : w9.cell? ⟨bx, 0, none⟩ = some (.int .i64 zp) ∧ w9.cell? ⟨bx, 1, none⟩ = some (.slice za zn zc) ∧ w9.cell? ⟨b', off' + k, none⟩ = some (.int .i64 cst) :=
              ⟨(World.cell?_of_block (a := ⟨bx, 0, none⟩) (hk9 bx (by omega) hDx)).trans S2.1, (World.cell?_of_block (a := ⟨bx, 1, none⟩) (hk9 bx (by omega) hDx)).trans S2.2.1, (World.cell?_of_block (a := ⟨b', off' + k, none⟩) (hk9 b' (by omega) hDb)).trans S2.2.2⟩
            have ff := f9 1
            refine wpAnyH_ready (rs := [9]) (by kernel_rfl) (by simp) ?_
            refine AllReadyH.cons rfl (fun K hK => ?_) AllReadyH.nil
            refine step_append_of rfl _ _ rfl rfl rfl r9 ?_
            refine hK.out _ _ S9 (fun hHeld => ?_)
            clear hK K
            try simp only [Act.put, List.setIfInBounds_toArray, List.set_cons_zero, List.set_cons_succ]
            refine takeD (i := 10) (v := .pointer (some ⟨w3.heap.size, 1, none⟩)) (some 48) rfl rfl (by kernel_rfl) (by kernel_rfl) (by kernel_rfl) (fun _ _ _ h => h) (Or.inl ⟨by rfl, fun w' hw' => ?_⟩) hHeld ?_
            · first | (go_simp; done) | (obtain ⟨s0, s1, s2⟩ := hw'; go_simp)
            try simp only [Act.put, List.setIfInBounds_toArray, List.set_cons_zero, List.set_cons_succ]
            refine wpAnyH_ready (rs := [11]) (by kernel_rfl) (by simp) ?_
            refine AllReadyH.cons rfl (fun K hK => ?_) AllReadyH.nil
            go_simp
            have SF : ∀ j o, j ≠ w3.heap.size → (w9.setCell ⟨w3.heap.size, 1, none⟩ (.slice a9 (p.rules.length + (k + 1)) n9)).cell? ⟨j, o, none⟩ = w9.cell? ⟨j, o, none⟩ := fun j o hj => World.cell?_of_block (a := ⟨j, o, none⟩) (Below.heap_setCell _ _ _ _ (by simpa using hj))
            refine hK.out _ _ ⟨(SF bx 0 hbne).trans S9.1, (SF bx 1 hbne).trans S9.2.1, (SF b' _ hbn).trans S9.2.2⟩ (fun hHeld => ?_)
            clear hK K
            try simp only [Act.put, List.setIfInBounds_toArray, List.set_cons_zero, List.set_cons_succ]
            have HB9 := Lib.hid hB9
            clear S9 S2 S1 SF r9 f9 hc9 hk9 hB9 C3 o3 b3 k3 hc3 hcc kc oc bc ff hHeld
            refine wpAnyH_done (by kernel_rfl) ?_ _
            go_wp2
            go_roundw
            case rel => exact ⟨k + 1, _, _, by omega, by go_num, HB9.out, HALL.out⟩
            case measure => simp [intOf]; omega
          · skip
            have o3 := oc.alloc (.cells #[t0, t1, t2, t3, t4] 100)
            have b3 := bc.alloc bc.size (.cells #[t0, t1, t2, t3, t4] 100)
            have C3 := Cells.new wc [t0, t1, t2, t3, t4] 100
            obtain ⟨k3, _⟩ := bcell b3
            have S2 : (wc.alloc (.cells #[t0, t1, t2, t3, t4] 100)).cell? ⟨bx, 0, none⟩ = some (.int .i64 zp) ∧ (wc.alloc (.cells #[t0, t1, t2, t3, t4] 100)).cell? ⟨bx, 1, none⟩ = some (.slice za zn zc) ∧ (wc.alloc (.cells #[t0, t1, t2, t3, t4] 100)).cell? ⟨b', off' + k, none⟩ = some (.int .i64 cst) := ⟨(k3 bx 0 hbx).trans y0, (k3 bx 1 hbx).trans y1, (k3 b' _ hbb).trans y2⟩
            have hc3 : (wc.alloc (.cells #[t0, t1, t2, t3, t4] 100)).cell? ⟨w3.heap.size, 1, none⟩ = some c1' := (k3 _ 1 hbt).trans hc1
            go_simp
            refine hK.out _ _ S2 (fun hHeld => ?_)
            clear hK K
            try simp only [Act.put, List.setIfInBounds_toArray, List.set_cons_zero, List.set_cons_succ]
            refine wpAnyH_ready (rs := [1]) (by kernel_rfl) (by simp) ?_
            refine AllReadyH.cons rfl (fun K hK => ?_) AllReadyH.nil
            go_simp
            refine hK.out _ _ S2 (fun hHeld => ?_)
            clear hK K
            try simp only [Act.put, List.setIfInBounds_toArray, List.set_cons_zero, List.set_cons_succ]
            obtain ⟨a9, n9, w9, D9, r9, f9, hc9, hk9, hB9⟩ := hBq.push b3 hkx hkl C3 o3 hpr (by omega)
            have hz3 : wq.heap.size ≤ (wc.alloc (.cells #[t0, t1, t2, t3, t4] 100)).heap.size := b3.size
            have S9 : w9.cell? ⟨bx, 0, none⟩ = some (.int .i64 zp) ∧ w9.cell? ⟨bx, 1, none⟩ = some (.slice za zn zc) ∧ w9.cell? ⟨b', off' + k, none⟩ = some (.int .i64 cst) :=
              ⟨(World.cell?_of_block (a := ⟨bx, 0, none⟩) (hk9 bx (by omega) hDx)).trans S2.1, (World.cell?_of_block (a := ⟨bx, 1, none⟩) (hk9 bx (by omega) hDx)).trans S2.2.1, (World.cell?_of_block (a := ⟨b', off' + k, none⟩) (hk9 b' (by omega) hDb)).trans S2.2.2⟩
            have ff := f9 1
            refine wpAnyH_ready (rs := [9]) (by kernel_rfl) (by simp) ?_
            refine AllReadyH.cons rfl (fun K hK => ?_) AllReadyH.nil
            refine step_append_of rfl _ _ rfl rfl rfl r9 ?_
            refine hK.out _ _ S9 (fun hHeld => ?_)
            clear hK K
            try simp only [Act.put, List.setIfInBounds_toArray, List.set_cons_zero, List.set_cons_succ]
            refine takeD (i := 10) (v := .pointer (some ⟨w3.heap.size, 1, none⟩)) (some 48) rfl rfl (by kernel_rfl) (by kernel_rfl) (by kernel_rfl) (fun _ _ _ h => h) (Or.inl ⟨by rfl, fun w' hw' => ?_⟩) hHeld ?_
            · first | (go_simp; done) | (obtain ⟨s0, s1, s2⟩ := hw'; go_simp)
            try simp only [Act.put, List.setIfInBounds_toArray, List.set_cons_zero, List.set_cons_succ]
            refine wpAnyH_ready (rs := [11]) (by kernel_rfl) (by simp) ?_
            refine AllReadyH.cons rfl (fun K hK => ?_) AllReadyH.nil
            go_simp
            have SF : ∀ j o, j ≠ w3.heap.size → (w9.setCell ⟨w3.heap.size, 1, none⟩ (.slice a9 (p.rules.length + (k + 1)) n9)).cell? ⟨j, o, none⟩ = w9.cell? ⟨j, o, none⟩ := fun j o hj => World.cell?_of_block (a := ⟨j, o, none⟩) (Below.heap_setCell _ _ _ _ (by simpa using hj))
            refine hK.out _ _ ⟨(SF bx 0 hbne).trans S9.1, (SF bx 1 hbne).trans S9.2.1, (SF b' _ hbn).trans S9.2.2⟩ (fun hHeld => ?_)
            clear hK K
            try simp only [Act.put, List.setIfInBounds_toArray, List.set_cons_zero, List.set_cons_succ]
            have HB9 := Lib.hid hB9
            clear S9 S2 S1 SF r9 f9 hc9 hk9 hB9 C3 o3 b3 k3 hc3 hcc kc oc bc ff hHeld
            refine wpAnyH_done (by kernel_rfl) ?_ _
            go_wp2
            go_roundw
            case rel => exact ⟨k + 1, _, _, by omega, by go_num, HB9.out, HALL.out⟩
            case measure => simp [intOf]; omega
    · have hkz : k = zs.length := by omega
      have htx : xs.take k = xs := List.take_of_length_le (by rw [← HLZ.out]; omega)
      have htl : lv.take k = lv := List.take_of_length_le (by rw [HLV.out, ← HLZ.out]; omega)
      rw [htx] at hall
      have hbd := HB.out hall
      have hPR := hBI.pr
      rw [htx, htl, HREV.out] at hPR
      have hPR : OwnPR w1.heap.size w3.heap.size D wr c1' c2 c4 c5 c6 c7 (bndD p xs) := hPR
      have hrd : Rd.R wr [.int .i64 p.atoms, c1', c2, .bool p.projOn, c4, c5, c6, c7] (bndD p xs) := hPR.own.rd
      have one := Rd.one hrd
      have st1 := sto Tryz.prog (one c1' (by simp))
      have st2 := sto Tryz.prog (one c2 (by simp))
      have st4 := sto Tryz.prog (one c4 (by simp))
      have st5 := sto Tryz.prog (one c5 (by simp))
      have st6 := sto Tryz.prog (one c6 (by simp))
      have st7 := sto Tryz.prog (one c7 (by simp))
      have hbx := hBI.box
      have hzb := hBI.zb
      have hbl := hBI.bel
      have hnD : ¬ D (w.heap.size + 1) := fun hd => by
        obtain ⟨_, _, _, _, _, hlo⟩ := hPR
        have := hlo _ hd
        omega
      obtain ⟨x0, x1, x2, x3, x4, x5, x6, x7⟩ := cells8 (w := wr) (b := w3.heap.size) (fun j u hu => by rw [Nat.zero_add, cell_of_row wr _ j _ _ _ hbx]; simpa using hu)
      clear htx htl hBI hall HB hlt
      go_wp2_with fail
      refine (implProgOk_calls hrd).mono ?_
      rintro e w8 ⟨he, b8⟩
      have tz := hbl.step b8
      have hz8 := (b8.block _ (block_lt hzb)).trans hzb
      have hb8 := (b8.block _ (block_lt hbx)).trans hbx
      have hfz := fun j => frozen_of_row w8 (w.heap.size + 1) j _ _ hz8
      have hzl := block_lt hz8
      have hP8 := hPR.later b8
      obtain ⟨z0, z1, z2, z3, z4, z5, z6, z7⟩ := cells8 (w := w8) (b := w.heap.size + 1) (fun j u hu => by rw [Nat.zero_add, cell_of_row w8 _ j _ _ _ hz8]; simpa using hu)
      clear x0 x1 x2 x3 x4 x5 x6 x7
      obtain ⟨x0, x1, x2, x3, x4, x5, x6, x7⟩ := cells8 (w := w8) (b := w3.heap.size) (fun j u hu => by rw [Nat.zero_add, cell_of_row w8 _ j _ _ _ hb8]; simpa using hu)
      cases hQ : progOkB (bndD p xs)
      · rw [hQ] at he hbd
        subst he
        have hr := Lib.hid (bndR_no hbd)
        have hb := Lib.hid hbd
        clear hbd hQ
        go_wp2
        exact bodyPost_ret (v := .tuple #[.agg #[.int .i64 0, .slice none 0 0, .slice none 0 0, .bool false, .slice none 0 0, .slice none 0 0, .slice none 0 0, .slice none 0 0], .bool false])
          (by simp [results, Tryz.results19, go_sem, z0, z1, z2, z3, z4, z5, z6, z7]) rfl ⟨_, by rw [hb.out], by rw [hr.out]; exact own_zero _ _, by
            repeat (refine Below.setCell ?_ (by simp; try omega) _)
            exact tz⟩
      · rw [hQ] at he hbd
        subst he
        have hr := Lib.hid (bndR_yes hbd)
        have hb := Lib.hid hbd
        clear hbd hQ
        go_wp2
        refine bodyPost_ret (v := .tuple #[.agg #[.int .i64 p.atoms, c1', c2, .bool p.projOn, c4, c5, c6, c7], .bool true])
          (by simp [results, Tryz.results19, go_sem, z0, z1, z2, z3, z4, z5, z6, z7]) rfl ⟨[.int .i64 p.atoms, c1', c2, .bool p.projOn, c4, c5, c6, c7], by rw [hb.out], ?_, ?_⟩
        · rw [hr.out]
          have hfin := fun (W : World) (hW : OwnPR w1.heap.size w3.heap.size D W c1' c2 c4 c5 c6 c7 (bndD p xs)) => hW.own
          refine (hfin _ ?_).mono (by omega)
          repeat (refine OwnPR.far ?_ hnD (.inl (by show w.heap.size + 1 < _; omega)) _)
          exact hP8
        · repeat (refine Below.setCell ?_ (by simp; try omega) _)
          exact tz

end Go.Proofs.YtiemlklngmifdaaGreat
