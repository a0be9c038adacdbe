/-
  A heap of levels: one more comes in. No condition of its own.
-/
import Derived.Test.YtiemlklngmifdaaGreatHeap
import Derived.Deep.RegionHeld3
import Derived.Shelf.RegionOpen
import Derived.Maps.AppendAt
import Derived.RangeFuncBox
import Derived.Deep.CutRange
import Derived.Deep.CutBlock
import Derived.Deep.DeepCutAuto
namespace Go.Proofs.YtiemlklngmifdaaGreat
set_option linter.unusedVariables false
set_option linter.unusedSimpArgs false
open Go.RowKit
set_option maxRecDepth 100000

theorem info_lvl : (Tryz.prog.info? 102).map (fun i => (i.zero, i.size, i.bytes)) = some (some (.agg #[.int .i64 0, .slice none 0 0]), 2, 32) := by kernel_rfl
set_option maxHeartbeats 4000000 in
theorem push_calls {lo Bh : Nat} {v : Value} {zs : List LvC} {w : World} (h : HM lo w Bh v zs) (hs : zs.length < 1048576) (x : LvC) (hx : Fits x.p) (hlo : lo ≤ w.heap.size) (hp : Hp zs) :
    Calls Tryz.prog 101 #[.pointer (some ⟨Bh, 0, none⟩), .agg #[.int .i64 x.p, .slice x.a x.n x.c]] w fun e w' => (∃ r, e = .returned r) ∧
      ∃ v' ys, HM lo w' Bh v' ys ∧ ys.Perm (zs ++ [x]) ∧ Hp ys ∧ Ch (fun g => g = Bh ∨ lo ≤ g) w w' := by
  have hlt := h.lt
  have hbs := block_lt h.box
  obtain ⟨xp, xa, xn, xc⟩ := x
  obtain ⟨a0, cap0, hsl⟩ := h.sl
  obtain ⟨b0, b1, hfb⟩ := h.c
  subst hsl
  go_enter Tryz.func101, Tryz.ntmps101
  go_wp2
  have t1 : Below w.heap.size w (w.alloc (.cells #[.int .i64 xp, .slice xa xn xc] 102)) := (Below.refl _ _).alloc (by simp) _
  have CX := Cells.new w [.int .i64 xp, .slice xa xn xc] 102
  obtain ⟨x0, x1⟩ := cells2 CX
  have hM := h.ch (D := fun _ => False) (Ch.of t1) id (fun _ _ _ => id)
  obtain ⟨d0, d1, df⟩ := hM.c
  have CY := Cells.new (w.alloc (.cells #[.int .i64 xp, .slice xa xn xc] 102)) [.int .i64 xp, .slice xa xn xc] 102
  have CX2 := CX.alloc (.cells #[.int .i64 xp, .slice xa xn xc] 102)
  obtain ⟨y0, y1⟩ := cells2 CX2
  have t2 := t1.alloc t1.size (.cells #[.int .i64 xp, .slice xa xn xc] 102)
  have hM2 := h.ch (D := fun _ => False) (Ch.of t2) id (fun _ _ _ => id)
  obtain ⟨d20, d21, d2f⟩ := hM2.c
  rw [World.size_alloc] at CY
  obtain ⟨W2, hW2⟩ : ∃ W2, W2 = ((w.alloc (.cells #[.int .i64 xp, .slice xa xn xc] 102)).alloc (.cells #[.int .i64 xp, .slice xa xn xc] 102)).drew := ⟨_, rfl⟩
  have hM3 : HM lo W2 Bh (.slice a0 zs.length cap0) zs := by rw [hW2]; exact hM2.ch (D := fun _ => False) (Ch.refl _ _).drew id (fun _ _ _ => id)
  have t3 : Below w.heap.size w W2 := by rw [hW2]; exact t2.drew
  have CY2 : Cells W2 (w.heap.size + 1) 0 [.int .i64 xp, .slice xa xn xc] := by rw [hW2]; exact CY
  obtain ⟨i0, hi, hz0, hz1, hz2⟩ := info_parts info_lvl
  obtain ⟨v', w3, r1, r2, r3, _⟩ := run_append_own (P := Tryz.prog) (w := W2) lo 36 36 102 i0 _ 2 32 Tryz.underlying36 hi hz0 hz1 hz2 rfl (by omega) _ _ _ hM3.row.1 ⟨w.heap.size + 1, 0, none⟩ 1 1 [.int .i64 xp, .slice xa xn xc] rfl
    (fun j u hu => by
      have hc := CY2 j u hu
      unfold Addr.add
      by_cases hj : j = 0
      · subst hj; simpa using hc
      · rw [if_neg hj]; exact hc) (by simp [Value.oneCell']) (by unfold maxLen; omega) (by omega) (Nat.le_trans hlo t3.size)
  rw [hW2] at r1
  obtain ⟨g', cap', rfl⟩ := ownsRow_succ r2
  have hne : ∀ k, (Value.slice a0 zs.length cap0).ownBlock = some k → lo ≤ k := fun k hk => by
    rcases hM3.row.1.2 with ⟨hv, _⟩ | ⟨g', _, _, hv, hg', _⟩
    · rw [hv] at hk; cases hk
    · rw [hv] at hk; cases hk; exact hg'
  have t4 : Ch (fun g => lo ≤ g) W2 w3 := Ch.grown r3 hne
  have hb3 : w3.heap[Bh]? = _ := t4.at hM3.box (by omega)
  have e0 : w3.cell? ⟨Bh, 0, none⟩ = some (.slice a0 zs.length cap0) := by rw [cell_of_row w3 Bh 0 _ _ _ hb3]; rfl
  have hfz : ∀ j, w3.frozen? ⟨Bh, j, none⟩ = false := fun j => frozen_of_row w3 Bh j _ _ hb3
  have CX3 : Cells W2 w.heap.size 0 [.int .i64 xp, .slice xa xn xc] := by rw [hW2]; exact CX2
  have hne0 : (w.heap.size : Nat) < lo ∨ lo ≤ w.heap.size := by omega
  have CX4 : Cells w3 w.heap.size 0 [.int .i64 xp, .slice xa xn xc] := CX3.kept (r3.block _ (by have := t3.size; have := CX3.lt; omega) (fun e => by
    rcases h.row.1.2 with ⟨hv, _⟩ | ⟨g', _, _, hv, _, hh, _⟩
    · rw [hv] at e; cases e
    · rw [hv] at e; cases e; exact Nat.lt_irrefl _ (block_lt hh)))
  obtain ⟨e1, e2⟩ := cells2 CX4
  have lB : Bh ≠ w.heap.size := by omega
  obtain ⟨W5, hW5⟩ : ∃ W5, W5 = w3.setCell ⟨Bh, 0, none⟩ (.slice (some ⟨g', 0, none⟩) (zs.length + 1) cap') := ⟨_, rfl⟩
  have hM5 : HM lo W5 Bh (.slice (some ⟨g', 0, none⟩) (zs.length + 1) cap') (zs ++ [⟨xp, xa, xn, xc⟩]) := by
    rw [hW5]
    refine ⟨?_, ⟨?_, ?_⟩, hlt, by rw [List.length_append]; simp; omega⟩
    · rw [heap_setCell_same w3 Bh 0 _ _ _ hb3]; simp
    · rw [List.flatMap_append, List.length_append]
      exact ownsRow_setCell_below r2 (show Bh < lo from hlt) _
    · intro y hy
      rcases List.mem_append.1 hy with hy | hy
      · exact hM3.row.2 y hy
      · rw [List.mem_singleton.1 hy]; exact hx
  have t5 : Ch (fun g => g = Bh ∨ lo ≤ g) w W5 := by
    rw [hW5]
    exact ((Ch.of t3).trans (t4.more fun g hg => .inr hg)).set 0 _ (.inl rfl)
  have z0 : W5.cell? ⟨Bh, 0, none⟩ = some (.slice (some ⟨g', 0, none⟩) (zs.length + 1) cap') := by
    have := hM5.c.1; exact this
  have ef := hfz 0
  obtain ⟨z1, z2⟩ := cells2 (show Cells W5 w.heap.size 0 [.int .i64 xp, .slice xa xn xc] by rw [hW5]; exact CX4.kept (Below.heap_setCell _ _ _ _ (by simp; omega)))
  rw [hW5] at z1 z2
  clear CX CX2 CX3 CX4 CY CY2 hM2 h
  go_cut [0] (fun p wz => p = .pointer (some ⟨Bh, 0, none⟩) ∧ wz = W5)
  case first =>
   refine wp_region_held_drew (S := fun w' => w'.cell? ⟨w.heap.size, 0, none⟩ = some (.int .i64 xp) ∧ w'.cell? ⟨w.heap.size, 1, none⟩ = some (.slice xa xn xc)) (by kernel_rfl) ⟨x0, x1⟩ (fun hHeld => ?_)
   refine wpAnyH_take (i := 0) (v := .pointer (some ⟨Bh, 0, none⟩)) rfl (by kernel_rfl) (by kernel_rfl) (by kernel_rfl) (fun _ _ _ h => h) (Or.inl ⟨by rfl, fun w' hw' => ?_⟩) hHeld ?_
   · first | (go_simp; done) | (obtain ⟨s0, s1⟩ := hw'; go_simp)
   try simp only [Act.put, List.setIfInBounds_toArray, List.set_cons_zero, List.set_cons_succ]
   refine wpAnyH_take (i := 1) (v := .pointer (some ⟨Bh, 0, none⟩)) rfl (by kernel_rfl) (by kernel_rfl) (by kernel_rfl) (fun _ _ _ h => h) (Or.inl ⟨by rfl, fun w' hw' => ?_⟩) hHeld ?_
   · first | (go_simp; done) | (obtain ⟨s0, s1⟩ := hw'; go_simp)
   try simp only [Act.put, List.setIfInBounds_toArray, List.set_cons_zero, List.set_cons_succ]
   refine wpAnyH_take (i := 2) (v := .pointer (some ⟨Bh, 0, none⟩)) rfl (by kernel_rfl) (by kernel_rfl) (by kernel_rfl) (fun _ _ _ h => h) (Or.inl ⟨by rfl, fun w' hw' => ?_⟩) hHeld ?_
   · first | (go_simp; done) | (obtain ⟨s0, s1⟩ := hw'; go_simp)
   try simp only [Act.put, List.setIfInBounds_toArray, List.set_cons_zero, List.set_cons_succ]
   refine wpAnyH_take (i := 3) (v := .pointer (some ⟨Bh, 0, none⟩)) rfl (by kernel_rfl) (by kernel_rfl) (by kernel_rfl) (fun _ _ _ h => h) (Or.inl ⟨by rfl, fun w' hw' => ?_⟩) hHeld ?_
   · first | (go_simp; done) | (obtain ⟨s0, s1⟩ := hw'; go_simp)
   try simp only [Act.put, List.setIfInBounds_toArray, List.set_cons_zero, List.set_cons_succ]
   refine wpAnyH_take (i := 5) (v := .agg #[.int .i64 xp, .slice xa xn xc]) rfl (by kernel_rfl) (by kernel_rfl) (by kernel_rfl) (fun _ _ _ h => h) (Or.inl ⟨by rfl, fun w' hw' => ?_⟩) hHeld ?_
   · first | (go_simp; done) | (obtain ⟨s0, s1⟩ := hw'; go_simp)
   try simp only [Act.put, List.setIfInBounds_toArray, List.set_cons_zero, List.set_cons_succ]
   refine wpAnyH_ready (rs := [4, 6]) (by kernel_rfl) (by simp) ?_
   refine AllReadyH.cons rfl (fun K hK => ?_) (AllReadyH.cons rfl (fun K hK => ?_) AllReadyH.nil)
   · go_simp
     refine hK.out _ _ ⟨x0, x1⟩ (fun hHeld => ?_)
     clear hK K
     try simp only [Act.put, List.setIfInBounds_toArray, List.set_cons_zero, List.set_cons_succ]
     refine wpAnyH_ready (rs := [6]) (by kernel_rfl) (by simp) ?_
     refine AllReadyH.cons rfl (fun K hK => ?_) AllReadyH.nil
     go_simp
     refine hK.out _ _ ⟨y0, y1⟩ (fun hHeld => ?_)
     clear hK K
     try simp only [Act.put, List.setIfInBounds_toArray, List.set_cons_zero, List.set_cons_succ]
     refine wpAnyH_ready (rs := [7]) (by kernel_rfl) (by simp) ?_
     refine AllReadyH.cons rfl (fun K hK => ?_) AllReadyH.nil
     refine step_append_of rfl _ _ rfl rfl rfl r1 ?_
     refine hK.out _ _ ⟨e1, e2⟩ (fun hHeld => ?_)
     clear hK K
     try simp only [Act.put, List.setIfInBounds_toArray, List.set_cons_zero, List.set_cons_succ]
     refine wpAnyH_take (i := 8) (v := .pointer (some ⟨Bh, 0, none⟩)) rfl (by kernel_rfl) (by kernel_rfl) (by kernel_rfl) (fun _ _ _ h => h) (Or.inl ⟨by rfl, fun w' hw' => ?_⟩) hHeld ?_
     · first | (go_simp; done) | (obtain ⟨s0, s1⟩ := hw'; go_simp)
     try simp only [Act.put, List.setIfInBounds_toArray, List.set_cons_zero, List.set_cons_succ]
     refine wpAnyH_take (i := 9) (v := .pointer (some ⟨Bh, 0, none⟩)) rfl (by kernel_rfl) (by kernel_rfl) (by kernel_rfl) (fun _ _ _ h => h) (Or.inl ⟨by rfl, fun w' hw' => ?_⟩) hHeld ?_
     · first | (go_simp; done) | (obtain ⟨s0, s1⟩ := hw'; go_simp)
     try simp only [Act.put, List.setIfInBounds_toArray, List.set_cons_zero, List.set_cons_succ]
     refine wpAnyH_ready (rs := [10]) (by kernel_rfl) (by simp) ?_
     refine AllReadyH.cons rfl (fun K hK => ?_) AllReadyH.nil
     go_simp
     refine hK.out _ _ ⟨z1, z2⟩ (fun hHeld => ?_)
     clear hK K
     try simp only [Act.put, List.setIfInBounds_toArray, List.set_cons_zero, List.set_cons_succ]
     refine wpAnyH_done (by kernel_rfl) ?_ _
     go_wp2_with fail
     go_meet
     exact ⟨rfl, hW5.symm⟩
   · go_simp
     refine hK.out _ _ ⟨y0, y1⟩ (fun hHeld => ?_)
     clear hK K
     try simp only [Act.put, List.setIfInBounds_toArray, List.set_cons_zero, List.set_cons_succ]
     refine wpAnyH_ready (rs := [4]) (by kernel_rfl) (by simp) ?_
     refine AllReadyH.cons rfl (fun K hK => ?_) AllReadyH.nil
     go_simp
     refine hK.out _ _ ⟨y0, y1⟩ (fun hHeld => ?_)
     clear hK K
     try simp only [Act.put, List.setIfInBounds_toArray, List.set_cons_zero, List.set_cons_succ]
     refine wpAnyH_ready (rs := [7]) (by kernel_rfl) (by simp) ?_
     refine AllReadyH.cons rfl (fun K hK => ?_) AllReadyH.nil
     refine step_append_of rfl _ _ rfl rfl rfl r1 ?_
     refine hK.out _ _ ⟨e1, e2⟩ (fun hHeld => ?_)
     clear hK K
     try simp only [Act.put, List.setIfInBounds_toArray, List.set_cons_zero, List.set_cons_succ]
     refine wpAnyH_take (i := 8) (v := .pointer (some ⟨Bh, 0, none⟩)) rfl (by kernel_rfl) (by kernel_rfl) (by kernel_rfl) (fun _ _ _ h => h) (Or.inl ⟨by rfl, fun w' hw' => ?_⟩) hHeld ?_
     · first | (go_simp; done) | (obtain ⟨s0, s1⟩ := hw'; go_simp)
     try simp only [Act.put, List.setIfInBounds_toArray, List.set_cons_zero, List.set_cons_succ]
     refine wpAnyH_take (i := 9) (v := .pointer (some ⟨Bh, 0, none⟩)) rfl (by kernel_rfl) (by kernel_rfl) (by kernel_rfl) (fun _ _ _ h => h) (Or.inl ⟨by rfl, fun w' hw' => ?_⟩) hHeld ?_
     · first | (go_simp; done) | (obtain ⟨s0, s1⟩ := hw'; go_simp)
     try simp only [Act.put, List.setIfInBounds_toArray, List.set_cons_zero, List.set_cons_succ]
     refine wpAnyH_ready (rs := [10]) (by kernel_rfl) (by simp) ?_
     refine AllReadyH.cons rfl (fun K hK => ?_) AllReadyH.nil
     go_simp
     refine hK.out _ _ ⟨z1, z2⟩ (fun hHeld => ?_)
     clear hK K
     try simp only [Act.put, List.setIfInBounds_toArray, List.set_cons_zero, List.set_cons_succ]
     refine wpAnyH_done (by kernel_rfl) ?_ _
     go_wp2_with fail
     go_meet
     exact ⟨rfl, hW5.symm⟩
  case rest =>
    obtain ⟨rfl, rfl⟩ := hcut
    clear e0 e1 e2 z1 z2 y0 y1 x0 x1 d0 d1 d20 d21 r1 r2 r3 t1 t2 t3 t4 hb3 hfz ef df d2f hM hM3 hfb b0 b1 hW2 hW5 z0
    have hlen : (zs ++ [(⟨xp, xa, xn, xc⟩ : LvC)]).length = zs.length + 1 := by rw [List.length_append]; rfl
    have HU := hpU_push (x := ⟨xp, xa, xn, xc⟩) hp
    generalize hus : zs ++ [(⟨xp, xa, xn, xc⟩ : LvC)] = us at *
    have HUS := Lib.hid hus
    clear hus
    have hn0 : Hid (us.length = zs.length + 1) := hlen
    clear hlen
    have hcl := hM5.c.1
    have hsm : zs.length ≤ 1048576 := by omega
    go_upto_region 3 with fail
    go_loopw [4] (fun i wr => ∃ (k : Nat) (ys : List LvC), i = .int .i64 (k : Int) ∧ k < ys.length ∧ HM lo wr Bh (.slice (some ⟨g', 0, none⟩) (zs.length + 1) cap') ys ∧ ys.Perm us ∧ HpU ys k ∧ Ch (fun g => g = Bh ∨ lo ≤ g) w wr) (fun i _ => (intOf i).toNat)
    case atStart => exact ⟨zs.length, us, by go_num, by rw [hn0.out]; omega, hM5, List.Perm.refl _, HU, t5⟩
    case round =>
      obtain ⟨k, ys, rfl, hk, hM, hpm, hu, hch⟩ := hrel
      obtain ⟨c0, c1, cf⟩ := hM.c
      by_cases hk0 : k = 0
      · subst hk0
        have hU := Lib.hid (hpU_done hu (.inl rfl))
        clear hu
        go_wp2_with fail
        go_quiet (fail)
        go_wp2
        go_end0
        exact ⟨⟨_, rfl⟩, _, ys, hM.ch (D := fun _ => False) (by first | exact (Ch.refl _ _).drew | exact (Ch.refl _ _).drewN _) id (fun _ _ _ => id), by rw [HUS.out]; exact hpm, hU.out, by first | exact hch.drew | exact hch.drewN _⟩
      · obtain ⟨g2, cap2, hv2, hg2, _, _, _, hcell⟩ := hM.op (by omega)
        obtain ⟨ev1, ev2, ev3⟩ := Value.slice.inj hv2
        cases ev1
        obtain ⟨q, hq⟩ : ∃ q, q = (k - 1) / 2 := ⟨_, rfl⟩
        have hqk : q < k := by omega
        obtain ⟨p0, p1⟩ := hcell k hk
        obtain ⟨q0, q1⟩ := hcell q (by omega)
        have hkk : Hid (ky ys k = (nth ys k).p ∧ ky ys q = (nth ys q).p) := ⟨rfl, rfl⟩
        have hsw := Lib.hid (fun (w' : World) (h' : HM lo w' Bh (.slice (some ⟨g', 0, none⟩) (zs.length + 1) cap') ys) => swap_calls h' hk (show q < ys.length by omega) (show k ≠ q by omega))
        have hU := Lib.hid hu
        have hd1 : (0 : Int) < (k : Int) := by omega
        have hdn : decide (0 < k) = true := decide_eq_true (by omega)
        have hd2 : (0 : Int) ≤ (k : Int) - 1 := by omega
        have hd3 : ((k : Int) - 1) / 2 = (q : Int) := by omega
        have hw1 : IntKind.i64.wrap ((k : Int) - 1) = (k : Int) - 1 := IntWalk.i64_in _ (by omega)
        have hw2 : ((k : Int) - 1).tdiv 2 = (q : Int) := by rw [Int.tdiv_eq_ediv_of_nonneg hd2]; exact hd3
        have hw4 : IntKind.i64.wrap (((k - 1 : Nat) : Int) / 2) = ((k - 1 : Nat) : Int) / 2 := IntWalk.i64_in _ (by omega)
        have hd5 : ((k - 1 : Nat) : Int) / 2 < (zs.length : Int) + 1 := by omega
        have hd6 : (0 : Int) ≤ ((k - 1 : Nat) : Int) / 2 := by omega
        have hd7 : (((k - 1 : Nat) : Int) / 2).toNat = q := by omega
        have hw3 : IntKind.i64.wrap (q : Int) = (q : Int) := IntWalk.i64_in _ (by omega)
        have hb1 : (k : Int) < (zs.length : Int) + 1 := by omega
        have hb2 : (q : Int) < (zs.length : Int) + 1 := by omega
        have HQ := Lib.hid hq
        clear hcell hu hv2 ev2 ev3 hq hd3 hw4 hd5 hd6 hd7
        generalize nth ys k = x at *
        generalize nth ys q = y at *
        obtain ⟨ap, aa, an, ac⟩ := x
        obtain ⟨bp, ba, bn, bc⟩ := y
        dsimp only at p0 p1 q0 q1
        go_wp2_with fail
        go_still_tail 23, (by kernel_rfl)
        go_wp2_with fail
        refine (ahead_calls _ _ _ _ _ _ _ _ _).mono ?_
        rintro e w2 ⟨rfl, hb⟩
        have hb : Below wr.heap.size wr w2 := (Below.refl _ _).drew.trans hb
        have hM2 := hM.ch (D := fun _ => False) (Ch.of hb) id (fun _ _ _ => id)
        have hch2 := hch.trans (Ch.of (D := fun g => g = Bh ∨ lo ≤ g) hb)
        by_cases hgt : bp < ap
        · have hU2 : Hid (HpU (swp ys k q) q) := by rw [HQ.out]; exact hpU_swap hU.out (by omega) hk (by rw [← HQ.out, hkk.out.1, hkk.out.2]; exact hgt)
          go_wp2_with fail
          refine (hsw.out _ hM2).mono ?_
          rintro e w3 ⟨⟨r, rfl⟩, hM3, hch3⟩
          have hch4 := hch2.trans (hch3.more (E := fun g => g = Bh ∨ lo ≤ g) fun g hg => by cases hg; exact .inr hg2)
          have hpm2 : Hid ((swp ys k q).Perm us) := (swp_perm hk (by omega)).trans hpm
          clear p0 p1 q0 q1 c0 c1 cf
          go_wp2
          go_roundw
          case rel => exact ⟨q, _, by go_num, by rw [swp_len]; omega, hM3, hpm2.out, hU2.out, hch4⟩
          case measure => simp [intOf]; omega
        · have hU2 := Lib.hid (hpU_done hU.out (.inr (by rw [← HQ.out, hkk.out.1, hkk.out.2]; omega)))
          clear p0 p1 q0 q1 c0 c1 cf
          go_wp2
          go_end0
          exact ⟨⟨_, rfl⟩, _, ys, hM2, by rw [HUS.out]; exact hpm, hU2.out, hch2⟩

end Go.Proofs.YtiemlklngmifdaaGreat
