/-
  impl.Bounded: the rule that is added for a level. No condition of its own.
-/
import Derived.Test.YtiemlklngmifdaaGreatBndD
import Derived.Test.YtiemlklngmifdaaGreatCopyProg
namespace Go.Proofs.YtiemlklngmifdaaGreat
set_option linter.unusedVariables false
set_option linter.unusedSimpArgs false
open Go.RowKit
set_option maxRecDepth 100000

theorem info_wl : (Tryz.prog.info? 104).map (fun i => (i.zero, i.size, i.bytes)) = some (some (.agg #[.int .i64 0, .int .i64 0]), 2, 16) := by kernel_rfl
/-- The boxes of the rule that is put together: its bound, its body. -/
structure ABg (w : World) (nb : Int) (ys : List (Int × Int)) (v : Value) (W : World) : Prop where
  rb : W.heap[w.heap.size + 2]? = some (.cells #[.bool false, .slice none 0 0, .bool true, .int .i64 nb, v] 100 (0, 0))
  zb : W.heap[w.heap.size + 1]? = some (.cells #[.bool false, .slice none 0 0, .bool false, .int .i64 0, .slice none 0 0] 100 (0, 0))
  row : OwnF (w.heap.size + 3) 104 W v ys
  bel : Below w.heap.size w W
theorem ABg.sl {w : World} {nb : Int} {ys : List (Int × Int)} {v : Value} {W : World} (h : ABg w nb ys v W) : ∃ a c, v = .slice a ys.length c := by
  rcases h.row.1.2 with ⟨hv, hn⟩ | ⟨g, cap, cur, hv, _⟩
  · exact ⟨none, 0, by rw [hv, hn]⟩
  · exact ⟨_, _, hv⟩
theorem ABg.bound {w : World} {nb : Int} {ys : List (Int × Int)} {v : Value} {W : World} (h : ABg w nb ys v W) (n2 : Int) : ABg w n2 ys v (W.setCell ⟨w.heap.size + 2, 3, none⟩ (.int .i64 n2)) :=
  ⟨by rw [heap_setCell_same W _ 3 _ _ _ h.rb]; rfl, (Below.heap_setCell _ _ _ _ (by simp)).trans h.zb, ⟨ownsRow_setCell_below h.row.1 (show w.heap.size + 2 < w.heap.size + 3 by omega) _, h.row.2⟩, h.bel.setCell (show w.heap.size ≤ w.heap.size + 2 by omega) _⟩
theorem ABg.alloc {w : World} {nb : Int} {ys : List (Int × Int)} {v : Value} {W : World} (h : ABg w nb ys v W) (o : Obj) : ABg w nb ys v (W.alloc o) :=
  ⟨(Below.heap_alloc _ _ _ (block_lt h.rb)).trans h.rb, (Below.heap_alloc _ _ _ (block_lt h.zb)).trans h.zb, ⟨h.row.1.alloc _, h.row.2⟩, h.bel.alloc h.bel.size _⟩
theorem ABg.push {w : World} {nb : Int} {ys : List (Int × Int)} {v : Value} {W : World} (h : ABg w nb ys v W) (q : Int × Int) (h1 : Fits q.1) (h2 : Fits q.2) (hl : ys.length ≤ 1000) :
    ∃ g' cap' w1, (Builtin.append_ #[98, 98] 98 #[v, .slice (some ⟨W.heap.size, 0, none⟩) 1 1]).run Tryz.prog (W.alloc (.cells #[.int .i64 q.1, .int .i64 q.2] 104)) = .ok (.slice (some ⟨g', 0, none⟩) (ys.length + 1) cap') w1 ∧
      w1.cell? ⟨w.heap.size + 2, 4, none⟩ = some v ∧ w1.frozen? ⟨w.heap.size + 2, 4, none⟩ = false ∧
      ABg w nb (ys ++ [q]) (.slice (some ⟨g', 0, none⟩) (ys.length + 1) cap') (w1.setCell ⟨w.heap.size + 2, 4, none⟩ (.slice (some ⟨g', 0, none⟩) (ys.length + 1) cap')) := by
  obtain ⟨i0, hi, hz0, hz1, hz2⟩ := info_parts info_wl
  have hA := h.alloc (.cells #[.int .i64 q.1, .int .i64 q.2] 104)
  have CY := Cells.new W [.int .i64 q.1, .int .i64 q.2] 104
  have hlt := block_lt h.rb
  obtain ⟨v', w1, r1, r2, r3, _⟩ := run_append_own (P := Tryz.prog) (w := W.alloc (.cells #[.int .i64 q.1, .int .i64 q.2] 104)) (w.heap.size + 3) 98 98 104 i0 _ 2 16 Tryz.underlying98 hi hz0 hz1 hz2 rfl (by omega) _ _ _ hA.row.1 ⟨W.heap.size, 0, none⟩ 1 1 [.int .i64 q.1, .int .i64 q.2] rfl
    (fun j u hu => by
      have hc := CY j u hu
      unfold Addr.add
      by_cases hj : j = 0
      · subst hj; simpa using hc
      · rw [if_neg hj]; exact hc) (by simp [Value.oneCell']) (by unfold maxLen; omega) (by omega) (by rw [World.size_alloc]; omega)
  obtain ⟨g', cap', rfl⟩ : ∃ g cap, v' = .slice (some ⟨g, 0, none⟩) (ys.length + 1) cap := by
    rcases r2.2 with ⟨_, hn⟩ | ⟨g, cap, cur, hv, _⟩
    · omega
    · exact ⟨g, cap, hv⟩
  have hne : ∀ k, v.ownBlock = some k → w.heap.size + 3 ≤ k := fun k hk => by
    rcases h.row.1.2 with ⟨hv9, _⟩ | ⟨g9, _, _, hv9, hg9, _⟩
    · rw [hv9] at hk; cases hk
    · rw [hv9] at hk
      have e9 : g9 = k := by simpa [Value.ownBlock] using hk
      omega
  have t4 : Ch (fun k => w.heap.size + 3 ≤ k) (W.alloc (.cells #[.int .i64 q.1, .int .i64 q.2] 104)) w1 := Ch.grown r3 hne
  have hrb := t4.at hA.rb (by omega)
  have hzb := t4.at hA.zb (by omega)
  have hb1 := hA.bel.trans ((t4.below (lo := w.heap.size + 3) (fun _ h => h) (by rw [World.size_alloc]; omega)).mono (by omega))
  refine ⟨g', cap', w1, r1, by rw [cell_of_row w1 _ 4 _ _ _ hrb]; rfl, frozen_of_row w1 _ 4 _ _ hrb, ?_, ?_, ⟨?_, ?_⟩, ?_⟩
  · rw [heap_setCell_same w1 _ 4 _ _ _ hrb]; rfl
  · exact (Below.heap_setCell _ _ _ _ (by simp)).trans hzb
  · rw [List.flatMap_append, List.length_append]
    exact ownsRow_setCell_below r2 (show w.heap.size + 2 < w.heap.size + 3 by omega) _
  · intro y hy
    rcases List.mem_append.1 hy with hy | hy
    · exact h.row.2 y hy
    · rw [List.mem_singleton.1 hy]; exact ⟨h1, h2⟩
  · exact hb1.setCell (show w.heap.size ≤ w.heap.size + 2 by omega) _

set_option maxHeartbeats 4000000 in
theorem above_calls {cs : List Value} {l : LevelD} {w : World} (c : Int) (hc : -100000 ≤ c ∧ c ≤ 100000) (h : Rd.R w cs l) (hl : l.lits.length ≤ 20) (hq : ∀ q ∈ l.lits, litB q.1 12 = true ∧ -1000 ≤ q.2 ∧ q.2 ≤ 1000) :
    Calls Tryz.prog 69 #[.agg cs.toArray, .int .i64 c] w fun e w' => ∃ cs', e = .returned (.agg cs'.toArray) ∧ Own w.heap.size w' cs' (aboveR c l) ∧ Below w.heap.size w w' := by
  obtain ⟨i0, hi, hz0, hz1, hz2⟩ := info_parts info_wl
  obtain ⟨c1, rfl, hf, g1⟩ := h
  obtain ⟨la, lc, rfl, _, hr⟩ := g1.sl
  have hlm := hr.1
  have HQ := Lib.hid hq
  clear g1 hq
  have HW : Hid (∀ W : World, W = ((w.alloc (.cells #[.int .i64 l.p, .slice la l.lits.length lc] 102)).alloc (.cells #[.bool false, .slice none 0 0, .bool false, .int .i64 0, .slice none 0 0] 100)).alloc (.cells #[.bool false, .slice none 0 0, .bool true, .int .i64 (c + 1), .slice none 0 0] 100) → ABg w (c + 1 + abS (l.lits.take 0)) (abB (l.lits.take 0)) (.slice none 0 0) W) := fun W e => by
    subst e
    have h1 := alloc_block (w.alloc (.cells #[.int .i64 l.p, .slice la l.lits.length lc] 102)) #[.bool false, .slice none 0 0, .bool false, .int .i64 0, .slice none 0 0] 100
    have h2 := alloc_block ((w.alloc (.cells #[.int .i64 l.p, .slice la l.lits.length lc] 102)).alloc (.cells #[.bool false, .slice none 0 0, .bool false, .int .i64 0, .slice none 0 0] 100)) #[.bool false, .slice none 0 0, .bool true, .int .i64 (c + 1), .slice none 0 0] 100
    rw [World.size_alloc] at h1
    rw [World.size_alloc, World.size_alloc] at h2
    refine ⟨?_, (Below.heap_alloc _ _ _ (by simp)).trans h1, ⟨⟨rfl, .inl ⟨rfl, rfl⟩⟩, by simp [abB]⟩, (((Below.refl _ _).alloc (Nat.le_refl _) _).alloc (by simp) _).alloc (by simp; omega) _⟩
    rw [h2]
    simp [abS]
  go_enter Tryz.func69, Tryz.ntmps69
  go_wp2_with fail
  go_upto_region 3 with fail
  obtain ⟨wb, hwb⟩ : ∃ wb, wb = ((w.alloc (.cells #[.int .i64 l.p, .slice la l.lits.length lc] 102)).alloc (.cells #[.bool false, .slice none 0 0, .bool false, .int .i64 0, .slice none 0 0] 100)).alloc (.cells #[.bool false, .slice none 0 0, .bool true, .int .i64 (c + 1), .slice none 0 0] 100) := ⟨_, rfl⟩
  have hA0 := HW.out wb hwb
  go_loopw [14] (fun i wr => ∃ (k : Nat) (v : Value), k ≤ l.lits.length ∧ i = .int .i64 (k : Int) ∧ ABg w (c + 1 + abS (l.lits.take k)) (abB (l.lits.take k)) v wr) (fun i _ => l.lits.length - (intOf i).toNat)
  case atStart => rw [← hwb]; exact ⟨0, _, Nat.zero_le _, rfl, hA0⟩
  case round =>
    obtain ⟨k, v, hk, rfl, hA⟩ := hrel
    clear hA0
    obtain ⟨hb0, hb1⟩ := abS_take_bd k (fun q hq => (HQ.out q hq).2) hl
    have hbl := abB_take_len l.lits k hl
    obtain ⟨y0, y1, y2, y3, y4⟩ := cells5 (w := wr) (b := w.heap.size + 2) (fun j u hu => by rw [Nat.zero_add, cell_of_row wr _ j _ _ _ hA.rb]; simpa using hu)
    have yf := fun j => frozen_of_row wr (w.heap.size + 2) j _ _ hA.rb
    have yf3 := yf 3
    have yf4 := yf 4
    have hlt2 := block_lt hA.rb
    by_cases hlt : k < l.lits.length
    · obtain ⟨b, off, rfl, hcb⟩ := hr.base (by omega)
      obtain ⟨ecs, hC, hR⟩ := hcb k hlt
      have hC := hC.later hA.bel
      obtain ⟨rfl, hF1, hF2⟩ := hR
      have u0 := hC.c0
      have u1 := hC.c1
      rw [show Rd.k (Int × Int) = 2 from rfl] at u0 u1
      obtain ⟨hlit, hw1, hw2⟩ := HQ.out _ (nth_mem hlt)
      have hL := lit12 hlit
      have hL1 : -12 ≤ (nth l.lits k).1 := by omega
      have hL2 : (nth l.lits k).1 ≤ 12 := by omega
      have hkl : (k : Int) < (l.lits.length : Int) := by omega
      have HN := Lib.hid (fun hn => abS_neg hlt hn)
      have HNB := Lib.hid (fun hn => abB_neg hlt hn)
      have HP := Lib.hid (fun hn => abB_pos hlt hn)
      have HZ := Lib.hid (fun hn => abB_zero hlt hn)
      have HM := Lib.hid (fun hn => abS_non hlt hn)
      have HA := Lib.hid hA
      clear hC hcb hL hlit hA yf
      generalize abS (l.lits.take k) = sb at *
      generalize nth l.lits k = q at *
      obtain ⟨L, W⟩ := q
      dsimp only at u0 u1 hw1 hw2 hL1 hL2 hF1 hF2 HN HNB HP HZ HM
      obtain ⟨va, vc, rfl⟩ := HA.out.sl
      have hF3 : Fits (-L) := by unfold Fits; omega
      have hF4 : Fits (-W) := by unfold Fits; omega
      have hA1 := (HA.out.alloc (.cells #[.int .i64 L, .int .i64 W] 104))
      by_cases hneg : W < 0
      · have hpos : 0 < -W := by omega
        have hA2 := ((HA.out.bound (c + 1 + sb + -W)).alloc (.cells #[.int .i64 (-L), .int .i64 (-W)] 104))
        obtain ⟨g', cap', w1, r1, e4, f4, hA3⟩ := hA2.push (-L, -W) hF3 hF4 (by omega)
        have hzz : ((wr.setCell ⟨w.heap.size + 2, 3, none⟩ (.int .i64 (c + 1 + sb + -W))).alloc (.cells #[.int .i64 (-L), .int .i64 (-W)] 104)).heap.size = wr.heap.size + 1 := by rw [World.size_alloc]; simp [World.setCell]
        rw [hzz] at r1
        have HF := Lib.hid hA3
        have hbd := Lib.hid (HN.out hneg)
        have hbb := Lib.hid (HNB.out hneg)
        clear hA1 hA2 hzz hA3
        go_wp2_with (at_builtin; refine wpList_append_of rfl _ _ rfl rfl rfl r1 ?_)
        go_roundw
        case rel => exact ⟨k + 1, _, by omega, by go_num, by rw [hbd.out, hbb.out, ← Int.add_assoc]; exact HF.out⟩
        case measure => simp [intOf]; omega
      · by_cases hpos : 0 < W
        · obtain ⟨g', cap', w1, r1, e4, f4, hA3⟩ := hA1.push (L, W) hF1 hF2 (by omega)
          rw [World.size_alloc] at r1
          have HF := Lib.hid hA3
          have hbd := Lib.hid (HM.out hneg)
          have hbb := Lib.hid (HP.out hpos)
          have hnn : 0 ≤ W := by omega
          clear hA1 hA3 hneg
          go_wp2_with (at_builtin; refine wpList_append_of rfl _ _ rfl rfl rfl r1 ?_)
          go_roundw
          case rel => exact ⟨k + 1, _, by omega, by go_num, by rw [hbd.out, hbb.out]; exact HF.out⟩
          case measure => simp [intOf]; omega
        · have hW0 : W = 0 := by omega
          have hbd := Lib.hid (HM.out hneg)
          have hbb := Lib.hid (HZ.out hW0)
          subst hW0
          clear hneg hpos
          go_wp2
          go_roundw
          case rel => exact ⟨k + 1, _, by omega, by go_num, by rw [hbd.out, hbb.out]; exact hA1⟩
          case measure => simp [intOf]; omega
    · have hkx : l.lits.take k = l.lits := List.take_of_length_le (by omega)
      have HA : Hid (ABg w (aboveR c l).bound (aboveR c l).body v wr) := by
        rw [hkx] at hA
        exact hA
      have HBD : Hid ((aboveR c l).bound = c + 1 + abS (l.lits.take k)) := by show _ = _; rw [hkx]; rfl
      obtain ⟨va, vc, rfl⟩ := HA.out.sl
      obtain ⟨z0, z1, z2, z3, z4⟩ := cells5 (w := wr) (b := w.heap.size + 1) (fun j u hu => by rw [Nat.zero_add, cell_of_row wr _ j _ _ _ hA.zb]; simpa using hu)
      have zf := fun j => frozen_of_row wr (w.heap.size + 1) j _ _ hA.zb
      have zf0 := zf 0
      have zf1 := zf 1
      have zf2 := zf 2
      have zf3 := zf 3
      have zf4 := zf 4
      have hFB : Fits (aboveR c l).bound := by rw [HBD.out]; unfold Fits; omega
      clear hkx hA zf yf
      generalize abS (l.lits.take k) = sb at *
      have hbod : Hid (aboveR c l = aboveR c l) := rfl
      go_wp2
      refine bodyPost_ret (v := .agg #[.bool false, .slice none 0 0, .bool true, .int .i64 (c + 1 + sb), .slice va (aboveR c l).body.length vc])
        (by simp [results, Tryz.results69, go_sem, z0, z1, z2, z3, z4]) rfl ⟨[.bool false, .slice none 0 0, .bool true, .int .i64 (c + 1 + sb), .slice va (aboveR c l).body.length vc], rfl, ?_, ?_⟩
      · have hrow := HA.out.row
        have hrowF : OwnF (w.heap.size + 3) 104 (put wr (w.heap.size + 1) 0 [.bool false, .slice none 0 0, .bool true, .int .i64 (c + 1 + sb), .slice va (aboveR c l).body.length vc]) (.slice va (aboveR c l).body.length vc) (aboveR c l).body :=
          hrow.ch (D := fun g => g = w.heap.size + 1) (by
            have k1 := put_chg (w.heap.size + 1) [.bool false, .slice none 0 0, .bool true, .int .i64 (c + 1 + sb), .slice va (aboveR c l).body.length vc] wr 0
            exact ⟨k1.os, k1.tape, k1.output, Nat.le_of_eq k1.size.symm, fun g _ hg => k1.block g (by simpa using hg)⟩) (fun g hg hh => by
            rcases hrow.1.2 with ⟨hv9, _⟩ | ⟨g9, _, _, hv9, hg9, _⟩
            · rw [hv9] at hg; cases hg
            · rw [hv9] at hg
              have e9 : g9 = g := by simpa [Value.ownBlock] using hg
              omega)
        have hown := hrowF.own.shut
        have hnil : ∀ W : World, OwnIn (w.heap.size + 3) (w.heap.size + 3) W [.slice none 0 0] ([] : List Int) := fun W => ⟨[], ⟨none, 0, rfl, by simp, by omega, .inl ⟨rfl, rfl, rfl⟩⟩, by simp⟩
        have hr := own_rule (lo := w.heap.size) (x := aboveR c l) (hnil _) hown (Nat.le_refl _) (by omega) (Nat.le_refl _) hFB
        rw [HBD.out] at hr
        exact hr
      · repeat (refine Below.setCell ?_ (by simp; try omega) _)
        exact HA.out.bel

end Go.Proofs.YtiemlklngmifdaaGreat
