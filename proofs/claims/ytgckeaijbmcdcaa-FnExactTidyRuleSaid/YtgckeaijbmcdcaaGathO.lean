/-
  The program's literals gathered. No condition of its own.
-/
import Derived.Test.YtgckeaijbmcdcaaGathI
namespace Go.Proofs.Ytgckeaijbmcdcaa
open Go.RowKit
set_option maxRecDepth 100000

theorem PRow.slice0 {B : Nat} {D : Nat → Prop} {w : World} {v : Value} {xs : List Pr} (h : PRow B D w v xs) (hl : xs.length = 0) : ∃ a c, v = .slice a 0 c := by
  rcases h.form with ⟨rfl, _⟩ | ⟨g, c, rfl, _⟩
  · exact ⟨_, _, rfl⟩
  · exact ⟨_, _, by rw [hl]⟩
theorem PRow.sliceP {B : Nat} {D : Nat → Prop} {w : World} {v : Value} {xs : List Pr} {m : Nat} (h : PRow B D w v xs) (hl : xs.length = m + 1) : ∃ g c, v = .slice (some ⟨g, 0, none⟩) (m + 1) c ∧ D g ∧ B ≤ g ∧ g < w.heap.size := by
  rcases h.form with ⟨rfl, rfl⟩ | ⟨g, c, rfl, _, _, h1, h2, h3⟩
  · simp at hl
  · exact ⟨_, _, by rw [hl], h1, h2, h3⟩

theorem sumH_bg {f : Pr → Bool} {l : List Pr} : (∀ p ∈ l, 1 ≤ p.2 ∧ p.2 ≤ 20000) → 0 ≤ sumH f l ∧ sumH f l ≤ 20000 * (l.length : Int) := by
  refine snocRec (P := fun l => (∀ p ∈ l, 1 ≤ p.2 ∧ p.2 ≤ 20000) → 0 ≤ sumH f l ∧ sumH f l ≤ 20000 * (l.length : Int)) (fun _ => by simp [sumH]) (fun l p ih h => ?_) l
  have := ih fun q hq => h q (List.mem_append_left _ hq)
  have h2 := h p (by simp)
  rw [sumH_snoc, List.length_append]
  push_cast
  split <;> simp <;> omega
theorem sumH_take_bg {f : Pr → Bool} {l : List Pr} (k : Nat) (h : ∀ p ∈ l, 1 ≤ p.2 ∧ p.2 ≤ 20000) (hl : l.length ≤ 20) : 0 ≤ sumH f (l.take k) ∧ sumH f (l.take k) ≤ 400000 := by
  have h1 := sumH_bg (f := f) (l := l.take k) fun p hp => h p (List.mem_of_mem_take hp)
  have h2 : (l.take k).length ≤ 20 := by rw [List.length_take]; omega
  omega

set_option maxHeartbeats 4000000 in
theorem gathered_calls {v : Value} {xs : List Pr} {w : World} (h : RdL w [v] xs) (hw : WBg xs) :
    Calls Try.prog 95 #[v] w fun e w' => ∃ v', e = .returned v' ∧ PRow w.heap.size (fun f => w.heap.size ≤ f) w' v' (gathL xs) ∧ Below w.heap.size w w' := by
  obtain ⟨i0, hi, hz0, hz1, hz2⟩ := info_parts info_cloneWLit
  have h0 := h
  obtain ⟨a, cap, rfl, _, hr⟩ := h.sl
  have hm := hr.1
  have hlx := hw.1
  have HX := Lib.hid hw
  clear h hr hw
  go_enter Try.func95, Try.ntmps95
  go_wp2_with (at_make; refine wpList_make_own _ rfl _ _ 46 rfl w.heap.size 84 i0 _ 2 Try.underlying46 hi hz0 hz1 _ _ _ xs.length rfl rfl rfl ?c1 ?c2 ?c3 ?_)
  case c1 => rw [hz2]; omega
  case c2 => unfold maxLen; omega
  case c3 => exact Nat.le_refl _
  intro w1 hown hgrow
  have t1 : Below w.heap.size w w1 := (Below.refl _ _).grown hgrow (Nat.le_refl _) (fun k hk => by cases hk)
  have hm1 : PRow w.heap.size (fun f => f = w.heap.size) w1 (.slice (some ⟨w.heap.size, 0, none⟩) 0 xs.length) [] := PRow.made (g := 0) hown fun g hg => by simp [Value.ownBlock] at hg; exact hg.symm
  have hI := inOrder_calls (Rd.mono (α := List (Int × Int)) t1 h0) HX.out
  have hz1' := (hm1.lt (g := w.heap.size) rfl).2
  clear hown hgrow h0
  go_wp2_with fail
  refine hI.mono ?_
  rintro e w2 ⟨v2, rfl, o2, b2⟩
  have hmade := hm1.later b2
  have t2 := t1.trans (b2.mono t1.size)
  have z2 := b2.size
  clear hI hm1 t1
  have hle := ordL_len HX.out.inR
  have hsrt := ordL_srt xs
  have hwb : ∀ p ∈ ordL xs, 1 ≤ p.2 ∧ p.2 ≤ 20000 := fun p hp => (HX.out.2 p (ordTo_mem' hp)).2
  have hGE := gTo_end HX.out.inR
  obtain ⟨ys, hys⟩ : ∃ ys, ys = ordL xs := ⟨_, rfl⟩
  rw [← hys] at o2 hle hsrt hwb hGE
  have HS := Lib.hid hsrt
  have HWB := Lib.hid hwb
  have HGE := Lib.hid hGE
  clear hys b2 hsrt hwb hGE
  have hlY : (ys.length : Int) ≤ 20 := by omega
  obtain ⟨ay, cy, rfl, hyC⟩ : ∃ ay cy, v2 = .slice ay ys.length cy ∧ (0 < ys.length → ∃ gy, ay = some ⟨gy, 0, none⟩ ∧ w.heap.size < gy ∧ gy < w2.heap.size ∧ ∀ i, i < ys.length → w2.cell? ⟨gy, i * 2, none⟩ = some (.int .i64 (nth ys i).1) ∧ w2.cell? ⟨gy, i * 2 + 1, none⟩ = some (.int .i64 (nth ys i).2)) := by
    rcases o2.form with ⟨rfl, rfl⟩ | ⟨g, c, rfl, _, _, hD, hB, hlt⟩
    · exact ⟨none, 0, rfl, fun h => by simp at h⟩
    · exact ⟨_, c, rfl, fun _ => ⟨g, rfl, by omega, hlt, fun i hi => o2.cell hi⟩⟩
  have hyF := o2.fits
  clear o2
  have hle' : ys.length ≤ 20 := by omega
  clear hle
  go_wp2
  go_loopw [3, 5, 6, 13] (fun v _ _ i wr => ∃ k : Nat, k ≤ ys.length ∧ i = .int .i64 k ∧ PRow w.heap.size (fun f => f = w.heap.size ∨ w2.heap.size ≤ f) wr v (gTo ys k) ∧ Kp w2.heap.size (fun _ => False) w.heap.size w2 wr) (fun _ _ _ i _ => ys.length - (intOf i).toNat)
  case atStart => exact ⟨0, Nat.zero_le _, rfl, hmade.weak (Nat.le_refl _) fun f hf => .inl hf, Kp.refl _ _ _ _⟩
  case round =>
    obtain ⟨k, hk, rfl, ho, hK⟩ := hrel
    clear hmade
    have hsz := hK.size
    by_cases hlt : k < ys.length
    · obtain ⟨gy, rfl, hg1, hg2, hC⟩ := hyC (by omega)
      have u0 := (World.cell?_of_block (a := ⟨gy, k * 2, none⟩) (hK.block gy hg2 (fun h => h) (by omega))).trans (hC k hlt).1
      have u1 := (World.cell?_of_block (a := ⟨gy, k * 2 + 1, none⟩) (hK.block gy hg2 (fun h => h) (by omega))).trans (hC k hlt).2
      have hkn : (0 : Int) ≤ (k : Int) := by omega
      have hkl : (k : Int) < (ys.length : Int) := by omega
      have hnl := onceTo_len ys k
      rw [← gTo_len] at hnl
      have hf1 := (hyF _ (nth_mem hlt)).1
      have hf2 := (hyF _ (nth_mem hlt)).2
      have hbA := (Below.refl wr.heap.size wr).alloc (Nat.le_refl _) (.cells #[.int .i64 (nth ys k).1, .int .i64 (nth ys k).2] 84)
      have CB := Cells.new wr [.int .i64 (nth ys k).1, .int .i64 (nth ys k).2] 84
      have hszb : w2.heap.size ≤ (wr.alloc (.cells #[.int .i64 (nth ys k).1, .int .i64 (nth ys k).2] 84)).heap.size := by simp; omega
      have hoB := ho.later hbA
      have hKB := hK.step hsz hbA
      clear hyC hC ho hK
      have hnl' : (gTo ys k).length ≤ 20 := by omega
      rcases Nat.eq_zero_or_pos k with h0 | h0
      · have hN : newB ys k = true := by rw [h0]; rfl
        have hn := Lib.hid (gTo_new HS.out hlt hN)
        obtain ⟨av, cv, rfl⟩ := hoB.slice0 (by omega)
        clear hN hbA h0 hnl
        go_upto_region 6 with fail
        generalize (wr.alloc (.cells #[.int .i64 (nth ys k).1, .int .i64 (nth ys k).2] 84)) = wb at CB hszb hoB hKB ⊢
        have ho := hoB
        have hK := hKB
        have cb0 := CB.c0
        have cb1 := CB.c1
        clear hoB hKB CB u0 u1
        go_quiet (fail)
        have hbA := (Below.refl (wb.drewN nq).heap.size (wb.drewN nq)).alloc (Nat.le_refl _) (.cells #[.int .i64 (nth ys k).1, .int .i64 (nth ys k).2] 84)
        have hq := below_drewN (Below.refl wb.heap.size wb) nq
        have hcn : Cells ((wb.drewN nq).alloc (.cells #[.int .i64 (nth ys k).1, .int .i64 (nth ys k).2] 84)) wb.heap.size 0 [.int .i64 (nth ys k).1, .int .i64 (nth ys k).2] := Cells.new (wb.drewN nq) [.int .i64 (nth ys k).1, .int .i64 (nth ys k).2] 84
        obtain ⟨v4, w4, r4, o4, b4, k4⟩ := PRow.append (P := Try.prog) (t := 46) (ty := 46) (c := 1) (p := nth ys k) i0 _ Try.underlying46 hi hz0 hz1 hz2 rfl ((ho.later hq).later hbA) hcn ⟨hf1, hf2⟩ (by omega) (by simp; omega)
        have hzA : ((wb.drewN nq).alloc (.cells #[.int .i64 (nth ys k).1, .int .i64 (nth ys k).2] 84)).heap.size = wb.heap.size + 1 := World.size_alloc _ _
        have K1 := (hK.step hszb hq).step (w'' := (wb.drewN nq).alloc (.cells #[.int .i64 (nth ys k).1, .int .i64 (nth ys k).2] 84)) hszb hbA
        have o4' := Lib.hid (o4.weak (Nat.le_refl _) (D' := fun f => f = w.heap.size ∨ w2.heap.size ≤ f) fun f hf => by
          rcases hf with hf | hf
          · exact hf
          · exact .inr (by omega))
        have K4 : Hid (Kp w2.heap.size (fun _ => False) w.heap.size w2 w4) := ⟨b4.os.trans K1.os, b4.tape.trans K1.tape, b4.output.trans K1.output, Nat.le_trans K1.size b4.size, fun j h1 h2 h3 => (k4 j (by omega) (fun hd => by omega)).trans (K1.block j h1 h2 h3)⟩
        clear o4 b4 k4 K1 hzA hcn hbA hq ho hK hszb
        go_wp2_with (at_builtin; refine wpList_append_of rfl _ _ rfl rfl rfl r4 ?_)
        go_roundw
        case rel => exact ⟨k + 1, by omega, by go_num, by rw [hn.out]; exact o4'.out, K4.out⟩
        case measure => simp [intOf]; omega
      · cases hN : newB ys k
        · obtain ⟨m, S, hlen, hnt, hS, hset⟩ := gTo_old HS.out hlt hN
          obtain ⟨g, cv, rfl, hgD, hgB, hgl⟩ := hoB.sliceP hlen
          have hsb := sumH_take_bg (f := fun q => q.1 == (nth ys k).1) k HWB.out hle'
          rw [← hS] at hsb
          obtain ⟨hs0, hs1⟩ := hsb
          obtain ⟨hp0, hp1⟩ := HWB.out _ (nth_mem hlt)
          have hn := Lib.hid hset
          clear hN hbA h0 hnl hS hset
          go_upto_region 6 with fail
          generalize (wr.alloc (.cells #[.int .i64 (nth ys k).1, .int .i64 (nth ys k).2] 84)) = wb at CB hszb hoB hKB hgl ⊢
          have cb0 := CB.c0
          have cb1 := CB.c1
          obtain ⟨c0, c1⟩ := hoB.cell (i := m) (by omega)
          rw [hnt] at c0 c1
          have hmn : (0 : Int) ≤ (m : Int) := by omega
          have hml : (m : Int) < (m : Int) + 1 := by omega
          clear u0 u1 CB
          go_quiet (fail)
          have hq := below_drewN (Below.refl wb.heap.size wb) nq
          have o3 := hoB.later hq
          have K3 := hKB.step hszb hq
          have hgl3 : g < (wb.drewN nq).heap.size := hgl
          have d1 : (wb.drewN nq).cell? ⟨wr.heap.size, 1, none⟩ = some (.int .i64 (nth ys k).2) := cb1
          have d2 : (wb.drewN nq).cell? ⟨g, m * 2 + 1, none⟩ = some (.int .i64 S) := c1
          have hfz := fun j => o3.frozen j
          clear cb0 cb1 c0 c1 hoB hKB hszb hgl hq
          generalize wb.drewN nq = wq at o3 K3 hgl3 d1 d2 hfz ⊢
          have hfS : Fits (S + (nth ys k).2) := by unfold Fits; omega
          have hst := o3.setW (i := m) (by omega) hfS
          rw [hnt] at hst
          have HST := Lib.hid (hst.later (Below.drew (Below.refl _ _)))
          have HK3 := Lib.hid ((K3.setD (hgD) (m * 2 + 1) (.int .i64 (S + (nth ys k).2))).step (by have := K3.size; simp [World.setCell]; omega) (Below.drew (Below.refl _ _)))
          clear hst o3 K3 hfS hnt
          go_wp2_with fail
          go_big_region
          all_goals go_wp2
          go_roundw
          case rel => exact ⟨k + 1, by omega, by go_num, by rw [hn.out]; exact HST.out, HK3.out⟩
          case measure => simp [intOf]; omega
        · obtain ⟨m, S, hlen, hnt, hne⟩ := gTo_lastNew HS.out h0 hlt hN
          obtain ⟨g, cv, rfl, hgD, hgB, hgl⟩ := hoB.sliceP hlen
          have hn := Lib.hid (gTo_new HS.out hlt hN)
          clear hN hbA h0 hnl
          go_upto_region 6 with fail
          generalize (wr.alloc (.cells #[.int .i64 (nth ys k).1, .int .i64 (nth ys k).2] 84)) = wb at CB hszb hoB hKB hgl ⊢
          have cb0 := CB.c0
          have cb1 := CB.c1
          have c0 := (hoB.cell (i := m) (by omega)).1
          rw [hnt] at c0
          have ho := hoB
          have hK := hKB
          have hmn : (0 : Int) ≤ (m : Int) := by omega
          have hml : (m : Int) < (m : Int) + 1 := by omega
          clear hoB hKB CB u0 u1 hnt hgD hgB hgl
          go_quiet (fail)
          clear c0 hne
          have hbA := (Below.refl (wb.drewN nq).heap.size (wb.drewN nq)).alloc (Nat.le_refl _) (.cells #[.int .i64 (nth ys k).1, .int .i64 (nth ys k).2] 84)
          have hq := below_drewN (Below.refl wb.heap.size wb) nq
          have hcn : Cells ((wb.drewN nq).alloc (.cells #[.int .i64 (nth ys k).1, .int .i64 (nth ys k).2] 84)) wb.heap.size 0 [.int .i64 (nth ys k).1, .int .i64 (nth ys k).2] := Cells.new (wb.drewN nq) [.int .i64 (nth ys k).1, .int .i64 (nth ys k).2] 84
          obtain ⟨v4, w4, r4, o4, b4, k4⟩ := PRow.append (P := Try.prog) (t := 46) (ty := 46) (c := 1) (p := nth ys k) i0 _ Try.underlying46 hi hz0 hz1 hz2 rfl ((ho.later hq).later hbA) hcn ⟨hf1, hf2⟩ (by omega) (by simp; omega)
          have hzA : ((wb.drewN nq).alloc (.cells #[.int .i64 (nth ys k).1, .int .i64 (nth ys k).2] 84)).heap.size = wb.heap.size + 1 := World.size_alloc _ _
          have K1 := (hK.step hszb hq).step (w'' := (wb.drewN nq).alloc (.cells #[.int .i64 (nth ys k).1, .int .i64 (nth ys k).2] 84)) hszb hbA
          have o4' := Lib.hid (o4.weak (Nat.le_refl _) (D' := fun f => f = w.heap.size ∨ w2.heap.size ≤ f) fun f hf => by
            rcases hf with hf | hf
            · exact hf
            · exact .inr (by omega))
          have K4 : Hid (Kp w2.heap.size (fun _ => False) w.heap.size w2 w4) := ⟨b4.os.trans K1.os, b4.tape.trans K1.tape, b4.output.trans K1.output, Nat.le_trans K1.size b4.size, fun j h1 h2 h3 => (k4 j (by omega) (fun hd => by omega)).trans (K1.block j h1 h2 h3)⟩
          clear o4 b4 k4 K1 hzA hcn hbA hq ho hK hszb
          go_wp2_with (at_builtin; refine wpList_append_of rfl _ _ rfl rfl rfl r4 ?_)
          go_roundw
          case rel => exact ⟨k + 1, by omega, by go_num, by rw [hn.out]; exact o4'.out, K4.out⟩
          case measure => simp [intOf]; omega
    · obtain rfl : k = ys.length := by omega
      have hE := HGE
      have hB := Lib.hid (t2.trans (hK.below (lo := w.heap.size) (by omega) (Nat.le_refl _) fun _ h => h.elim))
      have hO := Lib.hid (ho.weak (Nat.le_refl _) (D' := fun f => w.heap.size ≤ f) fun f hf => by omega)
      clear ho hK
      go_wp2
      go_ret
      exact ⟨_, rfl, by rw [← hE.out]; exact hO.out, hB.out⟩

end Go.Proofs.Ytgckeaijbmcdcaa
