/-
  Lists of sets as words: collected, compared. No condition of its own.
-/
import Derived.Test.YtleimijgpmoifaaGreatCon
import Derived.Test.YtleimijgpmoifaaGreatAppend
import Derived.Maps.AppendAt
import Derived.StillTailTactics
namespace Go.Proofs.YtleimijgpmoifaaGreat
set_option linter.unusedVariables false
set_option linter.unusedSimpArgs false
open Go.RowKit Go.Shelf
set_option maxRecDepth 100000

attribute [local go_sem] Oper.semAt_some

theorem wpListIn_append_ofM {F : Fence} {n : Nat} {P : Program} {ops : Array Oper} {rest : List Oper} {o : Oper} {a : Act} {Q : Exit → Act → World → Prop} {w w' : World} {t : TypeId} {v x v' : Value} (hg : o.guard = none) (s y : Operand)
    (hop : o.op = .call { callee := .builtin .append, args := #[s, y], argTypes := #[t, t] }) (hs : a.eval s = v) (hx : a.eval y = x)
    (hrun : (Builtin.append_ #[t, t] o.type #[v, x]).run P w = .ok v' w') (hK : wpListIn F n P ops Q rest (a.put o.dst v') w') : wpListIn F n P ops Q (o :: rest) a w := by
  refine wpListIn_plain hg fun K hK' => ?_
  unfold Oper.wpIn
  refine ⟨?_, ?_⟩
  · simp [Oper.about, hop, resolve, Target.leads, Sem.run_pure]
  · rw [Oper.semAt_plain F _ _ (by rw [hop]; intro c hc'; cases hc')]
    simp [execOp, hop, resolve, invoke, builtin, hs, hx, hrun, Result.andThen]
    exact hK' _ _ hK

/-- A row of sets, as words. -/
abbrev OwnM (lo : Nat) (w : World) (v : Value) (ms : List Nat) : Prop := w.ownsRow lo 73 1 v ms.length (ms.map fun m : Nat => Value.int .u16 ((m : Nat) : Int))
theorem info_as : (Tryz.prog.info? 73).map (fun i => (i.zero, i.size, i.bytes)) = some (some (.int .u16 0), 1, 2) := by kernel_rfl
theorem own_masks {lo lo' : Nat} {W : World} {v : Value} {xs : List MaskI} {L : List Nat} (h : W.ownsRow lo' 73 1 v xs.length (xs.map fun x => Value.int .u16 (x.1 : Int))) (hS : xs.map (·.1) = L) (hlo : lo ≤ lo') : OwnM lo W v L := by
  subst hS
  show W.ownsRow lo 73 1 v (xs.map (·.1)).length ((xs.map (·.1)).map fun m : Nat => Value.int .u16 ((m : Nat) : Int))
  rw [List.length_map, List.map_map]
  exact ⟨h.1, h.2.imp id fun ⟨g, cap, cur, e1, e2, r⟩ => ⟨g, cap, cur, e1, Nat.le_trans hlo e2, r⟩⟩
theorem own_slice {lo : Nat} {W : World} {v : Value} {ms : List Nat} (h : OwnM lo W v ms) : ∃ a c, v = .slice a ms.length c := by
  rcases h.2 with ⟨rfl, hn⟩ | ⟨g, cap, cur, rfl, _⟩
  · exact ⟨none, 0, by rw [hn]⟩
  · exact ⟨_, _, rfl⟩
theorem own_cell {lo : Nat} {W : World} {v : Value} {ms : List Nat} (h : OwnM lo W v ms) (hne : 0 < ms.length) : ∃ g c, v = .slice (some ⟨g, 0, none⟩) ms.length c ∧ ∀ k, k < ms.length → W.cell? ⟨g, k, none⟩ = some (.int .u16 ((nth ms k : Nat) : Int)) := by
  have h0 := h
  rcases h.2 with ⟨rfl, hn⟩ | ⟨g, cap, cur, rfl, _⟩
  · omega
  · refine ⟨g, cap, rfl, fun k hk => ?_⟩
    rw [h0.cellAt _ (by omega), List.getElem?_map, List.getElem?_eq_getElem hk, nth_eq hk]
    rfl
theorem ownM_kept {lo : Nat} {w w' : World} {v : Value} {ms : List Nat} (h : OwnM lo w v ms) (hb : Below w.heap.size w w') : OwnM lo w' v ms :=
  ⟨h.1, h.2.imp id fun ⟨g, cap, cur, e1, e2, e3, r⟩ => ⟨g, cap, cur, e1, e2, (hb.block g (block_lt e3)).trans e3, r⟩⟩

set_option maxHeartbeats 8000000 in
theorem appendSeqM_calls {cs : List Value} {p : ProgD} (w : World) (Bp : Nat) (hR : Rd.R w cs p) (hb : Cells w Bp 0 cs) :
    Calls Tryz.prog 119 #[.slice none 0 0, .func (.func 120) #[] #[.pointer (some ⟨Bp, 0, none⟩)]] w fun e w' => ∃ v, e = .returned v ∧ OwnM w.heap.size w' v (ansN p) ∧ Below w.heap.size w w' := by
  obtain ⟨i0, hi, hz0, hz1, hz2⟩ := info_parts info_as
  obtain ⟨p0, p1, p2, p3, p4, p5, p6, p7, rfl⟩ := list8 (Rd.len hR)
  refine (callsIn_wide (n := 9)).1 ?_
  obtain ⟨F, hF⟩ : ∃ F, F = Fence.wide := ⟨_, rfl⟩
  rw [← hF]
  have hro := wideR hF
  have hf1 : F.fn 120 := wideF hF _
  have HF := Lib.hid hF
  refine callsIn_of_wp_marks Tryz.func119 rfl (wideF hF _) ?_ hro
  clear hF
  simp only [Tryz.ntmps119, List.size_toArray, List.length_cons, List.length_nil, Nat.reduceAdd, Nat.reduceSub, Array.replicate_succ, Array.replicate_zero, List.push_toArray, List.append_toArray, List.nil_append, List.cons_append]
  gi_wp2
  have bO := Boxed.new w 99 (.slice none 0 0)
  have tO : Below w.heap.size w (w.alloc (.cells #[.slice none 0 0] 99)) := (Below.refl _ w).alloc (Nat.le_refl _) _
  have tR : Below w.heap.size w (w.alloc (.cells #[.slice none 0 0] 99)) := tO
  have zO : (w.alloc (.cells #[.slice none 0 0] 99)).heap.size = w.heap.size + 1 := by simp
  generalize w.alloc (.cells #[.slice none 0 0] 99) = wq at *
  have HZ := Lib.hid zO
  have hzl : w.heap.size < wq.heap.size := by omega
  clear zO
  have hseq := answers_seq HF.out 8 (by omega) wq Bp (Rd.mono tO hR) (hb.later tO) wq.heap.size
  have boxEq : ∀ {X : World} {v v' : Value}, Boxed X w.heap.size 99 v → Boxed X w.heap.size 99 v' → v = v' := fun h1 h2 => by
    unfold Boxed at h1 h2
    rw [h1] at h2
    simpa using h2
  have zw : ∀ g, ¬ zBox w.heap.size 99 wq g := by
    rintro g ⟨v, h1, h2⟩
    rw [← boxEq bO h1] at h2
    cases h2
  clear HF hR hb tR
  refine wpIn_rangeFunc_N hro (by omega) (gf := 120) (lb := #[.pointer (some ⟨Bp, 0, none⟩)]) rfl hf1 (enters_of Tryz.func120 (by kernel_rfl) rfl)
    hseq (Nat.le_refl _) (Below.refl _ _) (fun _ => rfl) (zBox w.heap.size 99) (zBox_ok (by omega)) (fun g hg => absurd hg (zw g)) (fun g _ => zw g)
    (fun pre X => (∃ v, Boxed X w.heap.size 99 v ∧ X.ownsRow wq.heap.size 73 1 v pre.length (pre.map fun x => Value.int .u16 (x.1 : Int)) ∧ True) ∧ Below w.heap.size w X)
    (OwnFrom.and (Own.from (holdsRow_own wq.heap.size w.heap.size 99 73 1 (fun pre : List MaskI => pre.length) (fun pre => pre.map fun x => Value.int .u16 (x.1 : Int)) (fun _ _ => True)) _) (ownFrom_below (Nat.le_refl _) (by omega)))
    ⟨⟨_, bO, World.ownsRow_nil _ _ _ _, trivial⟩, tO⟩
    (fun x => { tmps := #[.slice none 0 0, .func (.func 120) #[] #[.pointer (some ⟨Bp, 0, none⟩)], .pointer (some ⟨w.heap.size, 0, none⟩), undef, .slice none 0 0, .int .u16 (x.1 : Int), .func (.func 120) #[] #[.pointer (some ⟨Bp, 0, none⟩)], .int .u16 (x.1 : Int), undef, undef, undef, undef, undef], defers := [] }) ?assign ?body ?done
  case assign =>
    intro lc x X K hK
    gi_wp2
    exact hK
  case body =>
    rintro lc pre x X ⟨⟨v, hv, hrow, _⟩, hB⟩ hlen hzb hsX
    have hc := hv.cell
    have hvl := hv.lt
    have hrow1 := hrow.alloc (.cells #[.int .u16 (x.1 : Int)] 73)
    have zA : (X.alloc (.cells #[.int .u16 (x.1 : Int)] 73)).heap.size = X.heap.size + 1 := by simp
    obtain ⟨v', w1, r1, r2, r3, _, r5⟩ := run_append_own_at (P := Tryz.prog) (w := X.alloc (.cells #[.int .u16 (x.1 : Int)] 73)) wq.heap.size 99 99 73 i0 (.int .u16 0) 1 2 Tryz.underlying99 hi hz0 hz1 hz2 rfl (by decide) v pre.length _ hrow1 ⟨X.heap.size, 0, none⟩ 1 1 [.int .u16 (x.1 : Int)] rfl (cell_one_new _ _ _) (by simp [Value.oneCell']) (by unfold maxLen; omega) (by omega) (by omega)
    obtain ⟨g', cap', rfl⟩ := ownsRow_succ r2
    have hv1 := (hv.alloc (.cells #[.int .u16 (x.1 : Int)] 73)).kept r3 (fun e => by have := (hrow.lt _ e.symm).1; omega)
    have hc1 := hv1.cell
    have hz1' := hv1.frozen
    have hset := hv1.set (.slice (some ⟨g', 0, none⟩) (pre.length + 1) cap')
    have gS := grownBy_setCell' w1 w.heap.size (.slice (some ⟨g', 0, none⟩) (pre.length + 1) cap')
    have s1 := r3.size
    have hLeaf : Hid (KpZ (zBox w.heap.size 99) wq.heap.size X (w1.setCell ⟨w.heap.size, 0, none⟩ (.slice (some ⟨g', 0, none⟩) (pre.length + 1) cap')) ∧ (∃ v, Boxed (w1.setCell ⟨w.heap.size, 0, none⟩ (.slice (some ⟨g', 0, none⟩) (pre.length + 1) cap')) w.heap.size 99 v ∧ (w1.setCell ⟨w.heap.size, 0, none⟩ (.slice (some ⟨g', 0, none⟩) (pre.length + 1) cap')).ownsRow wq.heap.size 73 1 v (pre ++ [x]).length ((pre ++ [x]).map fun x => Value.int .u16 (x.1 : Int)) ∧ True) ∧ Below w.heap.size w (w1.setCell ⟨w.heap.size, 0, none⟩ (.slice (some ⟨g', 0, none⟩) (pre.length + 1) cap'))) := by
      refine ⟨⟨by have := gS.size; omega, fun g o hg ho hnz => ?_, fun g ⟨v', h1, h2⟩ => ?_, fun g ⟨v', h1, h2⟩ => ?_⟩, ⟨_, hset, ?_, trivial⟩, ?_⟩
      · have hgl := (Array.getElem?_eq_some_iff.1 ho).1
        have e1 := gS.block g (by omega) (fun e => by have := Option.some.inj e; omega)
        have e2 := r3.block g (by omega) (fun e => hnz ⟨_, hv, e.symm⟩)
        exact e1.trans (e2.trans ((Below.heap_alloc _ _ _ hgl).trans ho))
      · have e := boxEq h1 hset
        subst e
        rcases r5 with e | e
        · exact .inl ⟨_, hv, e ▸ h2⟩
        · rw [e] at h2
          have := Option.some.inj h2
          exact .inr (by omega)
      · have e := boxEq h1 hset
        subst e
        rcases r2.2 with ⟨hn, _⟩ | ⟨g2, c2, cur2, e2, hg2, hh2, _⟩
        · cases hn
        · simp only [Value.slice.injEq, Option.some.injEq, Addr.mk.injEq] at e2
          have hgg : g' = g := by simpa [Value.ownBlock] using h2
          obtain rfl : g2 = g := by omega
          exact ⟨_, (gS.block _ (block_lt hh2) (fun e => by have := Option.some.inj e; omega)).trans hh2, rfl⟩
      · rw [List.length_append, List.map_append]
        exact ownsRow_setCell_below r2 (show w.heap.size < wq.heap.size by omega) _
      · exact ((hB.alloc hB.size _).grown r3 (by omega) (fun k hk => by have := (hrow1.lt k hk).1; omega)).setCell (p := ⟨w.heap.size, 0, none⟩) (by show w.heap.size ≤ w.heap.size; omega) _
    clear hset gS r2 r3 r5 hv1 hrow1 hrow
    gi_wp2_with (gi_at_builtin; refine wpListIn_append_ofM rfl _ _ rfl rfl rfl r1 ?_)
    obtain ⟨k1, ⟨v9, b9, r9, _⟩, k3⟩ := hLeaf.out
    exact ⟨k1, ⟨v9, b9, by simpa using r9⟩, k3⟩
  case done =>
    rintro D xs X hD hS ⟨⟨v, hv, hrow, _⟩, hB⟩ hK2
    have hc := hv.cell
    gi_wp2
    refine ⟨by simp, .inl ⟨_, _, rfl, run_takeDeferred hK2, ?_⟩⟩
    exact ⟨_, results_tmp rfl _ _ _, v, rfl, own_masks (ownsRow_putObj hrow _ hK2 rfl) hS (by omega), hB.trans (belowK_b (w := w) (Nat.le_refl _) X D _ _ (by omega) hK2 rfl rfl)⟩

theorem collectM_calls {cs : List Value} {p : ProgD} (w : World) (Bp : Nat) (hR : Rd.R w cs p) (hb : Cells w Bp 0 cs) :
    Calls Tryz.prog 73 #[.func (.func 120) #[] #[.pointer (some ⟨Bp, 0, none⟩)]] w fun e w' => ∃ v, e = .returned v ∧ OwnM w.heap.size w' v (ansN p) ∧ Below w.heap.size w w' := by
  go_enter Tryz.func73, Tryz.ntmps73
  go_wp2_with fail
  refine (appendSeqM_calls w Bp hR hb).mono ?_
  rintro e w2 ⟨v, rfl, ho, hB⟩
  obtain ⟨a, c, rfl⟩ := own_slice ho
  go_wp2
  go_ret
  exact ⟨_, rfl, ho, hB⟩

set_option maxHeartbeats 4000000 in
theorem slEqual_calls {lo lo' : Nat} {w : World} {v v' : Value} {xs ys : List Nat} (h : OwnM lo w v xs) (h' : OwnM lo' w v' ys) :
    Calls Tryz.prog 72 #[v, v'] w fun e w' => e = .returned (.bool (decide (xs = ys))) ∧ Below w.heap.size w w' := by
  obtain ⟨a, c, rfl⟩ := own_slice h
  obtain ⟨a', c', rfl⟩ := own_slice h'
  have hm : xs.length ≤ 9223372036854775807 := by
    rcases h.2 with ⟨_, hn⟩ | ⟨g, cap, cur, hv, hg, hh, hnc, hcm, _⟩
    · omega
    · unfold maxLen at hcm; omega
  by_cases hl : xs.length = ys.length
  · have hbn : ((xs.length : Int) != (ys.length : Int)) = false := by simp [hl]
    have HL := Lib.hid hl
    clear hl
    go_enter Tryz.func72, Tryz.ntmps72
    go_wp2
    clear hbn
    go_loopw [13] (fun i wr => ∃ k : Nat, k ≤ xs.length ∧ i = .int .i64 k ∧ Hid (xs.take k = ys.take k) ∧ Below w.heap.size w wr) (fun i _ => xs.length - (intOf i).toNat)
    case atStart => exact ⟨0, Nat.zero_le _, rfl, (rfl : ([] : List Nat) = []), Below.refl _ _⟩
    case round =>
      obtain ⟨k, hk, rfl, hE, hb⟩ := hrel
      by_cases hlt : k < xs.length
      · have hlt2 : k < ys.length := by have := HL.out; omega
        obtain ⟨g, cg, he, hc⟩ := own_cell h (by omega)
        obtain ⟨g2, cg2, he2, hc2⟩ := own_cell h' (by omega)
        simp only [Value.slice.injEq, true_and] at he he2
        obtain ⟨rfl, rfl⟩ := he
        obtain ⟨rfl, rfl⟩ := he2
        have u0 := cell_kept hb (hc k hlt)
        have v0 := cell_kept hb (hc2 k hlt2)
        have hkI : (k : Int) < (ys.length : Int) := by omega
        clear hc hc2
        by_cases hne : nth xs k = nth ys k
        · have hE' : Hid (xs.take (k + 1) = ys.take (k + 1)) := by show _ = _; rw [take_nth hlt, take_nth hlt2, hE.out, hne]
          have hb1 : (((nth xs k : Nat) : Int) != ((nth ys k : Nat) : Int)) = false := by simp [hne]
          clear hne
          go_wp2
          go_still_tail 8, (by kernel_rfl)
          go_wp2
          go_roundw
          case rel => exact ⟨k + 1, by omega, by go_num, hE', by first | exact hb.drew | exact below_drewN hb _⟩
          case measure => simp [intOf]; omega
        · have hv : Hid (decide (xs = ys) = false) := decide_eq_false fun e => hne (by rw [e])
          have hb1 : (((nth xs k : Nat) : Int) != ((nth ys k : Nat) : Int)) = true := bne_iff_ne.2 (by omega)
          clear hne
          go_wp2
          go_still_tail 8, (by kernel_rfl)
          go_wp2
          go_ret
          exact ⟨ret_bool hv.out.symm, by first | exact hb.drew | exact below_drewN hb _⟩
      · have hv : Hid (decide (xs = ys) = true) := decide_eq_true (by
          have h1 := hE.out
          rwa [List.take_of_length_le (by omega), List.take_of_length_le (by have := HL.out; omega)] at h1)
        go_wp2
        go_ret
        exact ⟨ret_bool hv.out.symm, hb⟩
  · have hbn : ((xs.length : Int) != (ys.length : Int)) = true := bne_iff_ne.2 (by omega)
    have hv : Hid (decide (xs = ys) = false) := decide_eq_false fun e => hl (by rw [e])
    clear hl
    go_enter Tryz.func72, Tryz.ntmps72
    go_wp2
    go_ret
    exact ⟨ret_bool hv.out.symm, Below.refl _ _⟩

end Go.Proofs.YtleimijgpmoifaaGreat
