/-
  spec.TidyRule: what it answers. No condition of its own.
-/
import Derived.Test.YtmndmhnhcoblnaaGreatTidyA
import Derived.Test.YtmndmhnhcoblnaaGreatCopyS
import Derived.Deep.DeepCutAuto
namespace Go.Proofs.YtmndmhnhcoblnaaGreat
open Go.RowKit
set_option maxRecDepth 100000

/-- The rule that is being tidied, in its box, ahead of what is done without Weight. -/
def TR (lo hb : Nat) (wa : World) (r : RuleD) (c1 : Value) (wx : World) : Prop :=
  ∃ c4 body', wx.heap[hb]? = some (.cells #[.bool r.choice, c1, .bool false, .int .i64 0, c4] 49 (0, 0)) ∧ OwnIn lo hb wx [c1] r.heads ∧ RdL wx [c4] body' ∧ WOk body' ∧ tidyO r = tidyU r.choice r.heads body' ∧ Below lo wa wx
theorem all_T {α : Type} [Inhabited α] {f : α → Bool} {xs : List α} {k : Nat} (hk : k < xs.length) (h : (xs.take k).all f = true) : (xs.take (k + 1)).all f = f (nth xs k) := by
  rw [take_nth hk, List.all_append, h]; simp
theorem all_F {α : Type} [Inhabited α] {f : α → Bool} {xs : List α} {k : Nat} (hk : k < xs.length) (h : (xs.take k).all f = false) : (xs.take (k + 1)).all f = false := by
  rw [take_nth hk, List.all_append, h]; simp

set_option maxHeartbeats 8000000 in
theorem specTidyRule_calls {cs : List Value} {r : RuleD} {w : World} (h : Rd.R w cs r) :
    Calls Tryz.prog 18 #[.agg cs.toArray] w fun e w' => ∃ cs', e = .returned (.tuple #[.agg cs'.toArray, .bool (tidyB r)]) ∧ Own w.heap.size w' cs' (tidyRR r) ∧ Below w.heap.size w w' := by
  have h0 := h
  obtain ⟨r1, r4, rfl, hfb, g1, g4⟩ := h0
  obtain ⟨ah, kh, rfl, _, hh⟩ := g1.sl
  obtain ⟨ab, kb, rfl, _, hbd⟩ := g4.sl
  have hmb := hbd.1
  have t0 : Below w.heap.size w ((w.alloc (.cells #[.bool r.choice, .slice ah r.heads.length kh, .bool r.weight, .int .i64 r.bound, .slice ab r.body.length kb] 49)).alloc (.cells #[.bool false, .slice none 0 0, .bool false, .int .i64 0, .slice none 0 0] 49)) := ((Below.refl _ _).alloc (by simp) _).alloc (by simp) _
  have CP := (Cells.new w [.bool r.choice, .slice ah r.heads.length kh, .bool r.weight, .int .i64 r.bound, .slice ab r.body.length kb] 49).alloc (.cells #[.bool false, .slice none 0 0, .bool false, .int .i64 0, .slice none 0 0] 49)
  have CR := Cells.new (w.alloc (.cells #[.bool r.choice, .slice ah r.heads.length kh, .bool r.weight, .int .i64 r.bound, .slice ab r.body.length kb] 49)) [.bool false, .slice none 0 0, .bool false, .int .i64 0, .slice none 0 0] 49
  have hb0 := alloc_block (w.alloc (.cells #[.bool r.choice, .slice ah r.heads.length kh, .bool r.weight, .int .i64 r.bound, .slice ab r.body.length kb] 49)) #[.bool false, .slice none 0 0, .bool false, .int .i64 0, .slice none 0 0] 49
  rw [World.size_alloc] at CR hb0
  cases hok : ruleOkB r 12
  · have HTB : Hid (tidyB r = false) := by show _ = _; unfold tidyB; rw [tidyO_no hok]; rfl
    have HTR : Hid (tidyRR r = default) := by show _ = _; unfold tidyRR; rw [tidyO_no hok]; rfl
    go_enter Tryz.func18, Tryz.ntmps18
    go_wp2_with fail
    refine (specRuleOk_calls 12 (Rd.mono t0 h)).mono ?_
    rintro e w1 ⟨he, b1⟩
    rw [hok] at he
    subst he
    obtain ⟨z0, z1, z2, z3, z4⟩ := cells5 (CR.later b1)
    obtain ⟨hcA, hf1⟩ := bcell b1
    clear hcA hok
    have hz1 : w.heap.size + 1 < w1.heap.size := by have := b1.size; simp at this; omega
    have t1 := t0.step b1
    clear CP CR
    go_wp2
    refine bodyPost_ret (v := .tuple #[.agg #[.bool false, .slice none 0 0, .bool false, .int .i64 0, .slice none 0 0], .bool false])
      (by simp [results, Tryz.results18, go_sem, z0, z1, z2, z3, z4]) rfl ⟨_, by rw [HTB.out], by rw [HTR.out]; exact own_zeroR _ _, by
      repeat (refine Below.setCell ?_ (by simp; try omega) _)
      exact t1⟩
  have hwk := ruleOk_body hok
  have hhl := ruleOk_heads hok
  have hbl := hwk.1
  obtain ⟨hbd0, hbd1⟩ := ruleOk_bound hok
  have HOK := Lib.hid hok
  have HWK := Lib.hid hwk
  go_enter Tryz.func18, Tryz.ntmps18
  go_wp2_with fail
  refine (specRuleOk_calls 12 (Rd.mono t0 h)).mono ?_
  rintro e w1 ⟨he, b1⟩
  rw [hok] at he
  subst he
  clear hok hwk
  have CP1 := CP.later b1
  have t1 := t0.step b1
  have hs1 : w.heap.size + 1 + 1 ≤ w1.heap.size := by have := b1.size; simpa using this
  obtain ⟨y0, y1, y2, y3, y4⟩ := cells5 CP1
  go_wp2_with fail
  clear y0 y1 y2 y3 y4
  refine (l02Rule_calls (Rd.mono t1 h) (by omega) (by omega)).mono ?_
  rintro e w2 ⟨cs2, rfl, o2, b2⟩
  obtain ⟨fp, ⟨c1, c4, f1, f4, rfl, hfb', o1, o4, rfl, hn⟩, hlo⟩ := o2
  have hs2 : w1.heap.size ≤ w2.heap.size := b2.size
  have b12 := b1.step b2
  have t2 := t1.step b2
  have CP2 := CP1.later b2
  have oH : OwnIn w1.heap.size w2.heap.size w2 [c1] r.heads := ⟨f1, o1, fun g hg => ⟨hlo g (List.mem_append_left _ hg), Ow.lt (α := List Int) o1 g hg⟩⟩
  have oB : RdL w2 [c4] r.body := o4.rd
  have hO4w : ∀ W : World, (∀ g, g < w2.heap.size → W.heap[g]? = w2.heap[g]?) → RdL W [c4] r.body := fun W hW => OwL.rd (Ow.kept (α := List (Int × Int)) o4 fun g hg => hW g (Ow.lt (α := List (Int × Int)) o4 g hg))
  have st1 := sto Tryz.prog (oH.rd.one1)
  have st4 := sto Tryz.prog (oB.one1)
  obtain ⟨y0, y1, y2, y3, y4⟩ := cells5 CP2
  have hl2 : w.heap.size < w2.heap.size := by omega
  go_upto_if 19 with fail
  clear st1 st4 y0 y1 y2 y3 y4
  have b23 := (Below.refl w2.heap.size w2).alloc (Nat.le_refl _) (.cells #[.bool r.choice, c1, .bool r.weight, .int .i64 r.bound, c4] 49)
  have t3 := t2.alloc t2.size (.cells #[.bool r.choice, c1, .bool r.weight, .int .i64 r.bound, c4] 49)
  have hGa := alloc_block w2 #[.bool r.choice, c1, .bool r.weight, .int .i64 r.bound, c4] 49
  have CP3 := CP2.later b23
  have oH := oH.later b23
  have oB := Rd.mono (α := List (Int × Int)) b23 oB
  have hbr3 := ((b23.block (w.heap.size + 1) (by omega)).trans (b12.block _ (by simp))).trans hb0
  have hza := World.size_alloc w2 (.cells #[.bool r.choice, c1, .bool r.weight, .int .i64 r.bound, c4] 49)
  have hb23 := b23.block
  generalize w2.alloc (.cells #[.bool r.choice, c1, .bool r.weight, .int .i64 r.bound, c4] 49) = wa at hb23 b23 t3 hGa CP3 oH oB hbr3 hza ⊢
  obtain ⟨hb, hhb⟩ : ∃ hb, hb = w2.heap.size := ⟨_, rfl⟩
  obtain ⟨lo, hlo'⟩ : ∃ lo, lo = w1.heap.size := ⟨_, rfl⟩
  rw [← hhb, ← hlo'] at oH
  rw [← hhb] at hb23
  rw [← hhb] at hGa hza hO4w ⊢
  have hO4 : ∀ W : World, (∀ g, g < hb → W.heap[g]? = wa.heap[g]?) → RdL W [c4] r.body := fun W hW => hO4w W fun g hg => (hW g hg).trans (hb23 g hg)
  clear hO4w hb23
  have hlb : lo ≤ hb := by omega
  have hlw : w.heap.size + 1 < lo := by omega
  have hza' : hb < wa.heap.size := by omega
  have HHB := Lib.hid hhb
  have HLO := Lib.hid hlo'
  clear hhb hlo' hza CP CP1 CP2 b1 b2 b12 b23 t0 t1 t2 hs1 hs2 hl2 o1 o4 hn hlo
  obtain ⟨wt, hwt⟩ : ∃ wt, wt = r.weight := ⟨_, rfl⟩
  rw [← hwt] at hGa CP3 ⊢
  have HWT := Lib.hid hwt
  clear hwt h
  go_cut [5] (fun _ wx => TR lo hb wa r c1 wx)
  case first =>
    obtain ⟨y0, y1, y2, y3, y4⟩ := cells5 CP3
    cases wt
    case false =>
      have hw := HWT.out.symm
      have hbz : r.bound = 0 := by
        have h := HOK.out
        simp only [ruleOkB, bodyB, Bool.and_eq_true, hw, Bool.false_or, beq_iff_eq] at h
        exact h.2.1.1.2
      have HT : Hid (TR lo hb wa r c1 wa) := ⟨c4, r.body, by rw [hbz] at hGa; exact hGa, oH, oB, HWK.out, tidyO_U HOK.out hw, Below.refl _ _⟩
      clear hbz hw
      go_wp2
      go_meet
      exact HT.out
    case true =>
      have hRb : Rd.R wa [.slice ab r.body.length kb] r.body := Rd.mono (α := List (Int × Int)) t3 g4
      have hl2 : w.heap.size < wa.heap.size := by omega
      go_wp2
      clear y0 y1 y2 y3 y4
      go_loopw [5, 6] (fun al i wr => ∃ k : Nat, k ≤ r.body.length ∧ i = .int .i64 k ∧ al = .bool ((r.body.take k).all (fun p => decide (sumBut r.body p.1 < r.bound))) ∧ Below wa.heap.size wa wr) (fun _ i _ => r.body.length - (intOf i).toNat)
      case atStart => exact ⟨0, Nat.zero_le _, rfl, rfl, Below.refl _ _⟩
      case round =>
        obtain ⟨k, hk, rfl, rfl, hb1⟩ := hrel
        obtain ⟨y0, y1, y2, y3, y4⟩ := cells5 (CP3.later hb1)
        by_cases hlt : k < r.body.length
        · obtain ⟨b, off, rfl, hc⟩ := hbd.base (by omega)
          obtain ⟨ecs, hC, rfl, hf1, hf2⟩ := hc k hlt
          have hC := hC.later (t3.step hb1)
          have u0 := hC.c0
          rw [show Rd.k (Int × Int) = 2 from rfl] at u0
          have hkn : (0 : Int) ≤ (k : Int) := by omega
          have hkl : (k : Int) < (r.body.length : Int) := by omega
          have hRw := Rd.mono (α := List (Int × Int)) hb1.drew hRb
          have hAt := all_T (f := fun p => decide (sumBut r.body p.1 < r.bound)) hlt
          have hAf := all_F (f := fun p => decide (sumBut r.body p.1 < r.bound)) hlt
          obtain ⟨A, hA⟩ : ∃ A, A = (r.body.take k).all (fun p => decide (sumBut r.body p.1 < r.bound)) := ⟨_, rfl⟩
          rw [← hA] at hAt hAf ⊢
          have HAt := Lib.hid hAt
          have HAf := Lib.hid hAf
          clear hC hc hAt hAf hA
          cases A
          · have hn := Lib.hid (HAf.out rfl)
            clear HAt HAf
            go_wp2
            go_quiet (fail)
            go_wp2
            go_roundw
            case rel => exact ⟨k + 1, by omega, by go_num, by rw [hn.out], by first | exact hb1.drew | exact below_drewN hb1 _⟩
            case measure => simp [intOf]; omega
          · have hn := Lib.hid (HAt.out rfl)
            clear HAt HAf
            go_wp2
            go_quiet ((go_at_call 51; exact quietS (l04Sum_calls _ hRw HWK.out)))
            go_wp2
            go_roundw
            case rel => exact ⟨k + 1, by omega, by go_num, by rw [hn.out]; rfl, by first | exact hb1.drew | exact below_drewN hb1 _⟩
            case measure => simp [intOf]; omega
        · obtain rfl : k = r.body.length := by omega
          have hNA : Hid ((r.body.take r.body.length).all (fun p => decide (sumBut r.body p.1 < r.bound)) = needAll r) := by show _ = _; rw [List.take_length]; rfl
          have oH1 := oH.later hb1
          have oB1 := Rd.mono (α := List (Int × Int)) hb1 oB
          have hRw := Rd.mono (α := List (Int × Int)) hb1 hRb
          have hG1 := (hb1.block hb hza').trans hGa
          have hbr1 := (hb1.block (w.heap.size + 1) (by omega)).trans hbr3
          have tr := t3.step hb1
          have hsz := hb1.size
          have CP4 := CP3.later hb1
          clear hGa oH oB hRb CP3 hbr3 t3
          rw [hNA.out]
          clear hNA
          obtain ⟨nA, hnA⟩ : ∃ nA, nA = needAll r := ⟨_, rfl⟩
          rw [← hnA]
          have HNA := Lib.hid hnA
          clear hnA
          have hfzb := fun j => frozen_of_row wr hb j _ _ hG1
          have CG : Cells wr hb 0 [.bool r.choice, c1, .bool true, .int .i64 r.bound, c4] := fun j v hv => by
            rw [Nat.zero_add, cell_of_row wr hb j _ _ _ hG1]; simpa using hv
          obtain ⟨x0, x1, x2, x3, x4⟩ := cells5 CG
          have hblo : Below lo wa wr := hb1.mono (by omega)
          have hbs : hb < wr.heap.size := by omega
          by_cases hB1 : r.bound ≤ 0
          · have e1 := heap_setCell_same wr hb 2 _ _ (.bool false) hG1
            have e2 := heap_setCell_same _ hb 3 _ _ (.int .i64 0) e1
            have e3 := heap_setCell_same _ hb 4 _ _ (.slice (some ⟨wr.heap.size, 0, none⟩) 0 0) e2
            have HT : ∀ (W : World), W = (((wr.setCell ⟨hb, 2, none⟩ (.bool false)).setCell ⟨hb, 3, none⟩ (.int .i64 0)).setCell ⟨hb, 4, none⟩ (.slice (some ⟨wr.heap.size, 0, none⟩) 0 0)).alloc (.cells #[] 84) → TR lo hb wa r c1 W := by
              rintro W rfl
              have e4 := (Below.heap_alloc _ (.cells #[] 84) hb (by simp [World.setCell]; omega)).trans e3
              have k1 := (((oH1.far (p := ⟨hb, 2, none⟩) (.inr (Nat.le_refl _)) (.bool false)).far (p := ⟨hb, 3, none⟩) (.inr (Nat.le_refl _)) (.int .i64 0)).far (p := ⟨hb, 4, none⟩) (.inr (Nat.le_refl _)) (.slice (some ⟨wr.heap.size, 0, none⟩) 0 0)).alloc (.cells #[] 84)
              refine ⟨_, [], e4, k1, (Own.nilL 0 _ _ 0 (by omega)).rd, ⟨by simp, by simp⟩, by rw [tidyO_W HOK.out HWT.out.symm, tidyW_1 hB1], ?_⟩
              exact (Below.setCell (Below.setCell (Below.setCell hblo (p := ⟨hb, 2, none⟩) hlb _) (p := ⟨hb, 3, none⟩) hlb _) (p := ⟨hb, 4, none⟩) hlb _).alloc (by simp [World.setCell]; omega) _
            have HT := Lib.hid HT
            clear e1 e2 e3 oH1 oB1 hRw hG1 CG hbr1 hblo
            go_wp2
            go_meet
            exact HT.out _ rfl
          · by_cases hB2 : sumBut r.body 0 < r.bound
            · have HTB : Hid (tidyB r = false) := by show _ = _; unfold tidyB; rw [tidyO_W HOK.out HWT.out.symm, tidyW_2 hB1 hB2]; rfl
              have HTR : Hid (tidyRR r = default) := by show _ = _; unfold tidyRR; rw [tidyO_W HOK.out HWT.out.symm, tidyW_2 hB1 hB2]; rfl
              have hd1 : decide (r.bound ≤ 0) = false := decide_eq_false hB1
              have hd2 : decide (sumH (fun p => p.1 != 0) r.body < r.bound) = true := decide_eq_true hB2
              have hRd := Rd.mono (α := List (Int × Int)) (Below.refl wr.heap.size wr).drew hRw
              have hfz := fun j => frozen_of_row wr (w.heap.size + 1) j _ _ hbr1
              have CZ : Cells wr (w.heap.size + 1) 0 [.bool false, .slice none 0 0, .bool false, .int .i64 0, .slice none 0 0] := fun j v hv => by
                rw [Nat.zero_add, cell_of_row wr (w.heap.size + 1) j _ _ _ hbr1]; simpa using hv
              obtain ⟨z0, z1, z2, z3, z4⟩ := cells5 CZ
              clear oH1 oB1 hG1 CG hbr1 hblo hB1 hB2 CZ x0 x1 x2 x3 x4
              go_wp2
              go_quiet ((go_at_call 51; exact quietS (l04Sum_calls _ hRd HWK.out)))
              go_wp2
              have trq := below_drewN tr nq
              refine bodyPost_ret (v := .tuple #[.agg #[.bool false, .slice none 0 0, .bool false, .int .i64 0, .slice none 0 0], .bool false])
                (by simp [results, Tryz.results18, go_sem, z0, z1, z2, z3, z4]) rfl ⟨_, by rw [HTB.out], by rw [HTR.out]; exact own_zeroR _ _, by
                repeat (refine Below.setCell ?_ (by simp; try omega) _)
                exact trq⟩
            · have hd1 : decide (r.bound ≤ 0) = false := decide_eq_false hB1
              have hd2 : decide (sumH (fun p => p.1 != 0) r.body < r.bound) = false := decide_eq_false hB2
              have hRd := Rd.mono (α := List (Int × Int)) (Below.refl wr.heap.size wr).drew hRw
              cases nA
              case true =>
                have hN := HNA.out.symm
                have HT : ∀ n, TR lo hb wa r c1 (((wr.drewN n).setCell ⟨hb, 2, none⟩ (.bool false)).setCell ⟨hb, 3, none⟩ (.int .i64 0)) := fun n => by
                  have e1 := heap_setCell_same (wr.drewN n) hb 2 _ _ (.bool false) hG1
                  have e2 := heap_setCell_same _ hb 3 _ _ (.int .i64 0) e1
                  have bq := below_drewN (Below.refl wr.heap.size wr) n
                  have k1 := ((oH1.later bq).far (p := ⟨hb, 2, none⟩) (.inr (Nat.le_refl _)) (.bool false)).far (p := ⟨hb, 3, none⟩) (.inr (Nat.le_refl _)) (.int .i64 0)
                  have kB : RdL (((wr.drewN n).setCell ⟨hb, 2, none⟩ (.bool false)).setCell ⟨hb, 3, none⟩ (.int .i64 0)) [c4] r.body := hO4 _ fun g hg => by
                    rw [Below.heap_setCell _ _ _ _ (by show g ≠ hb; omega), Below.heap_setCell _ _ _ _ (by show g ≠ hb; omega)]
                    exact hb1.block g (by omega)
                  exact ⟨c4, r.body, e2, k1, kB, HWK.out, by rw [tidyO_W HOK.out HWT.out.symm, tidyW_3 hB1 hB2 hN], Below.setCell (Below.setCell (below_drewN hblo n) (p := ⟨hb, 2, none⟩) hlb _) (p := ⟨hb, 3, none⟩) hlb _⟩
                have HT := Lib.hid HT
                clear oH1 oB1 hG1 CG hbr1 hblo hB1 hB2 tr hN
                go_wp2
                go_quiet ((go_at_call 51; exact quietS (l04Sum_calls _ hRd HWK.out)))
                go_wp2
                go_meet
                exact HT.out _
              case false =>
                have hN := HNA.out.symm
                have trq : ∀ n, Below w.heap.size w (wr.drewN n) := fun n => below_drewN tr n
                by_cases hB3 : r.bound ≤ 1000
                · have hd3 : decide (r.bound ≤ 1000) = true := decide_eq_true hB3
                  have HTB : Hid (tidyB r = true) := by show _ = _; unfold tidyB; rw [tidyO_W HOK.out HWT.out.symm, tidyW_4 hB1 hB2 hN hB3]; rfl
                  have HTR : Hid (tidyRR r = { r with body := mergedL r.body r.bound }) := by show _ = _; unfold tidyRR; rw [tidyO_W HOK.out HWT.out.symm, tidyW_4 hB1 hB2 hN hB3]; rfl
                  have hbp : 0 ≤ r.bound := by omega
                  have hfb2 := hfb
                  clear hB1 hB2 hB3 hN oB1
                  go_wp2
                  go_quiet ((go_at_call 51; exact quietS (l04Sum_calls _ hRd HWK.out)))
                  have hRq : RdL (wr.drewN nq) [.slice ab r.body.length kb] r.body := Rd.mono (α := List (Int × Int)) (below_drewN (Below.refl wr.heap.size wr) nq) hRw
                  go_wp2_with fail
                  refine (l04Merged_calls _ hRq HWK.out hbp (by omega)).mono ?_
                  rintro e w5 ⟨v5, rfl, o5, b5⟩
                  have b5' := (below_drewN (Below.refl wr.heap.size wr) nq).step b5
                  have hG5 := (b5'.block hb hbs).trans hG1
                  have hbr5 := (b5'.block (w.heap.size + 1) (by omega)).trans hbr1
                  have oH5 := oH1.later b5'
                  have t5 := tr.step b5'
                  have hz5 : wr.heap.size ≤ w5.heap.size := b5'.size
                  have one5 := sto Tryz.prog (o5.rd.one1)
                  have one1 := sto Tryz.prog (oH5.rd.one1)
                  have CG5 : Cells w5 hb 0 [.bool r.choice, c1, .bool true, .int .i64 r.bound, c4] := fun j v hv => by
                    rw [Nat.zero_add, cell_of_row w5 hb j _ _ _ hG5]; simpa using hv
                  have hfzb5 := fun j => frozen_of_row w5 hb j _ _ hG5
                  have hfz5 := fun j => frozen_of_row w5 (w.heap.size + 1) j _ _ hbr5
                  have CZ : Cells w5 (w.heap.size + 1) 0 [.bool false, .slice none 0 0, .bool false, .int .i64 0, .slice none 0 0] := fun j v hv => by
                    rw [Nat.zero_add, cell_of_row w5 (w.heap.size + 1) j _ _ _ hbr5]; simpa using hv
                  obtain ⟨z0, z1, z2, z3, z4⟩ := cells5 CZ
                  clear x0 x1 x2 x3 x4 y0 y1 y2 y3 y4
                  obtain ⟨x0, x1, x2, x3, x4⟩ := cells5 CG5
                  have hne : w.heap.size + 1 ≠ hb := by omega
                  have hne2 : hb ≠ w.heap.size + 1 := by omega
                  have HF : ∀ (u : Value) (cs' : List Value), Own w.heap.size (put ((w5.setCell ⟨hb, 4, none⟩ u)) (w.heap.size + 1) 0 cs') [.bool r.choice, c1, .bool true, .int .i64 r.bound, v5] ({ r with body := mergedL r.body r.bound } : RuleD) := fun u cs' => by
                    obtain ⟨fpo, hO, hl⟩ := own_rule3 (x := ({ r with body := mergedL r.body r.bound } : RuleD)) oH5 o5.ownIn (.inl (by show hb ≤ wr.heap.size; omega)) hfb2
                    have hO : Ow.O w5 [.bool r.choice, c1, .bool r.weight, .int .i64 r.bound, v5] ({ r with body := mergedL r.body r.bound } : RuleD) fpo := hO
                    have hcell : Value.bool r.weight = Value.bool true := by rw [← HWT.out]
                    rw [hcell] at hO
                    have hl : ∀ g ∈ fpo, (lo ≤ g ∧ g < hb) ∨ (wr.heap.size ≤ g ∧ g < w5.heap.size) := hl
                    exact ⟨fpo, Ow.kept hO fun g hg => ((put_chg (w.heap.size + 1) cs' (w5.setCell ⟨hb, 4, none⟩ u) 0).block g (by have := hl g hg; simp; omega)).trans (Below.heap_setCell _ _ _ _ (by have := hl g hg; show g ≠ hb; omega)), fun g hg => by have := hl g hg; omega⟩
                  have HF := Lib.hid HF
                  have HB := Lib.hid t5
                  obtain ⟨a5, k5, rfl, _⟩ := o5.rd.sl
                  clear oH5 o5 hG5 hbr5 CG5 CZ b5 b5' oH1 hG1 CG hbr1 hblo tr trq hRq hRw
                  go_wp2
                  refine bodyPost_ret (v := .tuple #[.agg #[.bool r.choice, c1, .bool true, .int .i64 r.bound, .slice a5 (mergedL r.body r.bound).length k5], .bool true])
                    (by simp [results, Tryz.results18, go_sem, z0, z1, z2, z3, z4]) rfl ⟨_, by rw [HTB.out], by rw [HTR.out]; exact HF.out (.slice a5 (mergedL r.body r.bound).length k5) [.bool r.choice, c1, .bool true, .int .i64 r.bound, .slice a5 (mergedL r.body r.bound).length k5], ?_⟩
                  exact (Below.setCell HB.out (p := ⟨hb, 4, none⟩) (by show w.heap.size ≤ hb; omega) _).trans ((put_chg (w.heap.size + 1) [.bool r.choice, c1, .bool true, .int .i64 r.bound, .slice a5 (mergedL r.body r.bound).length k5] _ 0).below fun g hg => by simp at hg; omega)
                · have hd3 : decide (r.bound ≤ 1000) = false := decide_eq_false hB3
                  have HTB : Hid (tidyB r = true) := by show _ = _; unfold tidyB; rw [tidyO_W HOK.out HWT.out.symm, tidyW_5 hB1 hB2 hN hB3]; rfl
                  have HTR : Hid (tidyRR r = { r with body := ordL r.body }) := by show _ = _; unfold tidyRR; rw [tidyO_W HOK.out HWT.out.symm, tidyW_5 hB1 hB2 hN hB3]; rfl
                  have hfb2 := hfb
                  clear hB1 hB2 hB3 hN oB1
                  go_wp2
                  go_quiet ((go_at_call 51; exact quietS (l04Sum_calls _ hRd HWK.out)))
                  have hRq : RdL (wr.drewN nq) [.slice ab r.body.length kb] r.body := Rd.mono (α := List (Int × Int)) (below_drewN (Below.refl wr.heap.size wr) nq) hRw
                  go_wp2_with fail
                  refine (l04Ordered_calls hRq (by omega)).mono ?_
                  rintro e w5 ⟨v5, rfl, o5, b5⟩
                  have b5' := (below_drewN (Below.refl wr.heap.size wr) nq).step b5
                  have hG5 := (b5'.block hb hbs).trans hG1
                  have hbr5 := (b5'.block (w.heap.size + 1) (by omega)).trans hbr1
                  have oH5 := oH1.later b5'
                  have t5 := tr.step b5'
                  have hz5 : wr.heap.size ≤ w5.heap.size := b5'.size
                  have one5 := sto Tryz.prog (o5.rd.one1)
                  have one1 := sto Tryz.prog (oH5.rd.one1)
                  have CG5 : Cells w5 hb 0 [.bool r.choice, c1, .bool true, .int .i64 r.bound, c4] := fun j v hv => by
                    rw [Nat.zero_add, cell_of_row w5 hb j _ _ _ hG5]; simpa using hv
                  have hfzb5 := fun j => frozen_of_row w5 hb j _ _ hG5
                  have hfz5 := fun j => frozen_of_row w5 (w.heap.size + 1) j _ _ hbr5
                  have CZ : Cells w5 (w.heap.size + 1) 0 [.bool false, .slice none 0 0, .bool false, .int .i64 0, .slice none 0 0] := fun j v hv => by
                    rw [Nat.zero_add, cell_of_row w5 (w.heap.size + 1) j _ _ _ hbr5]; simpa using hv
                  obtain ⟨z0, z1, z2, z3, z4⟩ := cells5 CZ
                  clear x0 x1 x2 x3 x4 y0 y1 y2 y3 y4
                  obtain ⟨x0, x1, x2, x3, x4⟩ := cells5 CG5
                  have hne : w.heap.size + 1 ≠ hb := by omega
                  have hne2 : hb ≠ w.heap.size + 1 := by omega
                  have HF : ∀ (u : Value) (cs' : List Value), Own w.heap.size (put ((w5.setCell ⟨hb, 4, none⟩ u)) (w.heap.size + 1) 0 cs') [.bool r.choice, c1, .bool true, .int .i64 r.bound, v5] ({ r with body := ordL r.body } : RuleD) := fun u cs' => by
                    obtain ⟨fpo, hO, hl⟩ := own_rule3 (x := ({ r with body := ordL r.body } : RuleD)) oH5 o5.ownIn (.inl (by show hb ≤ wr.heap.size; omega)) hfb2
                    have hO : Ow.O w5 [.bool r.choice, c1, .bool r.weight, .int .i64 r.bound, v5] ({ r with body := ordL r.body } : RuleD) fpo := hO
                    have hcell : Value.bool r.weight = Value.bool true := by rw [← HWT.out]
                    rw [hcell] at hO
                    have hl : ∀ g ∈ fpo, (lo ≤ g ∧ g < hb) ∨ (wr.heap.size ≤ g ∧ g < w5.heap.size) := hl
                    exact ⟨fpo, Ow.kept hO fun g hg => ((put_chg (w.heap.size + 1) cs' (w5.setCell ⟨hb, 4, none⟩ u) 0).block g (by have := hl g hg; simp; omega)).trans (Below.heap_setCell _ _ _ _ (by have := hl g hg; show g ≠ hb; omega)), fun g hg => by have := hl g hg; omega⟩
                  have HF := Lib.hid HF
                  have HB := Lib.hid t5
                  obtain ⟨a5, k5, rfl, _⟩ := o5.rd.sl
                  clear oH5 o5 hG5 hbr5 CG5 CZ b5 b5' oH1 hG1 CG hbr1 hblo tr trq hRq hRw
                  go_wp2
                  refine bodyPost_ret (v := .tuple #[.agg #[.bool r.choice, c1, .bool true, .int .i64 r.bound, .slice a5 (ordL r.body).length k5], .bool true])
                    (by simp [results, Tryz.results18, go_sem, z0, z1, z2, z3, z4]) rfl ⟨_, by rw [HTB.out], by rw [HTR.out]; exact HF.out (.slice a5 (ordL r.body).length k5) [.bool r.choice, c1, .bool true, .int .i64 r.bound, .slice a5 (ordL r.body).length k5], ?_⟩
                  exact (Below.setCell HB.out (p := ⟨hb, 4, none⟩) (by show w.heap.size ≤ hb; omega) _).trans ((put_chg (w.heap.size + 1) [.bool r.choice, c1, .bool true, .int .i64 r.bound, .slice a5 (ordL r.body).length k5] _ 0).below fun g hg => by simp at hg; omega)
  case rest =>
    obtain ⟨c4', bd, hG, oH3, oB3, hWb, hTO, hbw⟩ := hcut
    have HTO := Lib.hid hTO
    have hbl3 := hWb.1
    have hbr := (hbw.block (w.heap.size + 1) hlw).trans hbr3
    have tw := t3.trans (hbw.mono (by omega))
    have hzw : wa.heap.size ≤ wc.heap.size := hbw.size
    have CG : Cells wc hb 0 [.bool r.choice, c1, .bool false, .int .i64 0, c4'] := fun j v hv => by
      rw [Nat.zero_add, cell_of_row wc hb j _ _ _ hG]; simpa using hv
    obtain ⟨x0, x1, x2, x3, x4⟩ := cells5 CG
    clear hGa CP3 oH oB hO4 hbr3 t3 hbd g1 g4 hh hTO CG
    go_wp2_with fail
    clear x0 x1 x2 x3 x4
    refine (l04Once_calls oB3 (by omega)).mono ?_
    rintro e w5 ⟨v5, rfl, o5, b5⟩
    obtain ⟨os, hos⟩ : ∃ os, os = onceL bd := ⟨_, rfl⟩
    rw [← hos] at o5
    have HOS := Lib.hid hos
    have holn : os.length ≤ 24000 := by rw [hos]; exact Nat.le_trans (onceTo_len _ _) (Nat.le_trans (ordTo_len bd 12) (Nat.mul_le_mul_left _ (by omega : bd.length ≤ 1000)))
    have hoL : ∀ p ∈ os, -12 ≤ p.1 ∧ p.1 ≤ 12 := by rw [hos]; exact onceL_range hWb
    clear hos hWb
    have hG5 := (b5.block hb (by omega)).trans hG
    have hbr5 := (b5.block (w.heap.size + 1) (by omega)).trans hbr
    have oH5 := oH3.later b5
    have t5 := tw.step b5
    have hz5 : wc.heap.size ≤ w5.heap.size := b5.size
    obtain ⟨ac, kc, rfl, _, hHrow⟩ := oH5.rd.sl
    obtain ⟨a5, k5, rfl, _⟩ := o5.rd.sl
    have hx4 : ∃ x, w5.cell? ⟨hb, 4, none⟩ = some x := ⟨c4', by rw [cell_of_row w5 hb 4 _ _ _ hG5]; rfl⟩
    obtain ⟨xx4, hx4⟩ := hx4
    have hfzb5 := fun j => frozen_of_row w5 hb j _ _ hG5
    have hbs5 : hb < w5.heap.size := by omega
    have G6 := heap_setCell_same w5 hb 4 _ _ (.slice a5 os.length k5) hG5
    have hbr6 := (Below.heap_setCell w5 ⟨hb, 4, none⟩ (.slice a5 os.length k5) (w.heap.size + 1) (by show _ ≠ hb; omega)).trans hbr5
    have oH6 := oH5.far (p := ⟨hb, 4, none⟩) (.inr (Nat.le_refl _)) (.slice a5 os.length k5)
    have o6 : PRow wc.heap.size (fun f => wc.heap.size ≤ f) (w5.setCell ⟨hb, 4, none⟩ (.slice a5 os.length k5)) (.slice a5 os.length k5) os := o5.keep fun g hg hB hl => Below.heap_setCell _ _ _ _ (by show g ≠ hb; omega)
    have t6 := Below.setCell t5 (p := ⟨hb, 4, none⟩) (by show w.heap.size ≤ hb; omega) (.slice a5 os.length k5)
    have hs6 : (w5.setCell ⟨hb, 4, none⟩ (.slice a5 os.length k5)).heap.size = w5.heap.size := by simp [World.setCell]
    clear hG5 hbr5 oH5 o5 t5 hG hbr oH3 oB3 tw b5 hbw
    go_upto_region 25 with fail
    generalize w5.setCell ⟨hb, 4, none⟩ (.slice a5 os.length k5) = wd at G6 hbr6 oH6 o6 t6 hs6 ⊢
    -- the heads that are left
    have hs6a : w5.heap.size ≤ wd.heap.size := by omega
    have hs6b : wd.heap.size ≤ w5.heap.size := by omega
    clear hs6
    obtain ⟨n2, hn2⟩ : ∃ n2, n2 = wd.heap.size := ⟨_, rfl⟩
    have hdb : hb < n2 := by omega
    have hdw : w.heap.size + 1 < n2 := by omega
    have hoI := OwnI.new wd n2 (by omega)
    have hbI : Below n2 wd (wd.alloc (.cells #[] 3)) := (Below.refl _ _).alloc (by omega) _
    have boxE : ∀ W : World, Below n2 wd W → Cells W hb 0 [.bool r.choice, .slice ac r.heads.length kc, .bool false, .int .i64 0, .slice a5 os.length k5] := fun W hW j v hv => by
      rw [Nat.zero_add, cell_of_row W hb j _ _ _ ((hW.block hb hdb).trans G6)]; simpa using hv
    have rowB : ∀ W : World, Below n2 wd W → RdL W [.slice a5 os.length k5] os := fun W hW => (o6.keep fun g _ _ hl => hW.block g (by omega)).rd
    have rowH : ∀ W : World, Below n2 wd W → RdL W [.slice ac r.heads.length kc] r.heads := fun W hW => by
      obtain ⟨fq, oq, lq⟩ := oH6
      exact OwL.rd (Ow.kept (α := List Int) oq fun g hg => hW.block g (by have := lq g hg; omega))
    have HN2 := Lib.hid hn2
    clear hn2
    have hmO : (os.length : Int) ≤ 24000 := by omega
    have hmH : (r.heads.length : Int) ≤ 20 := by omega
    have G6 := Lib.hid G6
    go_wp2
    go_loopw [7, 8] (fun v i wr => ∃ k : Nat, k ≤ r.heads.length ∧ i = .int .i64 k ∧ OwnI n2 wr v (restH (r.heads.take k) os) ∧ Below n2 wd wr) (fun _ i _ => r.heads.length - (intOf i).toNat)
    case atStart => exact ⟨0, Nat.zero_le _, rfl, hoI, hbI⟩
    case round =>
      obtain ⟨k, hk, rfl, ho, hb1⟩ := hrel
      clear hoI hbI
      obtain ⟨x0, x1, x2, x3, x4⟩ := cells5 (boxE wr hb1)
      have hsz : n2 ≤ wr.heap.size := by have := hb1.size; rw [HN2.out]; exact this
      by_cases hlt : k < r.heads.length
      · obtain ⟨ac', kc', hce, _, hHr⟩ := (rowH wr hb1).sl
        obtain ⟨rfl, _, rfl⟩ : ac = ac' ∧ r.heads.length = r.heads.length ∧ kc = kc' := by simpa using hce
        obtain ⟨b, off, rfl, hc⟩ := hHr.base (by omega)
        obtain ⟨ecs, hC, rfl, hfh⟩ := hc k hlt
        have u0 := hC.c0
        rw [show Rd.k Int = 1 from rfl, Nat.mul_one] at u0
        have hkn : (0 : Int) ≤ (k : Int) := by omega
        have hkl : (k : Int) < (r.heads.length : Int) := by omega
        have hrl := restH_len (r.heads.take k) os
        have hrl2 : (r.heads.take k).length ≤ r.heads.length := by rw [List.length_take]; omega
        have hne2 : ∀ W : World, Below wr.heap.size wr W → W.cell? ⟨b, off + k, none⟩ = some (.int .i64 (nth r.heads k)) := fun W hW => cell_kept hW u0
        clear hC hc hHr hce
        obtain ⟨wm, rfl⟩ : ∃ wm : World, wm = wr := ⟨_, rfl⟩
        go_wp2
        clear x0 x1 x2 x3 x4 u0
        go_loopw [9, 10] (fun al i wr => ∃ j : Nat, j ≤ os.length ∧ i = .int .i64 j ∧ al = .bool ((os.take j).any (fun p => p.1 == nth r.heads k)) ∧ Below wm.heap.size wm wr) (fun _ i _ => os.length - (intOf i).toNat)
        case atStart => exact ⟨0, Nat.zero_le _, rfl, rfl, Below.refl _ _⟩
        case round =>
          obtain ⟨j, hj, rfl, rfl, hb2⟩ := hrel
          have hb12 := hb1.trans (hb2.mono hsz)
          obtain ⟨x0, x1, x2, x3, x4⟩ := cells5 (boxE wr hb12)
          by_cases hjt : j < os.length
          · obtain ⟨a5', k5', hce, _, hOr⟩ := (rowB wr hb12).sl
            obtain ⟨rfl, _, rfl⟩ : a5 = a5' ∧ os.length = os.length ∧ k5 = k5' := by simpa using hce
            obtain ⟨b2, off2, rfl, hc⟩ := hOr.base (by omega)
            obtain ⟨ecs, hC, rfl, hf1, hf2⟩ := hc j hjt
            have v0 := hC.c0
            rw [show Rd.k (Int × Int) = 2 from rfl] at v0
            have u0 := hne2 wr hb2
            have hjn : (0 : Int) ≤ (j : Int) := by omega
            have hjl : (j : Int) < (os.length : Int) := by omega
            have hAn := any_take (f := fun p : Int × Int => p.1 == nth r.heads k) hjt
            obtain ⟨A, hA⟩ : ∃ A, A = (os.take j).any (fun p => p.1 == nth r.heads k) := ⟨_, rfl⟩
            rw [← hA] at hAn ⊢
            have HAn := Lib.hid hAn
            clear hC hc hOr hce hAn hA
            cases A
            · have hn := Lib.hid (HAn.out)
              clear HAn
              go_wp2
              go_quiet (fail)
              go_wp2
              go_roundw
              case rel => exact ⟨j + 1, by omega, by go_num, by rw [hn.out]; simp, by first | exact hb2.drew | exact below_drewN hb2 _⟩
              case measure => simp [intOf]; omega
            · have hn := Lib.hid (HAn.out)
              clear HAn
              go_wp2
              go_quiet (fail)
              go_wp2
              go_roundw
              case rel => exact ⟨j + 1, by omega, by go_num, by rw [hn.out]; simp, by first | exact hb2.drew | exact below_drewN hb2 _⟩
              case measure => simp [intOf]; omega
          · have hE : Hid ((os.take j).any (fun p => p.1 == nth r.heads k) = anyL os (nth r.heads k)) := by show _ = _; rw [List.take_of_length_le (by omega)]; rfl
            rw [hE.out]
            clear hE
            obtain ⟨A, hA⟩ : ∃ A, A = anyL os (nth r.heads k) := ⟨_, rfl⟩
            rw [← hA]
            have HA := Lib.hid hA
            have ho2 := ho.kept hb2
            have hsz2 : n2 ≤ wr.heap.size := Nat.le_trans hsz hb2.size
            have u0 := hne2 wr hb2
            clear hA ho
            cases A
            · have hn := Lib.hid (restH_yes hlt HA.out.symm)
              have hlo2 : (restH (r.heads.take k) os).length ≤ 1000000000 := by omega
              have hbA := hb12.alloc hsz2 (.cells #[.int .i64 (nth r.heads k)] 3)
              clear HA
              go_wp2_with (at_builtin; refine wpList_append_int rfl _ _ rfl rfl ho2 rfl hlo2 hfh hsz2 ?_; intro v9 w9 ho9 hb9 hg9)
              have hb9' := hb12.trans hb9
              go_roundw
              case rel => exact ⟨k + 1, by omega, by go_num, by rw [hn.out]; exact ho9, hb9'⟩
              case measure => simp [intOf]; omega
            · have hn := Lib.hid (restH_no hlt HA.out.symm)
              clear HA
              go_wp2
              go_roundw
              case rel => exact ⟨k + 1, by omega, by go_num, by rw [hn.out]; exact ho2, hb12⟩
              case measure => simp [intOf]; omega
      · obtain rfl : k = r.heads.length := by omega
        rw [List.take_length] at ho
        have hrl := restH_len r.heads os
        obtain ⟨av, kv, rfl, _, hvb⟩ := ho.open
        obtain ⟨nH, hnH⟩ : ∃ nH, nH = (restH r.heads os).length := ⟨_, rfl⟩
        rw [← hnH] at ho hrl ⊢
        have HNH := Lib.hid hnH
        clear hnH hrl
        obtain ⟨wm, rfl⟩ : ∃ wm : World, wm = wr := ⟨_, rfl⟩
        go_wp2
        clear x0 x1 x2 x3 x4
        go_loopw [11] (fun i wr => ∃ j : Nat, (j = 0 ∨ j + 1 ≤ os.length) ∧ i = .int .i64 j ∧ oppTo os j = false ∧ Below wm.heap.size wm wr) (fun i _ => os.length - (intOf i).toNat)
        case atStart => exact ⟨0, .inl rfl, rfl, rfl, Below.refl _ _⟩
        case round =>
          obtain ⟨j, hj, rfl, hop, hb2⟩ := hrel
          have HOP := Lib.hid hop
          clear hop
          have hb12 := hb1.trans (hb2.mono hsz)
          have hjb : j ≤ 24000 := by omega
          have hjb' : (j : Int) ≤ 24000 := by omega
          obtain ⟨x0, x1, x2, x3, x4⟩ := cells5 (boxE wr hb12)
          by_cases hjt : j + 1 < os.length
          · obtain ⟨a5', k5', hce, _, hOr⟩ := (rowB wr hb12).sl
            obtain ⟨rfl, _, rfl⟩ : a5 = a5' ∧ os.length = os.length ∧ k5 = k5' := by simpa using hce
            obtain ⟨b2, off2, rfl, hc⟩ := hOr.base (by omega)
            obtain ⟨ecs, hC, rfl, hf1, hf2⟩ := hc j (by omega)
            obtain ⟨ecs', hC', rfl, hf1', hf2'⟩ := hc (j + 1) hjt
            have v0 := hC.c0
            have v1 := hC'.c0
            rw [show Rd.k (Int × Int) = 2 from rfl] at v0 v1
            have hrg := hoL _ (nth_mem hjt)
            have hjn : (0 : Int) ≤ (j : Int) := by omega
            have hjl : (j : Int) < (os.length : Int) := by omega
            have hjn1 : (0 : Int) ≤ (j : Int) + 1 := by omega
            have hjl1 : (j : Int) + 1 < (os.length : Int) := by omega
            have hw1 : IntKind.i64.wrap ((j : Int) + 1) = (j : Int) + 1 := IntWalk.i64_in _ (by omega)
            have hn1 : ((j : Int) + 1).toNat = j + 1 := by omega
            have hw2 : IntKind.i64.wrap (-(nth os (j + 1)).1) = -(nth os (j + 1)).1 := IntWalk.i64_in _ (by omega)
            clear hC hC' hc hOr hce
            by_cases hq : (nth os j).1 = -(nth os (j + 1)).1
            · have hqb : ((nth os j).1 == -(nth os (j + 1)).1) = true := by simpa using hq
              have hG : goesU r.heads os = true := by
                unfold goesU oppB
                rw [oppTo_yes (k := j) (decide_eq_true hq) (by omega)]
                rfl
              have HTB : Hid (tidyB r = false) := by show _ = _; unfold tidyB; rw [HTO.out, tidyU_no (by rw [← HOS.out]; exact hG)]; rfl
              have HTR : Hid (tidyRR r = default) := by show _ = _; unfold tidyRR; rw [HTO.out, tidyU_no (by rw [← HOS.out]; exact hG)]; rfl
              have hbrr := (hb12.block (w.heap.size + 1) hdw).trans hbr6
              have hfz := fun j => frozen_of_row wr (w.heap.size + 1) j _ _ hbrr
              have CZ : Cells wr (w.heap.size + 1) 0 [.bool false, .slice none 0 0, .bool false, .int .i64 0, .slice none 0 0] := fun j v hv => by
                rw [Nat.zero_add, cell_of_row wr (w.heap.size + 1) j _ _ _ hbrr]; simpa using hv
              obtain ⟨z0, z1, z2, z3, z4⟩ := cells5 CZ
              have tr := t6.trans (hb12.mono (by omega))
              clear hq hG hbrr CZ hb12 hb2 hb1 ho boxE rowB rowH o6 oH6 t6 hbr6
              go_wp2
              go_quiet (fail)
              have trq := below_drewN tr nq
              clear v0 v1 hw1 hw2 hn1
              go_wp2
              refine bodyPost_ret (v := .tuple #[.agg #[.bool false, .slice none 0 0, .bool false, .int .i64 0, .slice none 0 0], .bool false])
                (by simp [results, Tryz.results18, go_sem, z0, z1, z2, z3, z4]) rfl ⟨_, by rw [HTB.out], by rw [HTR.out]; exact own_zeroR _ _, by
                repeat (refine Below.setCell ?_ (by simp; try omega) _)
                exact trq⟩
            · have hqb : ((nth os j).1 == -(nth os (j + 1)).1) = false := by simpa using hq
              have hn := Lib.hid (oppTo_no HOP.out (decide_eq_false hq))
              clear hq
              go_wp2
              go_quiet (fail)
              go_wp2
              clear hw1 hw2 hn1
              go_roundw
              case rel => exact ⟨j + 1, .inr (by omega), by go_num, hn.out, by first | exact hb2.drew | exact below_drewN hb2 _⟩
              case measure => simp [intOf]; omega
          · have hop2 : oppB os = false := by unfold oppB; rw [show os.length - 1 = j by omega]; exact HOP.out
            have hbrr := (hb12.block (w.heap.size + 1) hdw).trans hbr6
            have hfz := fun j => frozen_of_row wr (w.heap.size + 1) j _ _ hbrr
            have CZ : Cells wr (w.heap.size + 1) 0 [.bool false, .slice none 0 0, .bool false, .int .i64 0, .slice none 0 0] := fun j v hv => by
              rw [Nat.zero_add, cell_of_row wr (w.heap.size + 1) j _ _ _ hbrr]; simpa using hv
            obtain ⟨z0, z1, z2, z3, z4⟩ := cells5 CZ
            have tr := t6.trans (hb12.mono (by omega))
            have hG : goesU r.heads os = (decide (nH = 0) && decide (0 < r.heads.length)) := by unfold goesU; rw [hop2, HNH.out, Bool.false_or]
            have hjl : os.length ≤ j + 1 := by omega
            have hw1 : IntKind.i64.wrap ((j : Int) + 1) = (j : Int) + 1 := IntWalk.i64_in _ (by omega)
            have hjl' : (os.length : Int) ≤ (j : Int) + 1 := by omega
            clear hop2 hbrr CZ
            by_cases hg : nH = 0 ∧ 0 < r.heads.length
            · have hG2 : goesU r.heads os = true := by rw [hG, decide_eq_true hg.1, decide_eq_true hg.2]; rfl
              have HTB : Hid (tidyB r = false) := by show _ = _; unfold tidyB; rw [HTO.out, tidyU_no (by rw [← HOS.out]; exact hG2)]; rfl
              have HTR : Hid (tidyRR r = default) := by show _ = _; unfold tidyRR; rw [HTO.out, tidyU_no (by rw [← HOS.out]; exact hG2)]; rfl
              have h1 : ((nH : Int) == 0) = true := by simp; omega
              have h2 : decide (0 < r.heads.length) = true := decide_eq_true hg.2
              have h3 : (0 : Int) < (r.heads.length : Int) := by omega
              clear hG hG2 hg hb12 hb2 hb1 ho boxE rowB rowH o6 oH6 t6 hbr6
              go_wp2
              refine bodyPost_ret (v := .tuple #[.agg #[.bool false, .slice none 0 0, .bool false, .int .i64 0, .slice none 0 0], .bool false])
                (by simp [results, Tryz.results18, go_sem, z0, z1, z2, z3, z4]) rfl ⟨_, by rw [HTB.out], by rw [HTR.out]; exact own_zeroR _ _, by
                repeat (refine Below.setCell ?_ (by simp; try omega) _)
                exact tr⟩
            · have hG2 : goesU r.heads os = false := by
                rw [hG]
                by_cases e : nH = 0
                · rw [decide_eq_false (fun h => hg ⟨e, h⟩), Bool.and_false]
                · rw [decide_eq_false e, Bool.false_and]
              have HTB : Hid (tidyB r = true) := by show _ = _; unfold tidyB; rw [HTO.out, tidyU_yes (by rw [← HOS.out]; exact hG2)]; rfl
              have HTR : Hid (tidyRR r = ⟨r.choice, restH r.heads os, false, 0, os⟩) := by show _ = _; unfold tidyRR; rw [HTO.out, tidyU_yes (by rw [← HOS.out]; exact hG2), ← HOS.out]; rfl
              have hfzb : ∀ j, wr.frozen? ⟨hb, j, none⟩ = false := fun j => frozen_of_row wr hb j _ _ ((hb12.block hb hdb).trans G6.out)
              have ho2 := ho.kept hb2
              have hsr : n2 ≤ wr.heap.size := Nat.le_trans hsz hb2.size
              have HF : ∀ (u : Value) (cs' : List Value), Own w.heap.size (put (wr.setCell ⟨hb, 1, none⟩ u) (w.heap.size + 1) 0 cs') [.bool r.choice, .slice av nH kv, .bool false, .int .i64 0, .slice a5 os.length k5] (⟨r.choice, restH r.heads os, false, 0, os⟩ : RuleD) := fun u cs' => by
                obtain ⟨fpo, hO, hl⟩ := own_rule3 (x := (⟨r.choice, restH r.heads os, false, 0, os⟩ : RuleD)) (OwnI.own ho2).shut (o6.ownIn.later (HN2.out ▸ hb12)) (.inr (by rw [HN2.out]; exact Nat.le_refl _)) (by show Fits 0; unfold Fits; omega)
                have hl : ∀ g ∈ fpo, (n2 ≤ g ∧ g < wr.heap.size) ∨ (wc.heap.size ≤ g ∧ g < wd.heap.size) := hl
                exact ⟨fpo, Ow.kept hO fun g hg => ((put_chg (w.heap.size + 1) cs' (wr.setCell ⟨hb, 1, none⟩ u) 0).block g (by have := hl g hg; simp; omega)).trans (Below.heap_setCell _ _ _ _ (by have := hl g hg; show g ≠ hb; omega)), fun g hg => by have := hl g hg; omega⟩
              have HF := Lib.hid HF
              have hne : w.heap.size + 1 ≠ hb := by omega
              have hne2 : hb ≠ w.heap.size + 1 := by omega
              by_cases e : nH = 0
              · have h1 : ((nH : Int) == 0) = true := by simp; omega
                have h2 : decide (0 < r.heads.length) = false := decide_eq_false fun h => hg ⟨e, h⟩
                have h3 : ¬ (0 : Int) < (r.heads.length : Int) := by omega
                clear hG hG2 hg hb12 hb2 hb1 ho ho2 boxE rowB rowH o6 oH6 t6 hbr6 e
                go_wp2
                refine bodyPost_ret (v := .tuple #[.agg #[.bool r.choice, .slice av nH kv, .bool false, .int .i64 0, .slice a5 os.length k5], .bool true])
                  (by simp [results, Tryz.results18, go_sem, z0, z1, z2, z3, z4]) rfl ⟨_, by rw [HTB.out], by rw [HTR.out]; exact HF.out (.slice av nH kv) [.bool r.choice, .slice av nH kv, .bool false, .int .i64 0, .slice a5 os.length k5], ?_⟩
                exact (Below.setCell tr (p := ⟨hb, 1, none⟩) (by show w.heap.size ≤ hb; omega) _).trans ((put_chg (w.heap.size + 1) [.bool r.choice, .slice av nH kv, .bool false, .int .i64 0, .slice a5 os.length k5] _ 0).below fun g hg => by simp at hg; omega)
              · have h1 : ((nH : Int) == 0) = false := by simp; omega
                clear hG hG2 hg hb12 hb2 hb1 ho ho2 boxE rowB rowH o6 oH6 t6 hbr6 e
                go_wp2
                refine bodyPost_ret (v := .tuple #[.agg #[.bool r.choice, .slice av nH kv, .bool false, .int .i64 0, .slice a5 os.length k5], .bool true])
                  (by simp [results, Tryz.results18, go_sem, z0, z1, z2, z3, z4]) rfl ⟨_, by rw [HTB.out], by rw [HTR.out]; exact HF.out (.slice av nH kv) [.bool r.choice, .slice av nH kv, .bool false, .int .i64 0, .slice a5 os.length k5], ?_⟩
                exact (Below.setCell tr (p := ⟨hb, 1, none⟩) (by show w.heap.size ≤ hb; omega) _).trans ((put_chg (w.heap.size + 1) [.bool r.choice, .slice av nH kv, .bool false, .int .i64 0, .slice a5 os.length k5] _ 0).below fun g hg => by simp at hg; omega)

end Go.Proofs.YtmndmhnhcoblnaaGreat
