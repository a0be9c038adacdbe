/-
  impl.TidyRule: what it answers. No condition of its own.
-/
import Derived.Test.YtgckeaijbmcdcaaUnwI
import Derived.Test.YtgckeaijbmcdcaaWeighI
import Derived.Test.YtgckeaijbmcdcaaImplRule
import Derived.Deep.DeepCutAuto
namespace Go.Proofs.Ytgckeaijbmcdcaa
open Go.RowKit
set_option maxRecDepth 100000

/-- The rule that is being tidied, in its box, ahead of what is done without Weight. -/
def TRI (lo hb : Nat) (wa : World) (r : RuleD) (s : Bool) (wx : World) : Prop :=
  Below lo wa wx ∧
  ((s = false ∧ wx.heap[hb]? = some (.cells #[.bool false, .slice none 0 0, .bool false, .int .i64 0, .slice none 0 0] 48 (0, 0)) ∧ tidyO r = none) ∨
   (s = true ∧ ∃ bd c1 c4 ys, wx.heap[hb]? = some (.cells #[.bool r.choice, c1, .bool false, .int .i64 bd, c4] 48 (0, 0)) ∧ RdL wx [c1] r.heads ∧ RdL wx [c4] ys ∧ WBg ys ∧ tidyO r = tidyU r.choice r.heads ys) ∨
   (s = true ∧ r.weight = true ∧ ∃ c1 c4 ys, wx.heap[hb]? = some (.cells #[.bool r.choice, c1, .bool true, .int .i64 r.bound, c4] 48 (0, 0)) ∧ OwnIn lo hb wx [c1] r.heads ∧ OwnIn (hb + 1) wx.heap.size wx [c4] ys ∧ tidyO r = some { r with body := ys }))
theorem heap5 {w : World} {g : Nat} {a0 a1 a2 a3 a4 b0 b1 b2 b3 b4 : Value} {t : TypeId} (h : w.heap[g]? = some (.cells #[a0, a1, a2, a3, a4] t (0, 0))) : (put w g 0 [b0, b1, b2, b3, b4]).heap[g]? = some (.cells #[b0, b1, b2, b3, b4] t (0, 0)) := by
  have e0 := heap_setCell_same w g 0 _ _ b0 h
  have e1 := heap_setCell_same _ g 1 _ _ b1 e0
  have e2 := heap_setCell_same _ g 2 _ _ b2 e1
  have e3 := heap_setCell_same _ g 3 _ _ b3 e2
  exact heap_setCell_same _ g 4 _ _ b4 e3
theorem cellsOf {w : World} {g : Nat} {cs : List Value} {t : TypeId} (h : w.heap[g]? = some (.cells cs.toArray t (0, 0))) : Cells w g 0 cs := fun j v hv => by
  rw [Nat.zero_add, cell_of_row w g j _ _ _ h]; simpa using hv

set_option maxHeartbeats 4000000 in
theorem implTidyRule_calls {cs : List Value} {r : RuleD} {w : World} (h : Rd.R w cs r) :
    Calls Try.prog 15 #[.agg cs.toArray] w fun e w' => ∃ cs', e = .returned (.tuple #[.agg cs'.toArray, .bool (tidyB r)]) ∧ Own w.heap.size w' cs' (tidyRR r) ∧ Below w.heap.size w w' := by
  have h0 := h
  obtain ⟨r1, r4, rfl, hfb, g1, g4⟩ := h0
  obtain ⟨ah, kh, rfl, _, hh⟩ := g1.sl
  obtain ⟨ab, kb, rfl, _, hbd⟩ := g4.sl
  have t0 : Below w.heap.size w ((w.alloc (.cells #[.bool r.choice, .slice ah r.heads.length kh, .bool r.weight, .int .i64 r.bound, .slice ab r.body.length kb] 48)).alloc (.cells #[.bool false, .slice none 0 0, .bool false, .int .i64 0, .slice none 0 0] 48)) := ((Below.refl _ _).alloc (by simp) _).alloc (by simp) _
  have CP := (Cells.new w [.bool r.choice, .slice ah r.heads.length kh, .bool r.weight, .int .i64 r.bound, .slice ab r.body.length kb] 48).alloc (.cells #[.bool false, .slice none 0 0, .bool false, .int .i64 0, .slice none 0 0] 48)
  have hb0 := alloc_block (w.alloc (.cells #[.bool r.choice, .slice ah r.heads.length kh, .bool r.weight, .int .i64 r.bound, .slice ab r.body.length kb] 48)) #[.bool false, .slice none 0 0, .bool false, .int .i64 0, .slice none 0 0] 48
  rw [World.size_alloc] at hb0
  cases hok : ruleOkB r 12
  · have HTB : Hid (tidyB r = false) := by show _ = _; unfold tidyB; rw [tidyO_no hok]; rfl
    have HTR : Hid (tidyRR r = default) := by show _ = _; unfold tidyRR; rw [tidyO_no hok]; rfl
    obtain ⟨y0, y1, y2, y3, y4⟩ := cells5 CP
    go_enter Try.func15, Try.ntmps15
    go_wp2_with fail
    refine (implRuleOk_calls 12 (Rd.mono t0 h)).mono ?_
    rintro e w1 ⟨he, b1⟩
    rw [hok] at he
    subst he
    clear y0 y1 y2 y3 y4
    have hZ1 := (b1.block (w.heap.size + 1) (by simp)).trans hb0
    obtain ⟨z0, z1, z2, z3, z4⟩ := cells5 (cellsOf hZ1)
    have hfz := fun j => frozen_of_row w1 (w.heap.size + 1) j _ _ hZ1
    have hz1 : w.heap.size + 1 < w1.heap.size := by have := b1.size; simp at this; omega
    have t1 := Lib.hid (t0.step b1)
    clear CP hok hZ1 hb0 t0 b1
    go_wp2
    refine bodyPost_ret (v := .tuple #[.agg #[.bool false, .slice none 0 0, .bool false, .int .i64 0, .slice none 0 0], .bool false])
      (by simp [results, Try.results15, go_sem, z0, z1, z2, z3, z4]) rfl ⟨_, by rw [HTB.out], by rw [HTR.out]; exact own_zeroR _ _, by
      repeat (refine Below.setCell ?_ (by simp; try omega) _)
      exact t1.out⟩
  have hwk := ruleOk_body hok
  have hhl := ruleOk_heads hok
  have hbl := hwk.1
  have hbnd := ruleOk_bound hok
  have HOK := Lib.hid hok
  have HWK := Lib.hid hwk
  obtain ⟨y0, y1, y2, y3, y4⟩ := cells5 CP
  go_enter Try.func15, Try.ntmps15
  go_wp2_with fail
  refine (implRuleOk_calls 12 (Rd.mono t0 h)).mono ?_
  rintro e w1 ⟨he, b1⟩
  rw [hok] at he
  subst he
  clear hok hwk y0 y1 y2 y3 y4
  have CP1 := CP.later b1
  have t1 := t0.step b1
  have hs1 : w.heap.size + 1 + 1 ≤ w1.heap.size := by have := b1.size; simpa using this
  obtain ⟨y0, y1, y2, y3, y4⟩ := cells5 CP1
  go_wp2_with fail
  clear y0 y1 y2 y3 y4
  refine (ruleCopied_calls (Rd.mono t1 h) (by omega) (by omega)).mono ?_
  rintro e w2 ⟨cs2, rfl, o2, b2⟩
  obtain ⟨fp, ⟨c1, c4, f1, f4, rfl, hfb', o1, o4, rfl, hn⟩, hlo⟩ := o2
  have hs2 : w1.heap.size ≤ w2.heap.size := b2.size
  have b12 := b1.step b2
  have t2 := t1.step b2
  have oH : OwnIn w1.heap.size w2.heap.size w2 [c1] r.heads := ⟨f1, o1, fun g hg => ⟨hlo g (List.mem_append_left _ hg), Ow.lt (α := List Int) o1 g hg⟩⟩
  have oB : RdL w2 [c4] r.body := o4.rd
  have st1 := sto Try.prog (oH.rd.one1)
  have st4 := sto Try.prog (oB.one1)
  go_upto_if 13 with fail
  clear st1 st4
  have b23 := (Below.refl w2.heap.size w2).alloc (Nat.le_refl _) (.cells #[.bool r.choice, c1, .bool r.weight, .int .i64 r.bound, c4] 48)
  have t3 := t2.alloc t2.size (.cells #[.bool r.choice, c1, .bool r.weight, .int .i64 r.bound, c4] 48)
  have hGa := alloc_block w2 #[.bool r.choice, c1, .bool r.weight, .int .i64 r.bound, c4] 48
  have oH := oH.later b23
  have oB := Rd.mono (α := List (Int × Int)) b23 oB
  have hbr3 := ((b23.block (w.heap.size + 1) (by omega)).trans (b12.block _ (by simp))).trans hb0
  have hza := World.size_alloc w2 (.cells #[.bool r.choice, c1, .bool r.weight, .int .i64 r.bound, c4] 48)
  generalize w2.alloc (.cells #[.bool r.choice, c1, .bool r.weight, .int .i64 r.bound, c4] 48) = wa at b23 t3 hGa oH oB hbr3 hza ⊢
  obtain ⟨hb, hhb⟩ : ∃ hb, hb = w2.heap.size := ⟨_, rfl⟩
  obtain ⟨lo, hlo'⟩ : ∃ lo, lo = w1.heap.size := ⟨_, rfl⟩
  rw [← hhb, ← hlo'] at oH
  rw [← hhb] at hGa hza ⊢
  have hlb : lo ≤ hb := by omega
  have hlw : w.heap.size + 1 < lo := by omega
  have hza' : wa.heap.size = hb + 1 := hza
  have hzl : hb < wa.heap.size := by omega
  clear hhb hlo' hza CP CP1 b1 b2 b12 b23 t0 t1 t2 hs1 hs2 o1 o4 hn hlo hb0
  have HZA := Lib.hid hza'
  clear hza'
  obtain ⟨wt, hwt⟩ : ∃ wt, wt = r.weight := ⟨_, rfl⟩
  rw [← hwt] at hGa ⊢
  have HWT := Lib.hid hwt
  clear hwt h
  obtain ⟨y0, y1, y2, y3, y4⟩ := cells5 (cellsOf hGa)
  go_cut [5] (fun v5 wx => ∃ s, v5 = .bool s ∧ TRI lo hb wa r s wx)
  case first =>
    cases wt
    case false =>
      have HT : Hid (TRI lo hb wa r true wa) := ⟨Below.refl _ _, .inr (.inl ⟨rfl, r.bound, c1, c4, r.body, hGa, oH.rd, oB, HWK.out.big, tidyO_U HOK.out HWT.out.symm⟩)⟩
      go_wp2
      go_meet
      exact ⟨true, rfl, HT.out⟩
    case true =>
      have hTW := tidyWeighted_calls (r := r) oH.rd oB HWK.out hbnd
      rw [← HWT.out] at hTW
      have hW : r.weight = true := HWT.out.symm
      have hTO := tidyO_W HOK.out hW
      have HW := Lib.hid hW
      clear hW
      go_wp2_with fail
      clear y0 y1 y2 y3 y4
      refine hTW.mono ?_
      rintro e w3 ⟨cs3, s, rfl, hT, b3⟩
      have hG3 := (b3.block hb hzl).trans hGa
      have oH3 := oH.later b3
      obtain ⟨y0, y1, y2, y3, y4⟩ := cells5 (cellsOf hG3)
      have hfb := fun j => frozen_of_row w3 hb j _ _ hG3
      have z3 := b3.size
      rcases hT with ⟨rfl, rfl, hn⟩ | ⟨rfl, wt', bd', v, ys, rfl, ho, hT⟩
      · have HT : Hid (TRI lo hb wa r false (put w3 hb 0 [.bool false, .slice none 0 0, .bool false, .int .i64 0, .slice none 0 0])) :=
          ⟨(b3.mono (by omega)).trans ((put_chg hb [.bool false, .slice none 0 0, .bool false, .int .i64 0, .slice none 0 0] w3 0).below fun g hg => by simp at hg; omega), .inl ⟨rfl, heap5 hG3, by rw [hTO, hn]⟩⟩
        clear oH3 hG3 hTW hGa oH oB b3 hTO hn
        go_wp2
        go_meet
        exact ⟨false, rfl, HT.out⟩
      · obtain ⟨av, cv, rfl, _, _⟩ := ho.rd.sl
        have hch := put_chg hb [.bool r.choice, c1, .bool wt', .int .i64 bd', .slice av ys.length cv] w3 0
        have hB : Below lo wa (put w3 hb 0 [.bool r.choice, c1, .bool wt', .int .i64 bd', .slice av ys.length cv]) := (b3.mono (by omega)).trans (hch.below fun g hg => by simp at hg; omega)
        have hO5 : OwnIn (hb + 1) (put w3 hb 0 [.bool r.choice, c1, .bool wt', .int .i64 bd', .slice av ys.length cv]).heap.size (put w3 hb 0 [.bool r.choice, c1, .bool wt', .int .i64 bd', .slice av ys.length cv]) [.slice av ys.length cv] ys := by
          have := (ho.keep (w' := put w3 hb 0 [.bool r.choice, c1, .bool wt', .int .i64 bd', .slice av ys.length cv]) fun g _ hB _ => hch.block g (by have := HZA.out; simp; omega)).ownIn
          exact this.mono (by have := HZA.out; omega) (Nat.le_refl _)
        have oH5 : OwnIn lo hb (put w3 hb 0 [.bool r.choice, c1, .bool wt', .int .i64 bd', .slice av ys.length cv]) [c1] r.heads := by
          obtain ⟨f, o, l⟩ := oH3
          exact ⟨f, Ow.kept o fun g hg => hch.block g (by have := l g hg; simp; omega), l⟩
        have st1 := sto Try.prog (oH3.rd.one1)
        have HT : Hid (TRI lo hb wa r true (put w3 hb 0 [.bool r.choice, c1, .bool wt', .int .i64 bd', .slice av ys.length cv])) := by
          refine ⟨hB, .inr ?_⟩
          rcases hT with ⟨rfl, rfl, hwb, ht⟩ | ⟨rfl, rfl, ht⟩
          · exact .inl ⟨rfl, 0, c1, _, ys, heap5 hG3, oH5.rd, hO5.rd, hwb, by rw [hTO, ht]⟩
          · refine .inr ⟨rfl, HW.out, c1, _, ys, ?_, oH5, hO5, by rw [hTO, ht]⟩
            have := heap5 (b0 := .bool r.choice) (b1 := c1) (b2 := .bool r.weight) (b3 := .int .i64 r.bound) (b4 := .slice av ys.length cv) hG3
            rw [this, HW.out]
        clear oH3 hG3 hTW hGa oH oB b3 hTO hT hO5 oH5 hB hch ho
        go_wp2
        go_meet
        exact ⟨true, rfl, HT.out⟩
  case rest =>
    clear y0 y1 y2 y3 y4
    obtain ⟨s, rfl, hB, hcut⟩ := hcut
    have tw := Lib.hid (t3.trans (hB.mono (by omega)))
    have hZ := (hB.block (w.heap.size + 1) hlw).trans hbr3
    have hzs : hb < wc.heap.size := by have := hB.size; omega
    obtain ⟨z0, z1, z2, z3, z4⟩ := cells5 (cellsOf hZ)
    have hfz := fun j => frozen_of_row wc (w.heap.size + 1) j _ _ hZ
    rcases hcut with ⟨rfl, hG, hT⟩ | ⟨rfl, bd, d1, d4, ys, hG, r1, r4, hwb, hT⟩ | ⟨rfl, hW, d1, d4, ys, hG, r1, r4, hT⟩
    · have HTB : Hid (tidyB r = false) := by show _ = _; unfold tidyB; rw [hT]; rfl
      have HTR : Hid (tidyRR r = default) := by show _ = _; unfold tidyRR; rw [hT]; rfl
      obtain ⟨y0, y1, y2, y3, y4⟩ := cells5 (cellsOf hG)
      clear hG hT hZ hB t3 hGa oH oB hbr3
      go_wp2
      refine bodyPost_ret (v := .tuple #[.agg #[.bool false, .slice none 0 0, .bool false, .int .i64 0, .slice none 0 0], .bool false])
        (by simp [results, Try.results15, go_sem, z0, z1, z2, z3, z4]) rfl ⟨_, by rw [HTB.out], by rw [HTR.out]; exact own_zeroR _ _, by
        repeat (refine Below.setCell ?_ (by simp; try omega) _)
        exact tw.out⟩
    · have HTB : Hid (tidyB r = (tidyU r.choice r.heads ys).isSome) := by show _ = _; unfold tidyB; rw [hT]
      have HTR : Hid (tidyRR r = (tidyU r.choice r.heads ys).getD default) := by show _ = _; unfold tidyRR; rw [hT]
      have hU := tidyUnweighted_calls (ch := r.choice) (wt := false) (bd := bd) r1 r4 hwb (ruleOk_set HOK.out)
      obtain ⟨y0, y1, y2, y3, y4⟩ := cells5 (cellsOf hG)
      have so1 := sto Try.prog r1.one1
      have so4 := sto Try.prog r4.one1
      clear hT t3 hGa oH oB hbr3 z0 z1 z2 z3 z4 hfz
      go_wp2_with fail
      clear y0 y1 y2 y3 y4 so1 so4
      refine hU.mono ?_
      rintro e w5 ⟨cs5, rfl, o5, b5⟩
      obtain ⟨e0, e1, e2, e3, e4, rfl⟩ := list5 (Rd.len o5.rd)
      have lx := Rd.one o5.rd
      have st0 := sto Try.prog (lx e0 (by simp))
      have st1 := sto Try.prog (lx e1 (by simp))
      have st2 := sto Try.prog (lx e2 (by simp))
      have st3 := sto Try.prog (lx e3 (by simp))
      have st4 := sto Try.prog (lx e4 (by simp))
      have hG5 := (b5.block hb hzs).trans hG
      have hZ5 := (b5.block (w.heap.size + 1) (by omega)).trans hZ
      obtain ⟨y0, y1, y2, y3, y4⟩ := cells5 (cellsOf hG5)
      obtain ⟨z0, z1, z2, z3, z4⟩ := cells5 (cellsOf hZ5)
      have hfz5 := fun j => frozen_of_row w5 (w.heap.size + 1) j _ _ hZ5
      have hfb5 := fun j => frozen_of_row w5 hb j _ _ hG5
      have tw5 := Lib.hid (tw.out.step b5)
      have hne : w.heap.size + 1 ≠ hb := by omega
      have hne2 : hb ≠ w.heap.size + 1 := by omega
      have HF : Hid (Own w.heap.size (put (put w5 hb 0 [e0, e1, e2, e3, e4]) (w.heap.size + 1) 0 [e0, e1, e2, e3, e4]) [e0, e1, e2, e3, e4] ((tidyU r.choice r.heads ys).getD default)) := by
        obtain ⟨fpo, hO, hl⟩ := o5
        exact ⟨fpo, Ow.kept hO fun g hg => ((put_chg (w.heap.size + 1) [e0, e1, e2, e3, e4] _ 0).block g (by have := hl g hg; simp; omega)).trans ((put_chg hb [e0, e1, e2, e3, e4] w5 0).block g (by have := hl g hg; simp; omega)), fun g hg => by have := hl g hg; omega⟩
      clear hU o5 lx hG5 hZ5 hZ hG hB b5 r1 r4 hwb
      go_wp2
      refine bodyPost_ret (v := .tuple #[.agg #[e0, e1, e2, e3, e4], .bool (tidyU r.choice r.heads ys).isSome])
        (by simp [results, Try.results15, go_sem, z0, z1, z2, z3, z4, hne, hne2]) rfl ⟨_, by rw [HTB.out], by rw [HTR.out]; exact HF.out, ?_⟩
      exact (tw5.out.trans ((put_chg hb [e0, e1, e2, e3, e4] w5 0).below (lo := w.heap.size) fun g hg => by simp at hg; omega)).trans ((put_chg (w.heap.size + 1) [e0, e1, e2, e3, e4] _ 0).below fun g hg => by simp at hg; omega)
    · have HTB : Hid (tidyB r = true) := by show _ = _; unfold tidyB; rw [hT]; rfl
      have HTR : Hid (tidyRR r = { r with body := ys }) := by show _ = _; unfold tidyRR; rw [hT]; rfl
      obtain ⟨y0, y1, y2, y3, y4⟩ := cells5 (cellsOf hG)
      have so1 := sto Try.prog r1.rd.one1
      have so4 := sto Try.prog r4.rd.one1
      have HF : Hid (Own w.heap.size (put wc (w.heap.size + 1) 0 [.bool r.choice, d1, .bool true, .int .i64 r.bound, d4]) [.bool r.choice, d1, .bool true, .int .i64 r.bound, d4] ({ r with body := ys } : RuleD)) := by
        obtain ⟨fpo, hO, hl⟩ := own_rule3 (x := ({ r with body := ys } : RuleD)) r1 r4 (.inl (by omega)) hfb
        have hcell : Value.bool ({ r with body := ys } : RuleD).weight = Value.bool true := by rw [← hW]
        rw [hcell] at hO
        have hl : ∀ g ∈ fpo, (lo ≤ g ∧ g < hb) ∨ (hb + 1 ≤ g ∧ g < wc.heap.size) := hl
        exact ⟨fpo, Ow.kept hO fun g hg => (put_chg (w.heap.size + 1) [.bool r.choice, d1, .bool true, .int .i64 r.bound, d4] wc 0).block g (by have := hl g hg; simp; omega), fun g hg => by have := hl g hg; omega⟩
      clear hG hT hZ hB t3 hGa oH oB hbr3 r1 r4
      go_wp2
      refine bodyPost_ret (v := .tuple #[.agg #[.bool r.choice, d1, .bool true, .int .i64 r.bound, d4], .bool true])
        (by simp [results, Try.results15, go_sem, z0, z1, z2, z3, z4]) rfl ⟨_, by rw [HTB.out], by rw [HTR.out]; exact HF.out, ?_⟩
      exact tw.out.trans ((put_chg (w.heap.size + 1) [.bool r.choice, d1, .bool true, .int .i64 r.bound, d4] wc 0).below fun g hg => by simp at hg; omega)

end Go.Proofs.Ytgckeaijbmcdcaa
