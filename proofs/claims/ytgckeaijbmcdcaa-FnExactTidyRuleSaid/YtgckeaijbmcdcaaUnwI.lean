/-
  The program's tidying of a rule without Weight. No condition of its own.
-/
import Derived.Test.YtgckeaijbmcdcaaUnwD
import Derived.Test.YtgckeaijbmcdcaaWithout
namespace Go.Proofs.Ytgckeaijbmcdcaa
open Go.RowKit
set_option maxRecDepth 100000

theorem orM_calls (a b : Nat) (w : World) (ha : a < 4096) (hb : b < 4096) :
    Calls Try.prog 100 #[.int .u16 (a : Int), .int .u16 (b : Int)] w fun e w' => e = .returned (.int .u16 ((a ||| b : Nat) : Int)) ∧ w = w' := by
  have hor := or_u16 a b ha hb
  go_enter Try.func100, Try.ntmps100
  go_wp2
  go_ret
  exact ⟨rfl, rfl⟩
theorem meetM_calls (a b : Nat) (w : World) (ha : a < 4096) (hb : b < 4096) :
    Calls Try.prog 103 #[.int .u16 (a : Int), .int .u16 (b : Int)] w fun e w' => e = .returned (.int .u16 ((a &&& b : Nat) : Int)) ∧ w = w' := by
  have hor := and_u16 a b ha hb
  go_enter Try.func103, Try.ntmps103
  go_wp2
  go_ret
  exact ⟨rfl, rfl⟩
theorem lessM_calls (a b : Nat) (w : World) (ha : a < 4096) (hb : b < 4096) :
    Calls Try.prog 105 #[.int .u16 (a : Int), .int .u16 (b : Int)] w fun e w' => e = .returned (.int .u16 ((a &&& (65535 - b) : Nat) : Int)) ∧ w = w' := by
  have hor := andNot_u16 a b ha hb
  go_enter Try.func105, Try.ntmps105
  go_wp2
  go_ret
  exact ⟨rfl, rfl⟩
theorem inM_calls (a b : Nat) (w : World) (ha : a < 4096) (hb : b < 4096) :
    Calls Try.prog 104 #[.int .u16 (a : Int), .int .u16 (b : Int)] w fun e w' => e = .returned (.bool (((a &&& (65535 - b) : Nat) : Int) == 0)) ∧ w = w' := by
  go_enter Try.func104, Try.ntmps104
  go_wp2_with (go_at_call 105; refine (lessM_calls _ _ _ ha hb).mono ?_; rintro e w' ⟨rfl, rfl⟩)
  go_ret
  exact ⟨rfl, rfl⟩

set_option maxHeartbeats 4000000 in
theorem tidyUnweighted_calls {ch wt : Bool} {bd : Int} {c1 c4 : Value} {heads : List Int} {body : List Pr} {w : World} (h1 : RdL w [c1] heads) (h4 : RdL w [c4] body) (hw : WBg body) (hs : setOkB heads 12 = true) :
    Calls Try.prog 60 #[.agg #[.bool ch, c1, .bool wt, .int .i64 bd, c4]] w fun e w' =>
      ∃ cs', e = .returned (.tuple #[.agg cs'.toArray, .bool (tidyU ch heads body).isSome]) ∧ Own w.heap.size w' cs' ((tidyU ch heads body).getD default) ∧ Below w.heap.size w w' := by
  obtain ⟨ah, kh, rfl, _, hh⟩ := h1.sl
  obtain ⟨ab, kb, rfl, _, _⟩ := h4.sl
  have t0 : Below w.heap.size w ((w.alloc (.cells #[.bool ch, .slice ah heads.length kh, .bool wt, .int .i64 bd, .slice ab body.length kb] 48)).alloc (.cells #[.bool false, .slice none 0 0, .bool false, .int .i64 0, .slice none 0 0] 48)) := ((Below.refl _ _).alloc (by simp) _).alloc (by simp) _
  have CP := (Cells.new w [.bool ch, .slice ah heads.length kh, .bool wt, .int .i64 bd, .slice ab body.length kb] 48).alloc (.cells #[.bool false, .slice none 0 0, .bool false, .int .i64 0, .slice none 0 0] 48)
  have hbA := (((Below.refl _ _).alloc (Nat.le_refl _) (.cells #[.bool false, .slice none 0 0, .bool false, .int .i64 0, .slice none 0 0] 48)).block w.heap.size (by simp)).trans (alloc_block w #[.bool ch, .slice ah heads.length kh, .bool wt, .int .i64 bd, .slice ab body.length kb] 48)
  have hb0 := alloc_block (w.alloc (.cells #[.bool ch, .slice ah heads.length kh, .bool wt, .int .i64 bd, .slice ab body.length kb] 48)) #[.bool false, .slice none 0 0, .bool false, .int .i64 0, .slice none 0 0] 48
  have hs0 : ((w.alloc (.cells #[.bool ch, .slice ah heads.length kh, .bool wt, .int .i64 bd, .slice ab body.length kb] 48)).alloc (.cells #[.bool false, .slice none 0 0, .bool false, .int .i64 0, .slice none 0 0] 48)).heap.size = w.heap.size + 2 := by simp
  rw [World.size_alloc] at hb0
  have hWW := withoutWeight_calls (ch := ch) (wt := wt) (bd := bd) (ah := ah) (nh := heads.length) (kh := kh) (ab := ab) (nb := body.length) (kb := kb) (Rd.mono (α := List (Int × Int)) t0 h4) hw
  obtain ⟨x0, x1, x2, x3, x4⟩ := cells5 CP
  have hI := hh.ints
  have hGO := goes_same hs hw.inR
  have hRS := fun os => rest_same (os := os) hs
  have hRng : ∀ p ∈ onceL body, -12 ≤ p.1 ∧ p.1 ≤ 12 := fun p hp => by have := onceL_in hw.inR p hp; unfold inR at this; omega
  obtain ⟨ys, hys⟩ : ∃ ys, ys = onceL body := ⟨_, rfl⟩
  rw [← hys] at hWW hGO hRng
  have HOS := Lib.hid hys
  have HRng := Lib.hid hRng
  clear h1 h4 hw hs hh hys hRng
  go_enter Try.func60, Try.ntmps60
  go_wp2_with fail
  refine hWW.mono ?_
  rintro e w1 ⟨v1, rfl, o1, b1⟩
  clear hWW x0 x1 x2 x3 x4
  rw [hs0] at o1 b1
  have hz1 := b1.size
  rw [hs0] at hz1
  have CP1 : Cells w1 w.heap.size 0 [.bool ch, .slice ah heads.length kh, .bool wt, .int .i64 bd, .slice ab body.length kb] := CP.later (hs0 ▸ b1)
  have hA1 := (b1.block w.heap.size (by omega)).trans hbA
  have hZ1 := (b1.block (w.heap.size + 1) (by omega)).trans hb0
  have t1 := t0.trans (b1.mono (by omega))
  obtain ⟨av, cv, rfl, _, _⟩ := o1.rd.sl
  have hfb := fun j => frozen_of_row w1 w.heap.size j _ _ hA1
  obtain ⟨x0, x1, x2, x3, x4⟩ := cells5 CP1
  have e0 := heap_setCell_same w1 w.heap.size 0 _ _ (.bool ch) hA1
  have e1 := heap_setCell_same _ w.heap.size 1 _ _ (.slice ah heads.length kh) e0
  have e2 := heap_setCell_same _ w.heap.size 2 _ _ (.bool false) e1
  have e3 := heap_setCell_same _ w.heap.size 3 _ _ (.int .i64 0) e2
  have e4 := heap_setCell_same _ w.heap.size 4 _ _ (.slice av ys.length cv) e3
  have hch := put_chg w.heap.size [.bool ch, .slice ah heads.length kh, .bool false, .int .i64 0, .slice av ys.length cv] w1 0
  have o1b := o1.keep (w' := put w1 w.heap.size 0 [.bool ch, .slice ah heads.length kh, .bool false, .int .i64 0, .slice av ys.length cv]) fun g _ hB _ => hch.block g (by simp; omega)
  have twb := t1.trans (hch.below (lo := w.heap.size) fun g hg => by simp at hg; omega)
  have hZb := (hch.block (w.heap.size + 1) (by simp)).trans hZ1
  have hzb : (put w1 w.heap.size 0 [.bool ch, .slice ah heads.length kh, .bool false, .int .i64 0, .slice av ys.length cv]).heap.size = w1.heap.size := hch.size
  obtain ⟨wb, hwb⟩ : ∃ wb, wb = put w1 w.heap.size 0 [.bool ch, .slice ah heads.length kh, .bool false, .int .i64 0, .slice av ys.length cv] := ⟨_, rfl⟩
  have hAb : wb.heap[w.heap.size]? = some (.cells #[.bool ch, .slice ah heads.length kh, .bool false, .int .i64 0, .slice av ys.length cv] 48 (0, 0)) := by rw [hwb]; exact e4
  rw [← hwb] at o1b twb hZb hzb
  have HWB : Hid (wb = ((((w1.setCell ⟨w.heap.size, 0, none⟩ (.bool ch)).setCell ⟨w.heap.size, 1, none⟩ (.slice ah heads.length kh)).setCell ⟨w.heap.size, 2, none⟩ (.bool false)).setCell ⟨w.heap.size, 3, none⟩ (.int .i64 0)).setCell ⟨w.heap.size, 4, none⟩ (.slice av ys.length cv)) := hwb
  have CB : Cells wb w.heap.size 0 [.bool ch, .slice ah heads.length kh, .bool false, .int .i64 0, .slice av ys.length cv] := fun j v hv => by
    rw [Nat.zero_add, cell_of_row wb w.heap.size j _ _ _ hAb]; simpa using hv
  clear e0 e1 e2 e3 e4 hch hwb hA1 hZ1 o1 t1 CP CP1 hbA hb0 t0 b1 hs0
  have y4 := CB.c4
  rw [HWB.out] at y4
  go_wp2
  clear x0 x1 x2 x3 x4 y4 hfb
  go_loopw [4, 5, 7, 16] (fun a r _ i wr => ∃ k : Nat, k ≤ ys.length ∧ i = .int .i64 k ∧ a = .int .u16 (maskOf (posL (ys.take k)) : Int) ∧ r = .int .u16 (maskOf (negL (ys.take k)) : Int) ∧ Below wb.heap.size wb wr) (fun _ _ _ i _ => ys.length - (intOf i).toNat)
  case atStart => exact ⟨0, Nat.zero_le _, rfl, rfl, rfl, by rw [HWB.out]; exact Below.refl _ _⟩
  case round =>
    obtain ⟨k, hk, rfl, rfl, rfl, hb⟩ := hrel
    have hlA := maskOf_lt (posL (ys.take k))
    have hlR := maskOf_lt (negL (ys.take k))
    by_cases hlt : k < ys.length
    · rcases o1b.form with ⟨hv, hn⟩ | ⟨g, c, hv, _, _, _, _, _⟩
      · rw [hn] at hlt; simp at hlt
      · obtain ⟨rfl, _, rfl⟩ : av = some ⟨g, 0, none⟩ ∧ ys.length = ys.length ∧ cv = c := by simpa using hv
        obtain ⟨d0, d1⟩ := o1b.cell hlt
        have u0 := cell_kept hb d0
        have u1 := cell_kept hb d1
        have hr := HRng.out _ (nth_mem hlt)
        obtain ⟨hr1, hr2⟩ := hr
        have hbA := hb.alloc hb.size (.cells #[.int .i64 (nth ys k).1, .int .i64 (nth ys k).2] 84)
        have hkn : (0 : Int) ≤ (k : Int) := by omega
        have hkl : (k : Int) < (ys.length : Int) := by omega
        clear d0 d1 hv o1b hb
        by_cases hp : 0 < (nth ys k).1
        · have hA := Lib.hid (askM_yes hlt hp)
          have hR := Lib.hid (refM_yes hlt hp)
          have hfx : Fits (nth ys k).1 := by unfold Fits; omega
          have hbl := bitN_lt (nth ys k).1
          go_wp2_with (first | (go_at_call 101; refine (atomBit_calls _ _ hfx).mono ?_; rintro e w' ⟨rfl, rfl⟩) | (go_at_call 100; refine (orM_calls _ _ _ hlA hbl).mono ?_; rintro e w' ⟨rfl, rfl⟩))
          go_roundw
          case rel => exact ⟨k + 1, by omega, by go_num, by rw [hA.out], by rw [hR.out], hbA⟩
          case measure => simp [intOf]; omega
        · have hA := Lib.hid (askM_no hlt hp)
          have hR := Lib.hid (refM_no hlt hp)
          have hfx : Fits (-(nth ys k).1) := by unfold Fits; omega
          have hbl := bitN_lt (-(nth ys k).1)
          have hwr : IntKind.i64.wrap (-(nth ys k).1) = -(nth ys k).1 := IntWalk.i64_in _ (by omega)
          have hp' : decide (0 < (nth ys k).1) = false := decide_eq_false hp
          clear hp
          go_wp2_with (first | (go_at_call 101; refine (atomBit_calls _ _ hfx).mono ?_; rintro e w' ⟨rfl, rfl⟩) | (go_at_call 100; refine (orM_calls _ _ _ hlR hbl).mono ?_; rintro e w' ⟨rfl, rfl⟩))
          go_roundw
          case rel => exact ⟨k + 1, by omega, by go_num, by rw [hA.out], by rw [hR.out], hbA⟩
          case measure => simp [intOf]; omega
    · obtain rfl : k = ys.length := by omega
      rw [List.take_length] at hlA hlR ⊢
      obtain ⟨mA, hmAe⟩ : ∃ m, m = maskOf (posL ys) := ⟨_, rfl⟩
      obtain ⟨mR, hmRe⟩ : ∃ m, m = maskOf (negL ys) := ⟨_, rfl⟩
      obtain ⟨mH, hmHe⟩ : ∃ m, m = maskOf heads := ⟨_, rfl⟩
      have hRS2 := hRS ys
      have hmX := SetLess_lt heads (posL ys)
      have hmH := maskOf_lt heads
      rw [← hmAe, ← hmRe, ← hmHe] at hGO
      rw [← hmAe, ← hmHe] at hRS2 hmX
      rw [← hmAe] at hlA ⊢
      rw [← hmRe] at hlR ⊢
      rw [← hmHe] at hmH
      have HMH := Lib.hid hmHe
      have HGO := Lib.hid hGO
      have HRS := Lib.hid hRS2
      clear hRS hRS2 hmAe hmRe hmHe hGO
      have hmA := hlA
      have hmR := hlR
      have htw := twb.trans (hb.mono (by have := twb.size; omega))
      have HTW := Lib.hid htw
      have hIr := hI.later htw
      have hlr : w.heap.size < wr.heap.size := by have := hb.size; omega
      have hlr2 : w.heap.size + 1 < wr.heap.size := by have := hb.size; omega
      have hbx := (hb.block w.heap.size (by omega)).trans hAb
      have hbxB := (hb.block (w.heap.size + 1) (by omega)).trans hZb
      have o1r := o1b.later hb
      have y1 := (CB.later hb).c1
      have CZ : Cells wr (w.heap.size + 1) 0 [.bool false, .slice none 0 0, .bool false, .int .i64 0, .slice none 0 0] := fun j v hv => by
        rw [Nat.zero_add, cell_of_row wr (w.heap.size + 1) j _ _ _ hbxB]; simpa using hv
      obtain ⟨z0, z1, z2, z3, z4⟩ := cells5 CZ
      have hfz := fun j => frozen_of_row wr (w.heap.size + 1) j _ _ hbxB
      clear CZ CB hAb hZb hb hI htw twb o1b hlA hlR
      cases hX : ((((mA &&& mR : Nat) : Int)) != 0)
      case false =>
        cases hY : (((mH : Int)) != 0)
        case false =>
          have hT : tidyU ch heads body = some ⟨ch, restH heads ys, false, 0, ys⟩ := by
            have := tidyU_yes (ch := ch) (heads := heads) (body := body) (by rw [← HOS.out, ← HGO.out]; simp only [hX, hY, Bool.false_or, Bool.false_and])
            rw [← HOS.out] at this; exact this
          have HTB : Hid ((tidyU ch heads body).isSome = true) := by show _ = _; rw [hT]; rfl
          have HTR : Hid ((tidyU ch heads body).getD default = ⟨ch, restH heads ys, false, 0, ys⟩) := by show _ = _; rw [hT]; rfl
          have hLS := list_calls (mH &&& (65535 - mA)) wr hmX
          rw [HRS.out] at hLS
          clear hT z0 z1 z2 z3 z4
          go_wp2_with (first | (go_at_call 103; refine (meetM_calls _ _ _ hmA hmR).mono ?_; rintro e w' ⟨rfl, rfl⟩) | (go_at_call 104; refine (inM_calls _ _ _ hmH hmA).mono ?_; rintro e w' ⟨rfl, rfl⟩) | (go_at_call 105; refine (lessM_calls _ _ _ hmH hmA).mono ?_; rintro e w' ⟨rfl, rfl⟩) | (go_at_call 102; refine (atomsIn_calls _ _ _ _ hIr).mono ?_; rintro e w' ⟨he, rfl⟩; rw [← HMH.out] at he; subst he))
          refine hLS.mono ?_
          rintro e w5 ⟨v5, rfl, o5, b5⟩
          clear hLS
          have tw5 := HTW.out.step b5
          have hbx5 := (b5.block w.heap.size hlr).trans hbx
          have hbz5 := (b5.block (w.heap.size + 1) (by omega)).trans hbxB
          have o15 := o1r.later b5
          have hs5 := b5.size
          have CB5 : Cells w5 w.heap.size 0 [.bool ch, .slice ah heads.length kh, .bool false, .int .i64 0, .slice av ys.length cv] := fun j v hv => by
            rw [Nat.zero_add, cell_of_row w5 w.heap.size j _ _ _ hbx5]; simpa using hv
          have CZ5 : Cells w5 (w.heap.size + 1) 0 [.bool false, .slice none 0 0, .bool false, .int .i64 0, .slice none 0 0] := fun j v hv => by
            rw [Nat.zero_add, cell_of_row w5 (w.heap.size + 1) j _ _ _ hbz5]; simpa using hv
          obtain ⟨x0, x1, x2, x3, x4⟩ := cells5 CB5
          obtain ⟨z0, z1, z2, z3, z4⟩ := cells5 CZ5
          have hfb5 := fun j => frozen_of_row w5 w.heap.size j _ _ hbx5
          have hfz5 := fun j => frozen_of_row w5 (w.heap.size + 1) j _ _ hbz5
          have HF : ∀ (u : Value) (cs' : List Value), Own w.heap.size (put (w5.setCell ⟨w.heap.size, 1, none⟩ u) (w.heap.size + 1) 0 cs') [.bool ch, v5, .bool false, .int .i64 0, .slice av ys.length cv] (⟨ch, restH heads ys, false, 0, ys⟩ : RuleD) := fun u cs' => by
            obtain ⟨fpo, hO, hl⟩ := own_rule3 (x := (⟨ch, restH heads ys, false, 0, ys⟩ : RuleD)) (OwnI.own o5).shut (o1r.ownIn.later b5) (.inr (Nat.le_refl _)) (by show Fits 0; unfold Fits; omega)
            have hl : ∀ g ∈ fpo, (wr.heap.size ≤ g ∧ g < w5.heap.size) ∨ (w.heap.size + 4 ≤ g ∧ g < wr.heap.size) := hl
            exact ⟨fpo, Ow.kept hO fun g hg => ((put_chg (w.heap.size + 1) cs' (w5.setCell ⟨w.heap.size, 1, none⟩ u) 0).block g (by have := hl g hg; simp; omega)).trans (Below.heap_setCell _ _ _ _ (by have := hl g hg; show g ≠ w.heap.size; omega)), fun g hg => by have := hl g hg; omega⟩
          have HF := Lib.hid HF
          have HT5 := Lib.hid tw5
          obtain ⟨a5, k5, rfl, _, _⟩ := (OwnI.own o5).rd.sl
          clear CB5 CZ5 hbx5 hbz5 o15 o5 b5 tw5 hbx hbxB o1r
          go_wp2
          refine bodyPost_ret (v := .tuple #[.agg #[.bool ch, .slice a5 (restH heads ys).length k5, .bool false, .int .i64 0, .slice av ys.length cv], .bool true])
            (by simp [results, Try.results60, go_sem, z0, z1, z2, z3, z4]) rfl ⟨_, by rw [HTB.out], by rw [HTR.out]; exact HF.out (.slice a5 (restH heads ys).length k5) [.bool ch, .slice a5 (restH heads ys).length k5, .bool false, .int .i64 0, .slice av ys.length cv], ?_⟩
          exact (Below.setCell HT5.out (p := ⟨w.heap.size, 1, none⟩) (Nat.le_refl _) _).trans ((put_chg (w.heap.size + 1) [.bool ch, .slice a5 (restH heads ys).length k5, .bool false, .int .i64 0, .slice av ys.length cv] _ 0).below fun g hg => by simp at hg; omega)
        case true =>
          cases hZ : ((((mH &&& (65535 - mA) : Nat) : Int)) == 0)
          case false =>
            have hT : tidyU ch heads body = some ⟨ch, restH heads ys, false, 0, ys⟩ := by
              have := tidyU_yes (ch := ch) (heads := heads) (body := body) (by rw [← HOS.out, ← HGO.out]; simp only [hX, hY, hZ, Bool.false_or, Bool.true_and])
              rw [← HOS.out] at this; exact this
            have HTB : Hid ((tidyU ch heads body).isSome = true) := by show _ = _; rw [hT]; rfl
            have HTR : Hid ((tidyU ch heads body).getD default = ⟨ch, restH heads ys, false, 0, ys⟩) := by show _ = _; rw [hT]; rfl
            have hLS := list_calls (mH &&& (65535 - mA)) wr hmX
            rw [HRS.out] at hLS
            clear hT z0 z1 z2 z3 z4
            go_wp2_with (first | (go_at_call 103; refine (meetM_calls _ _ _ hmA hmR).mono ?_; rintro e w' ⟨rfl, rfl⟩) | (go_at_call 104; refine (inM_calls _ _ _ hmH hmA).mono ?_; rintro e w' ⟨rfl, rfl⟩) | (go_at_call 105; refine (lessM_calls _ _ _ hmH hmA).mono ?_; rintro e w' ⟨rfl, rfl⟩) | (go_at_call 102; refine (atomsIn_calls _ _ _ _ hIr).mono ?_; rintro e w' ⟨he, rfl⟩; rw [← HMH.out] at he; subst he))
            refine hLS.mono ?_
            rintro e w5 ⟨v5, rfl, o5, b5⟩
            clear hLS
            have tw5 := HTW.out.step b5
            have hbx5 := (b5.block w.heap.size hlr).trans hbx
            have hbz5 := (b5.block (w.heap.size + 1) (by omega)).trans hbxB
            have o15 := o1r.later b5
            have hs5 := b5.size
            have CB5 : Cells w5 w.heap.size 0 [.bool ch, .slice ah heads.length kh, .bool false, .int .i64 0, .slice av ys.length cv] := fun j v hv => by
              rw [Nat.zero_add, cell_of_row w5 w.heap.size j _ _ _ hbx5]; simpa using hv
            have CZ5 : Cells w5 (w.heap.size + 1) 0 [.bool false, .slice none 0 0, .bool false, .int .i64 0, .slice none 0 0] := fun j v hv => by
              rw [Nat.zero_add, cell_of_row w5 (w.heap.size + 1) j _ _ _ hbz5]; simpa using hv
            obtain ⟨x0, x1, x2, x3, x4⟩ := cells5 CB5
            obtain ⟨z0, z1, z2, z3, z4⟩ := cells5 CZ5
            have hfb5 := fun j => frozen_of_row w5 w.heap.size j _ _ hbx5
            have hfz5 := fun j => frozen_of_row w5 (w.heap.size + 1) j _ _ hbz5
            have HF : ∀ (u : Value) (cs' : List Value), Own w.heap.size (put (w5.setCell ⟨w.heap.size, 1, none⟩ u) (w.heap.size + 1) 0 cs') [.bool ch, v5, .bool false, .int .i64 0, .slice av ys.length cv] (⟨ch, restH heads ys, false, 0, ys⟩ : RuleD) := fun u cs' => by
              obtain ⟨fpo, hO, hl⟩ := own_rule3 (x := (⟨ch, restH heads ys, false, 0, ys⟩ : RuleD)) (OwnI.own o5).shut (o1r.ownIn.later b5) (.inr (Nat.le_refl _)) (by show Fits 0; unfold Fits; omega)
              have hl : ∀ g ∈ fpo, (wr.heap.size ≤ g ∧ g < w5.heap.size) ∨ (w.heap.size + 4 ≤ g ∧ g < wr.heap.size) := hl
              exact ⟨fpo, Ow.kept hO fun g hg => ((put_chg (w.heap.size + 1) cs' (w5.setCell ⟨w.heap.size, 1, none⟩ u) 0).block g (by have := hl g hg; simp; omega)).trans (Below.heap_setCell _ _ _ _ (by have := hl g hg; show g ≠ w.heap.size; omega)), fun g hg => by have := hl g hg; omega⟩
            have HF := Lib.hid HF
            have HT5 := Lib.hid tw5
            obtain ⟨a5, k5, rfl, _, _⟩ := (OwnI.own o5).rd.sl
            clear CB5 CZ5 hbx5 hbz5 o15 o5 b5 tw5 hbx hbxB o1r
            go_wp2
            refine bodyPost_ret (v := .tuple #[.agg #[.bool ch, .slice a5 (restH heads ys).length k5, .bool false, .int .i64 0, .slice av ys.length cv], .bool true])
              (by simp [results, Try.results60, go_sem, z0, z1, z2, z3, z4]) rfl ⟨_, by rw [HTB.out], by rw [HTR.out]; exact HF.out (.slice a5 (restH heads ys).length k5) [.bool ch, .slice a5 (restH heads ys).length k5, .bool false, .int .i64 0, .slice av ys.length cv], ?_⟩
            exact (Below.setCell HT5.out (p := ⟨w.heap.size, 1, none⟩) (Nat.le_refl _) _).trans ((put_chg (w.heap.size + 1) [.bool ch, .slice a5 (restH heads ys).length k5, .bool false, .int .i64 0, .slice av ys.length cv] _ 0).below fun g hg => by simp at hg; omega)
          case true =>
            have hT : tidyU ch heads body = none := tidyU_no (by rw [← HOS.out, ← HGO.out]; simp only [hX, hY, hZ, Bool.false_or, Bool.true_and])
            have HTB : Hid ((tidyU ch heads body).isSome = false) := by show _ = _; rw [hT]; rfl
            have HTR : Hid ((tidyU ch heads body).getD default = default) := by show _ = _; rw [hT]; rfl
            clear hT hbx hbxB o1r
            go_wp2_with (first | (go_at_call 103; refine (meetM_calls _ _ _ hmA hmR).mono ?_; rintro e w' ⟨rfl, rfl⟩) | (go_at_call 104; refine (inM_calls _ _ _ hmH hmA).mono ?_; rintro e w' ⟨rfl, rfl⟩) | (go_at_call 105; refine (lessM_calls _ _ _ hmH hmA).mono ?_; rintro e w' ⟨rfl, rfl⟩) | (go_at_call 102; refine (atomsIn_calls _ _ _ _ hIr).mono ?_; rintro e w' ⟨he, rfl⟩; rw [← HMH.out] at he; subst he))
            refine bodyPost_ret (v := .tuple #[.agg #[.bool false, .slice none 0 0, .bool false, .int .i64 0, .slice none 0 0], .bool false])
              (by simp [results, Try.results60, go_sem, z0, z1, z2, z3, z4]) rfl ⟨_, by rw [HTB.out], by rw [HTR.out]; exact own_zeroR _ _, by
              repeat (refine Below.setCell ?_ (by simp; try omega) _)
              exact HTW.out⟩
      case true =>
        have hT : tidyU ch heads body = none := tidyU_no (by rw [← HOS.out, ← HGO.out]; simp only [hX, Bool.true_or])
        have HTB : Hid ((tidyU ch heads body).isSome = false) := by show _ = _; rw [hT]; rfl
        have HTR : Hid ((tidyU ch heads body).getD default = default) := by show _ = _; rw [hT]; rfl
        clear hT hbx hbxB o1r
        go_wp2_with (first | (go_at_call 103; refine (meetM_calls _ _ _ hmA hmR).mono ?_; rintro e w' ⟨rfl, rfl⟩) | (go_at_call 104; refine (inM_calls _ _ _ hmH hmA).mono ?_; rintro e w' ⟨rfl, rfl⟩) | (go_at_call 105; refine (lessM_calls _ _ _ hmH hmA).mono ?_; rintro e w' ⟨rfl, rfl⟩) | (go_at_call 102; refine (atomsIn_calls _ _ _ _ hIr).mono ?_; rintro e w' ⟨he, rfl⟩; rw [← HMH.out] at he; subst he))
        refine bodyPost_ret (v := .tuple #[.agg #[.bool false, .slice none 0 0, .bool false, .int .i64 0, .slice none 0 0], .bool false])
          (by simp [results, Try.results60, go_sem, z0, z1, z2, z3, z4]) rfl ⟨_, by rw [HTB.out], by rw [HTR.out]; exact own_zeroR _ _, by
          repeat (refine Below.setCell ?_ (by simp; try omega) _)
          exact HTW.out⟩

end Go.Proofs.Ytgckeaijbmcdcaa
