/-
  Against: what spec answers. No condition of its own.
-/
import Derived.Test.YtiemlklngmifdaaGreatSupS
import Derived.Test.YtiemlklngmifdaaGreatBrkS
import Derived.Test.YtiemlklngmifdaaGreatWhyD
import Derived.BigQuiet
import Derived.Deep.QuietTactic
namespace Go.Proofs.YtiemlklngmifdaaGreat
set_option linter.unusedVariables false
set_option linter.unusedSimpArgs false
open Go.RowKit
set_option maxRecDepth 100000


theorem own_take1 {B : Nat} {w : World} {a : Option Addr} {c : Nat} {xs : List Int} (h : Own B w [.slice a xs.length c] xs) (hl : 0 < xs.length) : Own B w [.slice a 1 c] [el xs 0] := by
  obtain ⟨fp, ⟨a', cap, he, h1, h2, h3⟩, hfp⟩ := h
  simp only [List.cons.injEq, Value.slice.injEq, and_true, true_and] at he
  obtain ⟨rfl, rfl⟩ := he
  rcases h3 with ⟨hn, _⟩ | ⟨g, e, cur, fps, rfl, hh, hs, hf, rfl, hnd, hc⟩
  · rw [hn] at hl; simp at hl
  · obtain ⟨ecs, hC, hO⟩ := hc 0 hl
    have hO' : Ow.O w ecs (el xs 0) [] := by
      have := Fl.ospec.1 hO
      exact Fl.ospec.2 ⟨this.1, rfl⟩
    refine ⟨[g], ⟨some ⟨g, 0, none⟩, c, rfl, by simp; omega, h2, .inr ⟨g, e, cur, [[]], rfl, hh, hs, rfl, by simp, by simp, fun i hi => ?_⟩⟩, fun b hb => hfp b (by simp at hb; subst hb; simp)⟩
    have : i = 0 := by simp at hi; omega
    subst this
    exact ⟨ecs, hC, hO'⟩
set_option maxHeartbeats 4000000 in
theorem specAgainst_calls {cs : List Value} {p : ProgD} {w : World} {v : Value} {xs : List Int} (h : Rd.R w cs p) (gx : RdL w [v] xs) :
    Calls Tryz.prog 32 #[.agg cs.toArray, v] w fun e w' => ∃ u, e = .returned (.tuple #[.int .i64 (agaN p xs), u]) ∧ Own w.heap.size w' [u] (agaL p xs) ∧ Below w.heap.size w w' := by
  obtain ⟨p0, p1, p2, p3, p4, p5, p6, p7, rfl⟩ := list8 (Rd.len h)
  obtain ⟨ax, cx, rfl, _, hx⟩ := gx.sl
  have t0 : Below w.heap.size w (w.alloc (.cells #[p0, p1, p2, p3, p4, p5, p6, p7] 40)) := (Below.refl _ _).alloc (by simp) _
  have hxm := hx.1
  have CP := Cells.new w [p0, p1, p2, p3, p4, p5, p6, p7] 40
  cases hF : foldB p
  · obtain ⟨h1, h2⟩ := aga_A (xs := xs) (whyB_A hF)
    have H1 := Lib.hid h1
    have H2 := Lib.hid h2
    clear h1 h2
    go_enter Tryz.func32, Tryz.ntmps32
    go_wp2_with fail
    refine (specFold_calls (Rd.mono t0 h)).mono ?_
    rintro e w1 ⟨cs1, he, o1, b1⟩
    rw [hF] at he
    subst he
    have t1 := t0.step b1
    have l1 := Rd.one o1.rd
    obtain ⟨x0, x1, x2, x3, x4, x5, x6, x7, rfl⟩ := list8 (Rd.len o1.rd)
    have st0 := sto Tryz.prog (l1 x0 (by simp))
    have st1 := sto Tryz.prog (l1 x1 (by simp))
    have st2 := sto Tryz.prog (l1 x2 (by simp))
    have st3 := sto Tryz.prog (l1 x3 (by simp))
    have st4 := sto Tryz.prog (l1 x4 (by simp))
    have st5 := sto Tryz.prog (l1 x5 (by simp))
    have st6 := sto Tryz.prog (l1 x6 (by simp))
    have st7 := sto Tryz.prog (l1 x7 (by simp))
    have o1 := o1.alloc (.cells #[x0, x1, x2, x3, x4, x5, x6, x7] 40)
    have CX1 := Cells.new w1 [x0, x1, x2, x3, x4, x5, x6, x7] 40
    have t1 := t1.alloc t1.size (.cells #[x0, x1, x2, x3, x4, x5, x6, x7] 40)
    clear l1
    go_wp2
    go_ret2
    refine ⟨_, by rw [H1.out]; rfl, ?_, t1.alloc t1.size _⟩
    rw [H2.out]
    have hn := OwnI.new _ w.heap.size t1.size
    rw [World.size_alloc] at hn
    exact hn.own
  · cases hS : setOkB xs (foldD p).atoms
    · obtain ⟨h1, h2⟩ := aga_A (xs := xs) ((whyB_B hF).trans hS)
      have H1 := Lib.hid h1
      have H2 := Lib.hid h2
      clear h1 h2
      go_enter Tryz.func32, Tryz.ntmps32
      go_wp2_with fail
      refine (specFold_calls (Rd.mono t0 h)).mono ?_
      rintro e w1 ⟨cs1, he, o1, b1⟩
      rw [hF] at he
      rw [foldR_yes hF] at o1
      subst he
      have t1 := t0.step b1
      have l1 := Rd.one o1.rd
      obtain ⟨x0, x1, x2, x3, x4, x5, x6, x7, rfl⟩ := list8 (Rd.len o1.rd)
      have st0 := sto Tryz.prog (l1 x0 (by simp))
      have st1 := sto Tryz.prog (l1 x1 (by simp))
      have st2 := sto Tryz.prog (l1 x2 (by simp))
      have st3 := sto Tryz.prog (l1 x3 (by simp))
      have st4 := sto Tryz.prog (l1 x4 (by simp))
      have st5 := sto Tryz.prog (l1 x5 (by simp))
      have st6 := sto Tryz.prog (l1 x6 (by simp))
      have st7 := sto Tryz.prog (l1 x7 (by simp))
      have o1 := o1.alloc (.cells #[x0, x1, x2, x3, x4, x5, x6, x7] 40)
      have CX1 := Cells.new w1 [x0, x1, x2, x3, x4, x5, x6, x7] 40
      have t1 := t1.alloc t1.size (.cells #[x0, x1, x2, x3, x4, x5, x6, x7] 40)
      clear l1
      obtain ⟨y0, y1, y2, y3, y4, y5, y6, y7⟩ := cells8 CX1
      have oR := o1.rd
      obtain ⟨_, _, _, _, _, _, hl, _⟩ := oR
      simp only [List.cons.injEq, and_true] at hl
      obtain ⟨rfl, -⟩ := hl
      have hx1 := (hx.later t1).ints
      go_wp2_with (go_at_call 75; refine (specSetOk_calls _ _ _ _ _ hx1).mono ?_; rintro e w' ⟨he, b2⟩; rw [hS] at he; subst he)
      go_ret2
      have t2 := t1.step b2
      refine ⟨_, by rw [H1.out]; rfl, ?_, t2.alloc t2.size _⟩
      rw [H2.out]
      exact (OwnI.new _ w.heap.size t2.size).own
    · have hW : whyB p xs = true := (whyB_B hF).trans hS
      go_enter Tryz.func32, Tryz.ntmps32
      go_wp2_with fail
      refine (specFold_calls (Rd.mono t0 h)).mono ?_
      rintro e w1 ⟨cs1, he, o1, b1⟩
      rw [hF] at he
      rw [foldR_yes hF] at o1
      subst he
      have t1 := t0.step b1
      have l1 := Rd.one o1.rd
      obtain ⟨x0, x1, x2, x3, x4, x5, x6, x7, rfl⟩ := list8 (Rd.len o1.rd)
      have st0 := sto Tryz.prog (l1 x0 (by simp))
      have st1 := sto Tryz.prog (l1 x1 (by simp))
      have st2 := sto Tryz.prog (l1 x2 (by simp))
      have st3 := sto Tryz.prog (l1 x3 (by simp))
      have st4 := sto Tryz.prog (l1 x4 (by simp))
      have st5 := sto Tryz.prog (l1 x5 (by simp))
      have st6 := sto Tryz.prog (l1 x6 (by simp))
      have st7 := sto Tryz.prog (l1 x7 (by simp))
      have o1 := o1.alloc (.cells #[x0, x1, x2, x3, x4, x5, x6, x7] 40)
      have CX1 := Cells.new w1 [x0, x1, x2, x3, x4, x5, x6, x7] 40
      have t1 := t1.alloc t1.size (.cells #[x0, x1, x2, x3, x4, x5, x6, x7] 40)
      clear l1
      obtain ⟨y0, y1, y2, y3, y4, y5, y6, y7⟩ := cells8 CX1
      have oR := o1.rd
      obtain ⟨_, _, _, _, _, _, hl, _⟩ := oR
      simp only [List.cons.injEq, and_true] at hl
      obtain ⟨rfl, -⟩ := hl
      have hx1 := (hx.later t1).ints
      have CP1 := (CP.later b1).alloc (.cells #[.int .i64 (foldD p).atoms, x1, x2, x3, x4, x5, x6, x7] 40)
      go_wp2_with (go_at_call 75; refine (specSetOk_calls _ _ _ _ _ hx1).mono ?_; rintro e w2 ⟨he, b2⟩; rw [hS] at he; subst he; have CP2 := CP1.later b2; obtain ⟨z0, z1, z2, z3, z4, z5, z6, z7⟩ := cells8 CP2)
      have t2 := t1.step b2
      refine (specBroken_calls (Rd.mono t2 h) (Rd.mono (α := List Int) t2 gx)).mono ?_
      rintro e w3 ⟨u3, rfl, ho3, b3⟩
      clear y0 y1 y2 y3 y4 y5 y6 y7 z0 z1 z2 z3 z4 z5 z6 z7
      have t3 := t2.step b3
      obtain ⟨z0, z1, z2, z3, z4, z5, z6, z7⟩ := cells8 (CP2.later b3)
      obtain ⟨a3, c3, rfl, hc3, hr3⟩ := (show RdL w3 [u3] (brkR p xs) from ho3.rd).sl
      have hbl := brkR_len p xs
      by_cases hz : (brkR p xs).length = 0
      · have hzi : ¬ (0 : Int) < ((brkR p xs).length : Int) := by omega
        have HZ := Lib.hid hz
        clear hz
        go_wp2_with fail
        refine (specUnfounded_calls (Rd.mono t3 h) (Rd.mono (α := List Int) t3 gx)).mono ?_
        rintro e w4 ⟨u4, rfl, ho4, b4⟩
        have t4 := t3.step b4
        obtain ⟨a4, c4, rfl, _, _⟩ := ho4.open
        clear z0 z1 z2 z3 z4 z5 z6 z7
        by_cases hu : (unfR p xs).length = 0
        · obtain ⟨h1, h2⟩ := aga_D hW HZ.out hu
          have H1 := Lib.hid h1
          have H2 := Lib.hid h2
          have hui : ¬ (0 : Int) < ((unfR p xs).length : Int) := by omega
          clear h1 h2 hu
          go_wp2
          go_ret2
          refine ⟨_, by rw [H1.out]; rfl, ?_, t4.alloc t4.size _⟩
          rw [H2.out]
          exact (OwnI.new _ w.heap.size t4.size).own
        · obtain ⟨h1, h2⟩ := aga_C hW HZ.out hu
          have H1 := Lib.hid h1
          have H2 := Lib.hid h2
          have hui : (0 : Int) < ((unfR p xs).length : Int) := by omega
          clear h1 h2 hu
          go_wp2
          go_ret2
          refine ⟨.slice a4 (unfR p xs).length c4, by rw [H1.out]; rfl, ?_, t4⟩
          rw [H2.out]
          exact (ho4.mono t3.size).own
      · obtain ⟨h1, h2⟩ := aga_B hW hz
        have H1 := Lib.hid h1
        have H2 := Lib.hid h2
        have hzi : (0 : Int) < ((brkR p xs).length : Int) := by omega
        have hz0 : 0 < (brkR p xs).length := by omega
        have hoT := own_take1 ho3 hz0
        have hc1 : (1 : Int) ≤ (c3 : Int) := by omega
        have hc1' : 1 ≤ c3 := by omega
        clear h1 h2 hz z0 z1 z2 z3 z4 z5 z6 z7
        go_wp2
        go_quiet (fail)
        go_wp2
        go_ret2
        refine ⟨.slice a3 1 c3, by rw [H1.out]; rfl, ?_, by first | exact t3.drew | exact below_drewN t3 _⟩
        rw [H2.out]
        have ho9 := hoT.mono t2.size
        first | exact ho9.drew | exact ho9

end Go.Proofs.YtiemlklngmifdaaGreat
