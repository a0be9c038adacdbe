/-
 Why, Reasons: what the model answers. No condition of its own.
-/
import Derived.Test.YthikhkeofcjdfaaGreatAnsU
import Derived.Test.YthikhkeofcjdfaaGreatUnfN
import Derived.Test.YthikhkeofcjdfaaGreatSupS
import Derived.BigQuiet
import Derived.Deep.QuietTactic
import Derived.Test.YthikhkeofcjdfaaGreatWhyN
import Derived.StillTailTactics
namespace Go.Proofs.YthikhkeofcjdfaaGreat
set_option linter.unusedVariables false
set_option linter.unusedSimpArgs false
open Go.RowKit Go.Shelf
set_option maxRecDepth 100000

/-! ### WhyU -/
/-! ### BrkS -/

/-! ### WhyT -/
/-! ### WhyS -/

/-! ### WhyR -/

theorem flat_grown {α : Type} [Fl α] {B : Nat} {e : TypeId} {w w' : World} {v : Value} {xs : List α} {row : Option Nat} (h : OwnF B e w v xs) (hg : w.grownBy w' row) (hne : v.ownBlock = none ∨ v.ownBlock ≠ row) : OwnF B e w' v xs := ⟨h.1.kept hg hne, h.2⟩
theorem flat_types {B1 B2 : Nat} {w : World} {v1 v2 : Value} {xs : List Int} {R : List (Int × Int)} (h1 : OwnI B1 w v1 xs) (h2 : OwnF B2 118 w v2 R) : (v1.ownBlock = none ∨ v1.ownBlock ≠ v2.ownBlock) ∧ (v2.ownBlock = none ∨ v2.ownBlock ≠ v1.ownBlock) := by
 rcases h1.1.2 with ⟨rfl, _⟩ | ⟨g, c, cur, rfl, _, hh, _⟩
 ·refine ⟨.inl rfl, ?_⟩
  rcases h2.1.2 with ⟨rfl, _⟩ | ⟨g', c', cur', rfl, _, hh', _⟩
  ·exact .inl rfl
  ·exact .inr (by simp [Value.ownBlock])
 ·rcases h2.1.2 with ⟨rfl, _⟩ | ⟨g', c', cur', rfl, _, hh', _⟩
  ·exact ⟨.inr (by simp [Value.ownBlock]), .inl rfl⟩
  ·have hne : g ≠ g' := by
    intro e
    subst e
    rw [hh] at hh'
    simp at hh'
   exact ⟨.inr (by simp only [Value.ownBlock, ne_eq, Option.some.injEq]; exact hne), .inr (by simp only [Value.ownBlock, ne_eq, Option.some.injEq]; exact fun e => hne e.symm)⟩
theorem givB_A {rs : List RuleD} {ts xs : List Int} {a : Int} {k : Nat} (h : hasB (nth rs k).heads a = false) : givB rs ts xs a k = false := by simp only [givB, h, Bool.false_and]
theorem givB_B {rs : List RuleD} {ts xs : List Int} {a : Int} {k : Nat} (h : hasB (nth rs k).heads a = true) : givB rs ts xs a k = reachB (nth rs k) (h2B ts xs) := by simp only [givB, h, Bool.true_and]
theorem rulI_none : rulI none = -1 := rfl
theorem rulI_some (k : Nat) : rulI (some k) = (k : Int) := rfl

set_option maxHeartbeats 4000000 in
theorem l12Rule_calls {cs : List Value} {p : ProgD} {w : World} {v v2 : Value} {ts xs : List Int} (a : Int) (h : Rd.R w cs p) (gt : RdL w [v] ts) (gx : RdL w [v2] xs) (hok : progOkB p = true) :
  Calls Tryz.prog 173 #[.agg cs.toArray, .int .i64 a, v, v2] w fun e w' => e = .returned (.int .i64 (rulI (rulF p.rules ts xs a))) ∧ Below w.heap.size w w' := by
 have h0 := h
 have hr12 := Lib.hid (rules12 hok)
 obtain ⟨c1, c2, c4, c5, c6, c7, rfl, hf, g1, g2, g4, g5, g6, g7⟩ := h0
 obtain ⟨a1, k1, rfl, _, h1⟩ := g1.sl
 obtain ⟨at0, ct0, rfl, _, hts⟩ := gt.sl
 obtain ⟨ax0, cx0, rfl, _, hxs⟩ := gx.sl
 have CX := Cells.new w [.int .i64 p.atoms, .slice a1 p.rules.length k1, c2, .bool p.projOn, c4, c5, c6, c7] 30
 have tb : Below w.heap.size w (w.alloc (.cells #[.int .i64 p.atoms, .slice a1 p.rules.length k1, c2, .bool p.projOn, c4, c5, c6, c7] 30)) := (Below.refl _ _).alloc (Nat.le_refl _) _
 have h1 := h1.later tb
 have hm1 := h1.1
 have gt := Rd.mono (α := List Int) tb gt
 have gx := Rd.mono (α := List Int) tb gx
 have CXH := Lib.hid CX
 have hlen := (progOk_rules hok).1
 clear g1 g2 g4 g5 g6 g7 hf h
 go_enter Tryz.func173, Tryz.ntmps173
 generalize hwa : w.alloc _ = wa at *
 go_wp2
 clear CX
 go_loopw [9] (fun i wr => ∃ k : Nat, k ≤ p.rules.length ∧ i = .int .i64 k ∧ Hid (rulTo p.rules ts xs a k = none) ∧ Below wa.heap.size wa wr) (fun i _ => p.rules.length - (intOf i).toNat)
 case atStart => exact ⟨0, Nat.zero_le _, rfl, (rfl : rulTo p.rules ts xs a 0 = none), Below.refl _ _⟩
 case round =>
  obtain ⟨k, hk, rfl, hS, hb⟩ := hrel
  obtain ⟨y0, y1, y2, y3, y4, y5, y6, y7⟩ := cells8 (CXH.out.later hb)
  by_cases hlt : k < p.rules.length
  ·have hok12 := hr12.out _ (nth_mem hlt)
   obtain ⟨b, off, rfl, hc⟩ := h1.base (by omega)
   obtain ⟨ecs, hC, hR⟩ := hc k hlt
   have hC := hC.later hb
   have hR := Rd.mono hb hR
   have hR0 := hR
   obtain ⟨d1, d4, rfl, hf', r1, r4⟩ := hR0
   obtain ⟨ah, kh, rfl, _, hh⟩ := r1.sl
   obtain ⟨ab, kb, rfl, _, _⟩ := r4.sl
   have u0 := hC.c0
   have u1 := hC.c1
   have u2 := hC.c2
   have u3 := hC.c3
   have u4 := hC.c4
   rw [show Rd.k RuleD = 5 from rfl] at u0 u1 u2 u3 u4
   clear hC hc r1 r4
   cases hH : hasB (nth p.rules k).heads a
   ·have hS' := Lib.hid (rulTo_no hS.out (givB_A hH))
    clear hS
    go_wp2_with (go_at_call 88; refine (SetHas_calls _ _ _ _ _ hh.ints).mono ?_; rintro e w' ⟨he, rfl⟩; rw [hH] at he; subst he)
    go_wp2
    go_roundw
    case rel => exact ⟨k + 1, by omega, by go_num, hS', hb⟩
    case measure => simp [intOf]; omega
   ·have hG := Lib.hid (givB_B (ts := ts) (xs := xs) hH)
    have gt1 := Rd.mono (α := List Int) hb gt
    have gx1 := Rd.mono (α := List Int) hb gx
    cases hB : reachB (nth p.rules k) (h2B ts xs)
    ·have hS' := Lib.hid (rulTo_no hS.out (hG.out.trans hB))
     clear hS hG
     go_wp2_with (first | (go_at_call 88; refine (SetHas_calls _ _ _ _ _ hh.ints).mono ?_; rintro e w' ⟨he, rfl⟩; rw [hH] at he; subst he) | (go_at_call 89; refine (l02Reaches_calls hR gt1 gx1 hok12).mono ?_; rintro e w2 ⟨he, b2⟩; rw [hB] at he; subst he))
     go_wp2
     go_roundw
     case rel => exact ⟨k + 1, by omega, by go_num, hS', hb.step b2⟩
     case measure => simp [intOf]; omega
    ·have hv2 := Lib.hid (rulF_at hlt hS.out (hG.out.trans hB))
     clear hS hG
     go_wp2_with (first | (go_at_call 88; refine (SetHas_calls _ _ _ _ _ hh.ints).mono ?_; rintro e w' ⟨he, rfl⟩; rw [hH] at he; subst he) | (go_at_call 89; refine (l02Reaches_calls hR gt1 gx1 hok12).mono ?_; rintro e w2 ⟨he, b2⟩; rw [hB] at he; subst he))
     go_ret
     exact ⟨by rw [hv2.out]; rfl, tb.step (hb.step b2)⟩
  ·have hv2 : Hid (rulF p.rules ts xs a = none) := by
    show rulTo _ _ _ _ _ = _
    have : k = p.rules.length := by omega
    rw [← this]; exact hS.out
   go_wp2
   go_ret
   exact ⟨by rw [hv2.out]; rfl, tb.step hb⟩

theorem run_append_flatA {α : Type} [Fl α] {P : Program} {w : World} {B : Nat} {t ty e : TypeId} {v : Value} {xs : List α} {q : α} {g : Nat}
  (i : TypeInfo) (z : Value) (bytes : Nat) (ht : P.underlying t = some (.slice e)) (hi : P.info? e = some i) (hz : i.zero = some z) (hsize : i.size = Rd.k α) (hby : i.bytes = bytes) (hzs : z.cells.size = Rd.k α)
  (hown : OwnF B e w v xs) (hC : Cells w g 0 (Fl.enc q)) (hq : Fl.ok q) (hl : (xs.length + 1) * bytes ≤ 140737488355328) (hl2 : xs.length + 1 ≤ 140737488355328) (hB : B ≤ w.heap.size) :
  ∃ v' w', (Builtin.append_ #[t, t] ty #[v, .slice (some ⟨g, 0, none⟩) 1 1]).run P w = .ok v' w' ∧ OwnF B e w' v' (xs ++ [q]) ∧ Below B w w' ∧ w.grownBy w' v.ownBlock ∧ (v'.ownBlock = v.ownBlock ∨ v'.ownBlock = some w.heap.size) := by
 have hoky : ∀ y ∈ [q], Fl.ok y := fun y hy => by rw [List.mem_singleton.1 hy]; exact hq
 have hflat : (xs ++ [q]).flatMap (Fl.enc (α := α)) = xs.flatMap Fl.enc ++ [q].flatMap Fl.enc := by rw [List.flatMap_append]
 have hall : ∀ z ∈ xs ++ [q], Fl.ok z := fun z hz => (List.mem_append.1 hz).elim (hown.2 z) (hoky z)
 obtain ⟨v', w', r1, r2, r3, _, r5⟩ := run_append_own_at (P := P) w B t ty e i z (Rd.k α) bytes ht hi hz hsize hby hzs Fl.pos v xs.length (xs.flatMap Fl.enc) hown.1 ⟨g, 0, none⟩ 1 1 ([q].flatMap Fl.enc) (flat_len hoky) (by
  intro j u hu
  have hu' : (Fl.enc q)[j]? = some u := by simpa using hu
  have := hC j u hu'
  unfold Addr.add
  by_cases hj : j = 0
  ·subst hj; simpa using this
  ·rw [if_neg hj]; simpa using this) (flat_one hoky) (by unfold maxLen; omega) hl hB
 exact ⟨v', w', r1, ⟨by rw [hflat, List.length_append]; exact r2, hall⟩, (Below.refl _ _).grown r3 hB fun k hk => (hown.1.lt k hk).1, r3, r5⟩

set_option maxHeartbeats 8000000 in
theorem specWhy_calls {cs : List Value} {p : ProgD} {w : World} {v : Value} {xs : List Int} (h : Rd.R w cs p) (gx : RdL w [v] xs) :
  Calls Tryz.prog 82 #[.agg cs.toArray, v] w fun e w' => ∃ u, e = .returned u ∧ OwnF w.heap.size 118 w' u (whyR p xs) ∧ Below w.heap.size w w' := by
 obtain ⟨p0, p1, p2, p3, p4, p5, p6, p7, rfl⟩ := list8 (Rd.len h)
 obtain ⟨ax, cx, rfl, _, hx⟩ := gx.sl
 have t0 : Below w.heap.size w (w.alloc (.cells #[p0, p1, p2, p3, p4, p5, p6, p7] 30)) := (Below.refl _ _).alloc (by simp) _
 have hxm := hx.1
 have hf0 := Lib.hid (rd_ints gx)
 obtain ⟨i0, hi, hz0, hz1, hz2⟩ := info_parts info_rs
 cases hF : foldB p
 ·have hv := Lib.hid (whyR_no (whyB_A (xs := xs) hF))
  have t0 := t0.alloc t0.size (.cells #[] 118)
  have o00 := OwnF.new (α := Int × Int) (B := w.heap.size + 1) (e := 118) (w.alloc (.cells #[p0, p1, p2, p3, p4, p5, p6, p7] 30)) (by simp)
  rw [World.size_alloc] at o00
  go_enter Tryz.func82, Tryz.ntmps82
  go_wp2_with fail
  refine (specFold_calls (Rd.mono t0 h)).mono ?_
  rintro e w1 ⟨cs1, he, o1, b1⟩
  rw [hF] at he
  subst he
  have t1 := t0.step b1
  have l1 := Rd.one o1.rd
  obtain ⟨x0, x1, x2, x3, x4, x5, x6, x7, rfl⟩ := list8 (Rd.len o1.rd)
  have st0 := sto Tryz.prog (l1 x0 (by simp))
  have st1 := sto Tryz.prog (l1 x1 (by simp))
  have st2 := sto Tryz.prog (l1 x2 (by simp))
  have st3 := sto Tryz.prog (l1 x3 (by simp))
  have st4 := sto Tryz.prog (l1 x4 (by simp))
  have st5 := sto Tryz.prog (l1 x5 (by simp))
  have st6 := sto Tryz.prog (l1 x6 (by simp))
  have st7 := sto Tryz.prog (l1 x7 (by simp))
  have o1 := o1.alloc (.cells #[x0, x1, x2, x3, x4, x5, x6, x7] 30)
  have CX1 := Cells.new w1 [x0, x1, x2, x3, x4, x5, x6, x7] 30
  have t1 := t1.alloc t1.size (.cells #[x0, x1, x2, x3, x4, x5, x6, x7] 30)
  clear l1
  go_wp2
  go_ret
  exact ⟨_, rfl, by rw [hv.out]; exact flat_mono (flat_keep o00 fun g _ hg => ((b1.alloc b1.size _).block g hg)) (by omega), t1⟩
 ·cases hS : setOkB xs (foldD p).atoms
  ·have hv := Lib.hid (whyR_no ((whyB_B hF).trans hS))
   have t0 := t0.alloc t0.size (.cells #[] 118)
   have o00 := OwnF.new (α := Int × Int) (B := w.heap.size + 1) (e := 118) (w.alloc (.cells #[p0, p1, p2, p3, p4, p5, p6, p7] 30)) (by simp)
   rw [World.size_alloc] at o00
   go_enter Tryz.func82, Tryz.ntmps82
   go_wp2_with fail
   refine (specFold_calls (Rd.mono t0 h)).mono ?_
   rintro e w1 ⟨cs1, he, o1, b1⟩
   rw [hF] at he
   rw [foldR_yes hF] at o1
   subst he
   have t1 := t0.step b1
   have l1 := Rd.one o1.rd
   obtain ⟨x0, x1, x2, x3, x4, x5, x6, x7, rfl⟩ := list8 (Rd.len o1.rd)
   have st0 := sto Tryz.prog (l1 x0 (by simp))
   have st1 := sto Tryz.prog (l1 x1 (by simp))
   have st2 := sto Tryz.prog (l1 x2 (by simp))
   have st3 := sto Tryz.prog (l1 x3 (by simp))
   have st4 := sto Tryz.prog (l1 x4 (by simp))
   have st5 := sto Tryz.prog (l1 x5 (by simp))
   have st6 := sto Tryz.prog (l1 x6 (by simp))
   have st7 := sto Tryz.prog (l1 x7 (by simp))
   have o1 := o1.alloc (.cells #[x0, x1, x2, x3, x4, x5, x6, x7] 30)
   have CX1 := Cells.new w1 [x0, x1, x2, x3, x4, x5, x6, x7] 30
   have t1 := t1.alloc t1.size (.cells #[x0, x1, x2, x3, x4, x5, x6, x7] 30)
   clear l1
   obtain ⟨y0, y1, y2, y3, y4, y5, y6, y7⟩ := cells8 CX1
   have oR := o1.rd
   obtain ⟨_, _, _, _, _, _, hl, _⟩ := oR
   simp only [List.cons.injEq, and_true] at hl
   obtain ⟨rfl, -⟩ := hl
   have hx1 := (hx.later t1).ints
   go_wp2_with (go_at_call 65; refine (specSetOk_calls _ _ _ _ _ hx1).mono ?_; rintro e w2 ⟨he, b2⟩; rw [hS] at he; subst he)
   go_ret
   exact ⟨_, rfl, by rw [hv.out]; exact flat_mono (flat_keep o00 fun g _ hg => (((b1.alloc b1.size _).step b2).block g hg)) (by omega), t1.step b2⟩
  ·have hW : whyB p xs = true := (whyB_B hF).trans hS
   have hv := Lib.hid (whyR_yes hW)
   have hP := whyB_isP hW
   have hok : progOkB (foldD p) = true := foldR_ok hF
   have hlen := (progOk_rules hok).1
   have hxl := hP.le
   have hp12 := Lib.hid hP
   have t0 := t0.alloc t0.size (.cells #[] 118)
   have o00 := OwnF.new (α := Int × Int) (B := w.heap.size + 1) (e := 118) (w.alloc (.cells #[p0, p1, p2, p3, p4, p5, p6, p7] 30)) (by simp)
   rw [World.size_alloc] at o00
   go_enter Tryz.func82, Tryz.ntmps82
   go_wp2_with fail
   refine (specFold_calls (Rd.mono t0 h)).mono ?_
   rintro e w1 ⟨cs1, he, o1, b1⟩
   rw [hF] at he
   rw [foldR_yes hF] at o1
   subst he
   have t1 := t0.step b1
   have l1 := Rd.one o1.rd
   obtain ⟨x0, x1, x2, x3, x4, x5, x6, x7, rfl⟩ := list8 (Rd.len o1.rd)
   have st0 := sto Tryz.prog (l1 x0 (by simp))
   have st1 := sto Tryz.prog (l1 x1 (by simp))
   have st2 := sto Tryz.prog (l1 x2 (by simp))
   have st3 := sto Tryz.prog (l1 x3 (by simp))
   have st4 := sto Tryz.prog (l1 x4 (by simp))
   have st5 := sto Tryz.prog (l1 x5 (by simp))
   have st6 := sto Tryz.prog (l1 x6 (by simp))
   have st7 := sto Tryz.prog (l1 x7 (by simp))
   have o1 := o1.alloc (.cells #[x0, x1, x2, x3, x4, x5, x6, x7] 30)
   have CX1 := Cells.new w1 [x0, x1, x2, x3, x4, x5, x6, x7] 30
   have t1 := t1.alloc t1.size (.cells #[x0, x1, x2, x3, x4, x5, x6, x7] 30)
   clear l1
   obtain ⟨y0, y1, y2, y3, y4, y5, y6, y7⟩ := cells8 CX1
   have oR := o1.rd
   obtain ⟨_, _, _, _, _, _, hl, _⟩ := oR
   simp only [List.cons.injEq, and_true] at hl
   obtain ⟨rfl, -⟩ := hl
   have hx1 := (hx.later t1).ints
   go_wp2_with fail
   refine (specSetOk_calls _ _ _ _ _ hx1).mono ?_
   rintro e w2 ⟨he, b2⟩
   rw [hS] at he
   subst he
   have t2 := t1.step b2
   have b12 := (b1.alloc b1.size (.cells #[.int .i64 (foldD p).atoms, x1, x2, x3, x4, x5, x6, x7] 30)).step b2
   have hO2 := flat_keep o00 (w' := w2) (fun g _ hg => b12.block g hg)
   have hz1' := b1.size
   have hz2' := b2.size
   rw [World.size_alloc, World.size_alloc] at hz1'
   rw [World.size_alloc] at hz2'
   have OLT : Hid (∀ (fp : List Nat), Ow.O (w1.alloc (.cells #[.int .i64 (foldD p).atoms, x1, x2, x3, x4, x5, x6, x7] 30)) [.int .i64 (foldD p).atoms, x1, x2, x3, x4, x5, x6, x7] (foldD p) fp → ∀ g ∈ fp, g < w1.heap.size + 1) := fun fp h g hg => by have := Ow.lt h g hg; rw [World.size_alloc] at this; exact this
   have CX2 := (CX1.later b2).alloc (.cells #[] 3)
   have o2 : ∃ fp, Ow.O (w2.alloc (.cells #[] 3)) [.int .i64 (foldD p).atoms, x1, x2, x3, x4, x5, x6, x7] (foldD p) fp ∧ ∀ g ∈ fp, w.heap.size + 2 ≤ g ∧ g < w1.heap.size + 1 := by
    obtain ⟨fp, hq, hl⟩ := o1
    refine ⟨fp, Ow.kept hq fun g hg => ?_, fun g hg => ⟨by have := hl g hg; simp at this; omega, OLT.out fp hq g hg⟩⟩
    have := OLT.out fp hq g hg
    rw [Below.heap_alloc _ _ _ (by omega)]
    exact b2.block g (by rw [World.size_alloc]; omega)
   obtain ⟨wz, hwz⟩ : ∃ wz, wz = w2.alloc (.cells #[] 3) := ⟨_, rfl⟩
   have hzz : wz.heap.size = w2.heap.size + 1 := by rw [hwz, World.size_alloc]
   have hT := OwnI.new w2 w2.heap.size (Nat.le_refl _)
   have hOz := flat_keep hO2 (w' := wz) (fun g _ hg => by rw [hwz]; exact Below.heap_alloc _ _ _ hg)
   have tz := t2.alloc t2.size (.cells #[] 3)
   rw [← hwz] at CX2 o2 hT tz
   have CXH := Lib.hid CX2
   have OH := Lib.hid o2
   clear y0 y1 y2 y3 y4 y5 y6 y7 CX1 CX2 o1 o2 hS hW hP hO2 o00
   go_wp2
   rw [← hwz]
   clear hwz st0 st1 st2 st3 st4 st5 st6 st7
   go_loopw [5, 8] (fun ov tv wr => ∃ k : Nat, Hid ((whyK (foldD p).rules xs k).length = k) ∧ OwnF (w.heap.size + 1) 118 wr ov (whyK (foldD p).rules xs k) ∧ Hid (∀ g, ov.ownBlock = some g → g = w.heap.size + 1 ∨ wz.heap.size ≤ g) ∧ OwnI w2.heap.size wr tv (fsts (whyK (foldD p).rules xs k)) ∧ Below w.heap.size w wr ∧ Hid (∀ g, g < wz.heap.size → g ≠ w.heap.size + 1 → g ≠ w2.heap.size → wr.heap[g]? = wz.heap[g]?) ∧ wz.heap.size ≤ wr.heap.size) (fun ov _ _ => xs.length - lenS ov)
   case atStart => exact ⟨0, rfl, hOz, fun g hg => .inl (by simp [Value.ownBlock] at hg; exact hg.symm), hT, tz, fun _ _ _ _ => rfl, Nat.le_refl _⟩
   case round =>
    obtain ⟨k, hkl, ho, hoD, ht, hb, HK, hsz⟩ := hrel
    obtain ⟨wo, rfl⟩ : ∃ wo, wo = wr := ⟨_, rfl⟩
    clear hOz hT tz
    have hX := Lib.hid (Cells.kept CXH.out (HK.out w1.heap.size (by omega) (by omega) (by omega)))
    have hQ : Hid (Rd.R wo [.int .i64 (foldD p).atoms, x1, x2, x3, x4, x5, x6, x7] (foldD p)) := by
     obtain ⟨fp, hq, hl⟩ := OH.out
     exact Ow.rd (Ow.kept hq fun g hg => HK.out g (Ow.lt hq g hg) (by have := hl g hg; omega) (by have := hl g hg; omega))
    obtain ⟨R, hR⟩ : ∃ R, R = whyK (foldD p).rules xs k := ⟨_, rfl⟩
    obtain ⟨ts, hts⟩ : ∃ ts, ts = fsts R := ⟨_, rfl⟩
    have hRl := whyK_le (rs := (foldD p).rules) (xs := xs) k
    rw [← hR] at hRl hkl ho ht
    rw [← hts] at ht
    have HE := Lib.hid hR
    have HT := Lib.hid hts
    have hD := Lib.hid hoD
    obtain ⟨av, kv, rfl, _⟩ := flat_sl ho
    obtain ⟨at1, kt1, rfl, hIt, _⟩ := ht.open
    have hgt : RdL wo [.slice at1 ts.length kt1] ts := ht.own.rd
    clear hR hts hoD
    go_wp2
    go_loopw [5, 8, 9, 10] (fun ov tv fv iv wr =>
      (∃ j : Nat, j ≤ xs.length ∧ iv = .int .i64 j ∧ fv = .bool false ∧ ov = .slice av R.length kv ∧ tv = .slice at1 ts.length kt1 ∧ Hid (nxTo (foldD p).rules ts xs j = none) ∧ Below wo.heap.size wo wr)
     ∨ (∃ j : Nat, j ≤ xs.length ∧ iv = .int .i64 j ∧ fv = .bool true ∧ Hid ((whyK (foldD p).rules xs (k + 1)).length = k + 1) ∧ Hid (k < xs.length) ∧ OwnF (w.heap.size + 1) 118 wr ov (whyK (foldD p).rules xs (k + 1)) ∧ Hid (∀ g, ov.ownBlock = some g → g = w.heap.size + 1 ∨ wz.heap.size ≤ g) ∧ OwnI w2.heap.size wr tv (fsts (whyK (foldD p).rules xs (k + 1))) ∧ Below w.heap.size w wr ∧ Hid (∀ g, g < wz.heap.size → g ≠ w.heap.size + 1 → g ≠ w2.heap.size → wr.heap[g]? = wz.heap[g]?) ∧ wz.heap.size ≤ wr.heap.size))
     (fun _ _ _ iv _ => xs.length - (intOf iv).toNat)
    case atStart => exact .inl ⟨0, Nat.zero_le _, rfl, rfl, rfl, rfl, (rfl : nxTo (foldD p).rules ts xs 0 = none), Below.refl _ _⟩
    case round =>
     rcases hrel with ⟨j, hj, rfl, rfl, rfl, rfl, hN, hbq⟩ | ⟨j, hj, rfl, rfl, hk1, hk2, ho1, hD1, ht1, hb1, HK1, hs1⟩
     ·by_cases hlt : j < xs.length
      ·have tq := hb.step hbq
       obtain ⟨y0, y1, y2, y3, y4, y5, y6, y7⟩ := cells8 (hX.out.later hbq)
       have hxq := (hx.later tq).ints
       obtain ⟨b, off, rfl, hc⟩ := hxq.at (by omega)
       have hcj := hc j hlt
       have hFj := hf0.out _ (el_mem hlt)
       have hQq := Rd.mono hbq hQ.out
       have hgq := Rd.mono (α := List Int) hbq hgt
       have gxq := Rd.mono (α := List Int) tq gx
       have hltI : (j : Int) < (xs.length : Int) := by omega
       have HC := fun (W : World) (hw : Below wr.heap.size wr W) => Lib.hid (l12Rule_calls (el xs j) (Rd.mono hw hQq) (Rd.mono (α := List Int) hw hgq) (Rd.mono (α := List Int) hw gxq) hok)
       cases hH : hasB ts (el xs j)
       ·cases hU : rulF (foldD p).rules ts xs (el xs j)
        ·have hN' := Lib.hid (nxTo_no hlt hN.out hU)
         clear hN
         rw [hU, rulI_none] at HC
         go_wp2
         go_still_tail 7, (by kernel_rfl)
         go_wp2_with fail
         refine (HC _ (by first | exact (Below.refl _ _).drew | exact below_drewN (Below.refl _ _) _)).out.mono ?_
         rintro e w5 ⟨rfl, b5⟩
         have b5 := (show Below wr.heap.size wr _ by first | exact (Below.refl _ _).drew | exact below_drewN (Below.refl _ _) _).step b5
         have hc5 := cell_kept b5 hcj
         have hI5 := hIt.later (hbq.step b5)
         go_wp2_with (go_at_call 88; refine (SetHas_calls _ _ _ _ _ hI5).mono ?_; rintro e w' ⟨he, rfl⟩; rw [hH] at he; subst he)
         go_roundw
         case rel => exact .inl ⟨j + 1, by omega, by go_num, rfl, rfl, rfl, hN', hbq.step b5⟩
         case measure => simp [intOf]; omega
        ·rename_i i
         have hnx : nxt (foldD p).rules (fsts (whyK (foldD p).rules xs k)) xs = some (el xs j, (i : Int)) := by
          rw [← HE.out, ← HT.out]
          exact nxTo_yes hlt hN.out hH hU
         obtain ⟨hgl, hkx⟩ := whyK_go (by rw [← HE.out]; exact hkl.out) hnx
         obtain ⟨hm1, _, hm3, hm4, _⟩ := nxt_mem hnx
         have hK1 := Lib.hid (whyK_some hnx)
         have HGL := Lib.hid hgl
         have HKX := Lib.hid hkx
         have hiN : i < (foldD p).rules.length := by rw [Int.toNat_natCast] at hm4; exact hm4
         have hFi : Fits (i : Int) := ⟨by omega, by omega⟩
         have hi0 : (0 : Int) ≤ (i : Int) := by omega
         have hRl2 : R.length ≤ 12 := by omega
         have htl : ts.length ≤ 12 := by rw [HT.out, fsts_len]; exact hRl2
         clear hN hnx hgl hkx hm1 hm4 hm3
         rw [hU, rulI_some] at HC
         go_wp2
         go_still_tail 7, (by kernel_rfl)
         go_wp2_with fail
         refine (HC _ (by first | exact (Below.refl _ _).drew | exact below_drewN (Below.refl _ _) _)).out.mono ?_
         rintro e w5 ⟨rfl, b5⟩
         have b5 := (show Below wr.heap.size wr _ by first | exact (Below.refl _ _).drew | exact below_drewN (Below.refl _ _) _).step b5
         have hc5 := cell_kept b5 hcj
         have hI5 := hIt.later (hbq.step b5)
         have CY := Cells.new w5 [.int .i64 (el xs j), .int .i64 (i : Int)] 118
         have bA := b5.alloc b5.size (.cells #[.int .i64 (el xs j), .int .i64 (i : Int)] 118)
         have bW := hbq.step bA
         have hoA := flat_keep ho (fun g _ hg => bW.block g hg)
         have htA := ht.kept bW
         have hzA := bW.size
         obtain ⟨v8, w8, r8, ho8, hb8, hg8, hD8⟩ := run_append_flatA (α := Int × Int) (P := Tryz.prog) (q := (el xs j, (i : Int))) (t := 47) (ty := 47) i0 (.agg #[.int .i64 0, .int .i64 0]) 16 Tryz.underlying47 hi hz0 hz1 hz2 rfl hoA CY ⟨hFj, hFi⟩ (by omega) (by omega) (by omega)
         have hty := flat_types htA hoA
         have ht8 := htA.grown hg8 hty.1
         have hty8 := flat_types ht8 ho8
         have t8 : Below w.heap.size w w8 := (hb.step bW).trans (hb8.mono (by omega))
         have hx8 := (hx.later t8).ints
         have hc8 : w8.cell? ⟨b, off + j, none⟩ = some (.int .i64 (el xs j)) := by
          obtain ⟨b', off', he, hc'⟩ := hx8.at (by omega)
          cases he
          exact hc' j hlt
         have hs8 := hb8.size
         obtain ⟨a8, c8, rfl, _⟩ := flat_sl ho8
         have HB : Hid (∀ g, g < wz.heap.size → g ≠ w.heap.size + 1 → g ≠ w2.heap.size → w8.heap[g]? = wz.heap[g]?) := fun g h1 h2 h3 => by
          rw [hg8.block g (by omega) (fun e => by have := hD.out g e.symm; omega), bW.block g (by omega)]
          exact HK.out g h1 h2 h3
         have HD8 : Hid (∀ g, (Value.slice a8 (R ++ [(el xs j, (i : Int))]).length c8).ownBlock = some g → g = w.heap.size + 1 ∨ wz.heap.size ≤ g) := fun g hg => by
          rcases hD8 with e | e
          ·rw [e] at hg; exact hD.out g hg
          ·rw [e] at hg; have := Option.some.inj hg; exact .inr (by omega)
         clear hD8 hX y0 y1 y2 y3 y4 y5 y6 y7 hty hoA htA CY HC
         go_wp2_with (first | (go_at_call 88; refine (SetHas_calls _ _ _ _ _ hI5).mono ?_; rintro e w' ⟨he, rfl⟩; rw [hH] at he; subst he) | (at_builtin; refine wpList_append_of rfl _ _ rfl rfl rfl r8 ?_) | (at_builtin; refine wpList_append_int rfl _ _ rfl rfl ht8 rfl (by omega) hFj (by omega) ?_; intro v9 w9 ht9 hb9 hg9))
         have ho9 := flat_grown ho8 hg9 hty8.2
         have HK9 : Hid (∀ g, g < wz.heap.size → g ≠ w.heap.size + 1 → g ≠ w2.heap.size → w9.heap[g]? = wz.heap[g]?) := fun g h1 h2 h3 => by
          rw [hg9.block g (by omega) (fun e => by have := (ht8.1.lt g e.symm).1; omega)]
          exact HB.out g h1 h2 h3
         have hF9 : fsts (whyK (foldD p).rules xs (k + 1)) = ts ++ [el xs j] := by rw [hK1.out, fsts_snoc, ← HE.out, ← HT.out]
         have hG9 : whyK (foldD p).rules xs (k + 1) = R ++ [(el xs j, (i : Int))] := by rw [hK1.out, ← HE.out]
         have HF9 := Lib.hid hF9
         have HG9 := Lib.hid hG9
         clear hF9 hG9
         go_roundw
         case rel => exact .inr ⟨j + 1, by omega, by go_num, rfl, HGL, HKX, by rw [HG9.out]; have h9 := ho9; rw [List.length_append] at h9; exact h9, by have h9 := HD8; rw [List.length_append] at h9; exact h9, by rw [HF9.out]; exact ht9, t8.trans (hb9.mono (by omega)), HK9, by have := hb9.size; omega⟩
         case measure => simp [intOf]; omega
       ·have hN' := Lib.hid (nxTo_in hlt hN.out hH)
        clear hN
        go_wp2
        go_still_tail 7, (by kernel_rfl)
        go_wp2_with fail
        refine (HC _ (by first | exact (Below.refl _ _).drew | exact below_drewN (Below.refl _ _) _)).out.mono ?_
        rintro e w5 ⟨rfl, b5⟩
        have b5 := (show Below wr.heap.size wr _ by first | exact (Below.refl _ _).drew | exact below_drewN (Below.refl _ _) _).step b5
        have hc5 := cell_kept b5 hcj
        have hI5 := hIt.later (hbq.step b5)
        go_wp2_with (go_at_call 88; refine (SetHas_calls _ _ _ _ _ hI5).mono ?_; rintro e w' ⟨he, rfl⟩; rw [hH] at he; subst he)
        go_roundw
        case rel => exact .inl ⟨j + 1, by omega, by go_num, rfl, rfl, rfl, hN', hbq.step b5⟩
        case measure => simp [intOf]; omega
      ·have hE : Hid (whyF (foldD p).rules xs = R) := by
        show _ = _
        have h1 := hN.out
        rw [nxTo_all (by omega), HT.out, HE.out] at h1
        rw [HE.out]
        exact whyF_end (by rw [← HE.out]; exact hkl.out) h1
       have hjN : ¬ (j : Int) < (xs.length : Int) := by omega
       clear hN
       go_wp2
       go_ret
       exact ⟨_, rfl, by rw [hv.out, hE.out]; exact flat_mono (flat_keep ho fun g _ hg => hbq.block g hg) (by omega), hb.step hbq⟩
     ·obtain ⟨a9, c9, rfl, _⟩ := flat_sl ho1
      have hm : Hid (xs.length - (whyK (foldD p).rules xs (k + 1)).length < xs.length - R.length) := by
       have e1 := hk1.out
       have e2 := hkl.out
       have e3 := hk2.out
       show _ < _
       omega
      by_cases hlt : j < xs.length
      ·have hltI : (j : Int) < (xs.length : Int) := by omega
       go_wp2
       go_roundw
       case rel => exact ⟨k + 1, hk1, ho1, hD1, ht1, hb1, HK1, hs1⟩
       case measure => exact hm.out
      ·have hltI : ¬ (j : Int) < (xs.length : Int) := by omega
       go_wp2
       go_roundw
       case rel => exact ⟨k + 1, hk1, ho1, hD1, ht1, hb1, HK1, hs1⟩
       case measure => exact hm.out

/-! ### WhyQ -/

theorem alw_1 {rs : List RuleD} {ts xs : List Int} {A I : Int} (h : hasB ts A = true) : alwB rs ts xs (A, I) = false := alwB_A (by simp [h])
theorem alw_2 {rs : List RuleD} {ts xs : List Int} {A I : Int} (h : hasB xs A = false) : alwB rs ts xs (A, I) = false := alwB_A (by simp [h])
theorem alw_4 {rs : List RuleD} {ts xs : List Int} {A : Int} {n : Nat} (h1 : hasB ts A = false) (h2 : hasB xs A = true) (h3 : btwB (n : Int) 0 ((rs.length : Int) - 1) = true) : alwB rs ts xs (A, (n : Int)) = (hasB (nth rs n).heads A && reachB (nth rs n) (h2B ts xs)) := by
 rw [alwB_C (by simp [h1, h2]) h3, Int.toNat_natCast]; rfl


set_option maxHeartbeats 8000000 in
theorem specReasons_calls {cs : List Value} {p : ProgD} {w : World} {v v2 : Value} {xs : List Int} {l : List (Int × Int)} (h : Rd.R w cs p) (gx : RdL w [v] xs) (gl : RdL w [v2] l) :
  Calls Tryz.prog 23 #[.agg cs.toArray, v, v2] w fun e w' => e = .returned (.bool (reaB p xs l)) ∧ Below w.heap.size w w' := by
 obtain ⟨p0, p1, p2, p3, p4, p5, p6, p7, rfl⟩ := list8 (Rd.len h)
 obtain ⟨ax, cx, rfl, _, hx⟩ := gx.sl
 have t0 : Below w.heap.size w (w.alloc (.cells #[p0, p1, p2, p3, p4, p5, p6, p7] 30)) := (Below.refl _ _).alloc (by simp) _
 have hxm := hx.1
 obtain ⟨al, cl, rfl, _, hll⟩ := gl.sl
 have hlm := hll.1
 cases hF : foldB p
 ·have hv := Lib.hid (reaB_A (l := l) (whyB_A (xs := xs) hF))
  go_enter Tryz.func23, Tryz.ntmps23
  go_wp2_with fail
  refine (specFold_calls (Rd.mono t0 h)).mono ?_
  rintro e w1 ⟨cs1, he, o1, b1⟩
  rw [hF] at he
  subst he
  have t1 := t0.step b1
  have l1 := Rd.one o1.rd
  obtain ⟨x0, x1, x2, x3, x4, x5, x6, x7, rfl⟩ := list8 (Rd.len o1.rd)
  have st0 := sto Tryz.prog (l1 x0 (by simp))
  have st1 := sto Tryz.prog (l1 x1 (by simp))
  have st2 := sto Tryz.prog (l1 x2 (by simp))
  have st3 := sto Tryz.prog (l1 x3 (by simp))
  have st4 := sto Tryz.prog (l1 x4 (by simp))
  have st5 := sto Tryz.prog (l1 x5 (by simp))
  have st6 := sto Tryz.prog (l1 x6 (by simp))
  have st7 := sto Tryz.prog (l1 x7 (by simp))
  have o1 := o1.alloc (.cells #[x0, x1, x2, x3, x4, x5, x6, x7] 30)
  have CX1 := Cells.new w1 [x0, x1, x2, x3, x4, x5, x6, x7] 30
  have t1 := t1.alloc t1.size (.cells #[x0, x1, x2, x3, x4, x5, x6, x7] 30)
  clear l1
  go_wp2
  go_ret
  exact ⟨ret_bool hv.out.symm, t1⟩
 ·cases hS : setOkB xs (foldD p).atoms
  ·have hv := Lib.hid (reaB_A (l := l) ((whyB_B hF).trans hS))
   go_enter Tryz.func23, Tryz.ntmps23
   go_wp2_with fail
   refine (specFold_calls (Rd.mono t0 h)).mono ?_
   rintro e w1 ⟨cs1, he, o1, b1⟩
   rw [hF] at he
   rw [foldR_yes hF] at o1
   subst he
   have t1 := t0.step b1
   have l1 := Rd.one o1.rd
   obtain ⟨x0, x1, x2, x3, x4, x5, x6, x7, rfl⟩ := list8 (Rd.len o1.rd)
   have st0 := sto Tryz.prog (l1 x0 (by simp))
   have st1 := sto Tryz.prog (l1 x1 (by simp))
   have st2 := sto Tryz.prog (l1 x2 (by simp))
   have st3 := sto Tryz.prog (l1 x3 (by simp))
   have st4 := sto Tryz.prog (l1 x4 (by simp))
   have st5 := sto Tryz.prog (l1 x5 (by simp))
   have st6 := sto Tryz.prog (l1 x6 (by simp))
   have st7 := sto Tryz.prog (l1 x7 (by simp))
   have o1 := o1.alloc (.cells #[x0, x1, x2, x3, x4, x5, x6, x7] 30)
   have CX1 := Cells.new w1 [x0, x1, x2, x3, x4, x5, x6, x7] 30
   have t1 := t1.alloc t1.size (.cells #[x0, x1, x2, x3, x4, x5, x6, x7] 30)
   clear l1
   have oR := o1.rd
   obtain ⟨_, _, _, _, _, _, hl, _, g1, _⟩ := oR
   simp only [List.cons.injEq, and_true] at hl
   obtain ⟨rfl, rfl, -⟩ := hl
   obtain ⟨a1, k1, rfl, _, h1⟩ := g1.sl
   obtain ⟨y0, y1, y2, y3, y4, y5, y6, y7⟩ := cells8 CX1
   have hx1 := (hx.later t1).ints
   go_wp2_with fail
   refine (specSetOk_calls _ _ _ _ _ hx1).mono ?_
   rintro e w2 ⟨he, b2⟩
   rw [hS] at he
   subst he
   have t2 := t1.step b2
   go_wp2
   go_ret
   exact ⟨ret_bool hv.out.symm, t2⟩
  ·have hW : whyB p xs = true := (whyB_B hF).trans hS
   by_cases hle : l.length = xs.length
   ·have hv : Hid (reaB p xs l = alwTo (foldD p).rules xs l l.length) := by
     show _ = _
     rw [reaB_B hW]; unfold reaQ; rw [decide_eq_true hle, Bool.true_and]
    have hbn : ((l.length : Int) != (xs.length : Int)) = false := by simp [hle]
    have hok : progOkB (foldD p) = true := foldR_ok hF
    have hr12 := Lib.hid (rules12 hok)
    have hlen := (progOk_rules hok).1
    have hxl := (whyB_isP hW).le
    have hlr : l.length ≤ 12 := by omega
    have hWW := Lib.hid hW
    have HLE := Lib.hid hle
    clear hle
    go_enter Tryz.func23, Tryz.ntmps23
    go_wp2_with fail
    refine (specFold_calls (Rd.mono t0 h)).mono ?_
    rintro e w1 ⟨cs1, he, o1, b1⟩
    rw [hF] at he
    rw [foldR_yes hF] at o1
    subst he
    have t1 := t0.step b1
    have l1 := Rd.one o1.rd
    obtain ⟨x0, x1, x2, x3, x4, x5, x6, x7, rfl⟩ := list8 (Rd.len o1.rd)
    have st0 := sto Tryz.prog (l1 x0 (by simp))
    have st1 := sto Tryz.prog (l1 x1 (by simp))
    have st2 := sto Tryz.prog (l1 x2 (by simp))
    have st3 := sto Tryz.prog (l1 x3 (by simp))
    have st4 := sto Tryz.prog (l1 x4 (by simp))
    have st5 := sto Tryz.prog (l1 x5 (by simp))
    have st6 := sto Tryz.prog (l1 x6 (by simp))
    have st7 := sto Tryz.prog (l1 x7 (by simp))
    have o1 := o1.alloc (.cells #[x0, x1, x2, x3, x4, x5, x6, x7] 30)
    have CX1 := Cells.new w1 [x0, x1, x2, x3, x4, x5, x6, x7] 30
    have t1 := t1.alloc t1.size (.cells #[x0, x1, x2, x3, x4, x5, x6, x7] 30)
    clear l1
    have oR := o1.rd
    obtain ⟨_, _, _, _, _, _, hl, _, g1, _⟩ := oR
    simp only [List.cons.injEq, and_true] at hl
    obtain ⟨rfl, rfl, -⟩ := hl
    obtain ⟨a1, k1, rfl, _, h1⟩ := g1.sl
    obtain ⟨y0, y1, y2, y3, y4, y5, y6, y7⟩ := cells8 CX1
    have hx1 := (hx.later t1).ints
    go_wp2_with fail
    refine (specSetOk_calls _ _ _ _ _ hx1).mono ?_
    rintro e w2 ⟨he, b2⟩
    rw [hS] at he
    subst he
    have t2 := t1.step b2
    have CX2 := (CX1.later b2).alloc (.cells #[] 3)
    have hT := OwnI.new w2 w2.heap.size (Nat.le_refl _)
    have tz := t2.alloc t2.size (.cells #[] 3)
    have bz := (Below.refl w2.heap.size w2).alloc (Nat.le_refl _) (.cells #[] 3)
    have h1 := h1.later b2
    have hm1 := h1.1
    have hz2' := b2.size
    have hz0' := t2.size
    rw [World.size_alloc] at hz2'
    obtain ⟨wz, hwz⟩ : ∃ wz, wz = w2.alloc (.cells #[] 3) := ⟨_, rfl⟩
    have hzz : wz.heap.size = w2.heap.size + 1 := by rw [hwz, World.size_alloc]
    rw [← hwz] at CX2 hT tz bz
    have HBZ := Lib.hid bz
    have CXH := Lib.hid CX2
    clear y0 y1 y2 y3 y4 y5 y6 y7 CX1 CX2 o1 hS hW bz g1
    go_wp2
    rw [← hwz]
    clear hwz st0 st1 st2 st3 st4 st5 st6 st7 hbn
    go_loopw [9, 10] (fun tv iv wr => ∃ k : Nat, k ≤ l.length ∧ iv = .int .i64 k ∧ OwnI w2.heap.size wr tv (fsts (l.take k)) ∧ Hid (alwTo (foldD p).rules xs l k = true) ∧ Below w2.heap.size wz wr) (fun _ iv _ => l.length - (intOf iv).toNat)
    case atStart => exact ⟨0, Nat.zero_le _, rfl, hT, (rfl : alwTo (foldD p).rules xs l 0 = true), Below.refl _ _⟩
    case round =>
     obtain ⟨k, hk, rfl, ht, hA, hb⟩ := hrel
     have hsz := hb.size
     have tw : Below w.heap.size w wr := tz.trans (hb.mono (by omega))
     obtain ⟨ts, hts⟩ : ∃ ts, ts = fsts (l.take k) := ⟨_, rfl⟩
     rw [← hts] at ht
     have htl : ts.length ≤ 12 := by rw [hts, fsts_len, List.length_take]; omega
     have HT := Lib.hid hts
     clear hts hT
     obtain ⟨at1, kt1, rfl, hIt, _⟩ := ht.open
     have hgt : RdL wr [.slice at1 ts.length kt1] ts := ht.own.rd
     by_cases hlt : k < l.length
     ·have hgl := hll.later tw
      obtain ⟨bl, ol, rfl, hcl⟩ := hgl.base (by omega)
      obtain ⟨els, hCl, hRl⟩ := hcl k hlt
      obtain ⟨A, I, hAI⟩ : ∃ A I, nth l k = (A, I) := ⟨_, _, rfl⟩
      rw [hAI] at hRl
      obtain ⟨rfl, fA, fI⟩ := hRl
      have l0 := hCl.c0
      have l1 := hCl.c1
      rw [show Rd.k (Int × Int) = 2 from rfl] at l0 l1
      clear hCl hcl
      have bA := (Below.refl wr.heap.size wr).alloc (Nat.le_refl _) (.cells #[.int .i64 A, .int .i64 I] 118)
      have CR := Cells.new wr [.int .i64 A, .int .i64 I] 118
      have htA := ht.kept bA
      have hIA := hIt.later bA
      have hxA := ((hx.later tw).later bA).ints
      have CPk : Cells wr w1.heap.size 0 [.int .i64 (foldD p).atoms, .slice a1 (foldD p).rules.length k1, x2, x3, x4, x5, x6, x7] := Cells.kept CXH.out (hb.block w1.heap.size (by omega))
      have CPA := CPk.later bA
      obtain ⟨y0, y1, y2, y3, y4, y5, y6, y7⟩ := cells8 CPA
      obtain ⟨z0, z1⟩ := cells2 CR
      have H1 := fun (W : World) (hw : Ints W at1 ts) => Lib.hid (SetHas_calls at1 ts kt1 A W hw)
      have H2 := fun (W : World) (hw : Ints W ax xs) => Lib.hid (SetHas_calls ax xs cx A W hw)
      have H3 := fun (W : World) => Lib.hid (between_calls I 0 (((foldD p).rules.length : Int) - 1) W)
      have hsub : IntKind.i64.wrap (((foldD p).rules.length : Int) - 1) = ((foldD p).rules.length : Int) - 1 := IntWalk.i64_in _ (by omega)
      have hI0 := hIt.later bA
      have hlA : wr.heap.size < (wr.alloc (.cells #[.int .i64 A, .int .i64 I] 118)).heap.size := by simp
      clear y0 y2 y3 y4 y5 y6 y7 CPk hgt hll hgl htA hIA
      cases hh1 : hasB ts A
      ·cases hh2 : hasB xs A
       ·have hv2 : Hid (reaB p xs l = false) := by show _ = _; rw [reaB_B hWW.out]; exact reaQ_no hlt (by rw [hAI, ← HT.out]; exact alw_2 hh2)
        rw [hh1] at H1
        rw [hh2] at H2
        go_wp2
        generalize wr.alloc (.cells #[.int .i64 A, _] 118) = wA at *
        refine wp_region_held_drew (S := (fun w' => w'.cell? ⟨wr.heap.size, 0, none⟩ = some (.int .i64 A) ∧ w'.cell? ⟨wr.heap.size, 1, none⟩ = some (.int .i64 I) ∧ w'.cell? ⟨w1.heap.size, 1, none⟩ = some (.slice a1 (foldD p).rules.length k1))) (by kernel_rfl) ⟨z0, z1, y1⟩ (fun hHeld => ?_)
        refine tkY 0 (.slice at1 ts.length kt1) 44 rfl rfl (fun w' hw' => ?_) hHeld ?_
        ·first | (go_simp; done) | (obtain ⟨s0, s1, s2⟩ := hw'; go_simp; done)
        try simp only [Act.put, put1, put2, put3]
        refine tkY 1 (.pointer (some ⟨wr.heap.size, 0, none⟩)) 45 rfl rfl (fun w' hw' => ?_) hHeld ?_
        ·first | (go_simp; done) | (obtain ⟨s0, s1, s2⟩ := hw'; go_simp; done)
        try simp only [Act.put, put1, put2, put3]
        refine tkY 2 (.int .i64 A) 46 rfl rfl (fun w' hw' => ?_) hHeld ?_
        ·first | (go_simp; done) | (obtain ⟨s0, s1, s2⟩ := hw'; go_simp; done)
        try simp only [Act.put, put1, put2, put3]
        refine wpAnyH_ready (rs := [3]) (by kernel_rfl) (by simp) ?_
        refine AllReadyH.cons rfl (fun K hK => ?_) AllReadyH.nil
        go_simp
        refine ((H1 _ (hIt.later bA.drew)).out).mono ?_
        rintro e w' ⟨rfl, rfl⟩
        refine hK.out _ _ ⟨z0, z1, y1⟩ (fun hHeld => ?_)
        clear hK K
        try simp only [Act.put, put1, put2, put3]
        refine tkY 4 (.bool false) 48 rfl rfl (fun w' hw' => ?_) hHeld ?_
        ·first | (go_simp; done) | (obtain ⟨s0, s1, s2⟩ := hw'; go_simp; done)
        try simp only [Act.put, put1, put2, put3]
        refine tkY 5 (.slice ax xs.length cx) 49 rfl rfl (fun w' hw' => ?_) hHeld ?_
        ·first | (go_simp; done) | (obtain ⟨s0, s1, s2⟩ := hw'; go_simp; done)
        try simp only [Act.put, put1, put2, put3]
        refine tkY 6 (.pointer (some ⟨wr.heap.size, 0, none⟩)) 50 rfl rfl (fun w' hw' => ?_) hHeld ?_
        ·first | (go_simp; done) | (obtain ⟨s0, s1, s2⟩ := hw'; go_simp; done)
        try simp only [Act.put, put1, put2, put3]
        refine tkY 7 (.int .i64 A) 51 rfl rfl (fun w' hw' => ?_) hHeld ?_
        ·first | (go_simp; done) | (obtain ⟨s0, s1, s2⟩ := hw'; go_simp; done)
        try simp only [Act.put, put1, put2, put3]
        refine wpAnyH_ready (rs := [8]) (by kernel_rfl) (by simp) ?_
        refine AllReadyH.cons rfl (fun K hK => ?_) AllReadyH.nil
        go_simp
        refine ((H2 _ ((hx.later tw).later bA.drew).ints).out).mono ?_
        rintro e w' ⟨rfl, rfl⟩
        refine hK.out _ _ ⟨z0, z1, y1⟩ (fun hHeld => ?_)
        clear hK K
        try simp only [Act.put, put1, put2, put3]
        refine tkY 9 (.bool true) 53 rfl rfl (fun w' hw' => ?_) hHeld ?_
        ·first | (go_simp; done) | (obtain ⟨s0, s1, s2⟩ := hw'; go_simp; done)
        try simp only [Act.put, put1, put2, put3]
        refine tkY 10 (.bool true) 54 rfl rfl (fun w' hw' => ?_) hHeld ?_
        ·first | (go_simp; done) | (obtain ⟨s0, s1, s2⟩ := hw'; go_simp; done)
        try simp only [Act.put, put1, put2, put3]
        refine tkY 11 (.bool true) 55 rfl rfl (fun w' hw' => ?_) hHeld ?_
        ·first | (go_simp; done) | (obtain ⟨s0, s1, s2⟩ := hw'; go_simp; done)
        try simp only [Act.put, put1, put2, put3]
        refine tkN 12 56 rfl rfl hHeld ?_
        try simp only [Act.put, put1, put2, put3]
        refine tkN 13 57 rfl rfl hHeld ?_
        try simp only [Act.put, put1, put2, put3]
        refine tkN 14 58 rfl rfl hHeld ?_
        try simp only [Act.put, put1, put2, put3]
        refine tkN 15 59 rfl rfl hHeld ?_
        try simp only [Act.put, put1, put2, put3]
        refine tkN 16 60 rfl rfl hHeld ?_
        try simp only [Act.put, put1, put2, put3]
        refine tkN 17 61 rfl rfl hHeld ?_
        try simp only [Act.put, put1, put2, put3]
        refine tkN 18 62 rfl rfl hHeld ?_
        try simp only [Act.put, put1, put2, put3]
        refine tkN 19 63 rfl rfl hHeld ?_
        try simp only [Act.put, put1, put2, put3]
        refine tkY 20 (.bool true) 64 rfl rfl (fun w' hw' => ?_) hHeld ?_
        ·first | (go_simp; done) | (obtain ⟨s0, s1, s2⟩ := hw'; go_simp; done)
        try simp only [Act.put, put1, put2, put3]
        refine tkY 21 (.bool true) 65 rfl rfl (fun w' hw' => ?_) hHeld ?_
        ·first | (go_simp; done) | (obtain ⟨s0, s1, s2⟩ := hw'; go_simp; done)
        try simp only [Act.put, put1, put2, put3]
        refine tkN 22 66 rfl rfl hHeld ?_
        try simp only [Act.put, put1, put2, put3]
        refine tkN 23 67 rfl rfl hHeld ?_
        try simp only [Act.put, put1, put2, put3]
        refine tkN 24 68 rfl rfl hHeld ?_
        try simp only [Act.put, put1, put2, put3]
        refine tkN 25 69 rfl rfl hHeld ?_
        try simp only [Act.put, put1, put2, put3]
        refine tkN 26 70 rfl rfl hHeld ?_
        try simp only [Act.put, put1, put2, put3]
        refine tkN 27 71 rfl rfl hHeld ?_
        try simp only [Act.put, put1, put2, put3]
        refine tkN 28 72 rfl rfl hHeld ?_
        try simp only [Act.put, put1, put2, put3]
        refine tkN 29 73 rfl rfl hHeld ?_
        try simp only [Act.put, put1, put2, put3]
        refine tkN 30 74 rfl rfl hHeld ?_
        try simp only [Act.put, put1, put2, put3]
        refine tkN 31 75 rfl rfl hHeld ?_
        try simp only [Act.put, put1, put2, put3]
        refine tkN 32 76 rfl rfl hHeld ?_
        try simp only [Act.put, put1, put2, put3]
        refine tkY 33 (.bool true) 77 rfl rfl (fun w' hw' => ?_) hHeld ?_
        ·first | (go_simp; done) | (obtain ⟨s0, s1, s2⟩ := hw'; go_simp; done)
        try simp only [Act.put, put1, put2, put3]
        refine tkY 34 (.bool true) 78 rfl rfl (fun w' hw' => ?_) hHeld ?_
        ·first | (go_simp; done) | (obtain ⟨s0, s1, s2⟩ := hw'; go_simp; done)
        try simp only [Act.put, put1, put2, put3]
        refine tkN 35 79 rfl rfl hHeld ?_
        try simp only [Act.put, put1, put2, put3]
        refine tkN 36 80 rfl rfl hHeld ?_
        try simp only [Act.put, put1, put2, put3]
        refine tkN 37 81 rfl rfl hHeld ?_
        try simp only [Act.put, put1, put2, put3]
        refine tkN 38 82 rfl rfl hHeld ?_
        try simp only [Act.put, put1, put2, put3]
        refine tkN 39 83 rfl rfl hHeld ?_
        try simp only [Act.put, put1, put2, put3]
        refine tkN 40 84 rfl rfl hHeld ?_
        try simp only [Act.put, put1, put2, put3]
        refine tkN 41 85 rfl rfl hHeld ?_
        try simp only [Act.put, put1, put2, put3]
        refine tkN 42 86 rfl rfl hHeld ?_
        try simp only [Act.put, put1, put2, put3]
        refine tkN 43 87 rfl rfl hHeld ?_
        try simp only [Act.put, put1, put2, put3]
        refine tkN 44 88 rfl rfl hHeld ?_
        try simp only [Act.put, put1, put2, put3]
        refine tkY 45 (.bool true) 89 rfl rfl (fun w' hw' => ?_) hHeld ?_
        ·first | (go_simp; done) | (obtain ⟨s0, s1, s2⟩ := hw'; go_simp; done)
        try simp only [Act.put, put1, put2, put3]
        refine wpAnyH_done (by kernel_rfl) ?_ _
        go_wp2
        go_ret
        exact ⟨ret_bool hv2.out.symm, (tw.step bA).drew⟩
       ·cases hh3 : btwB I 0 (((foldD p).rules.length : Int) - 1)
        ·have hv2 : Hid (reaB p xs l = false) := by show _ = _; rw [reaB_B hWW.out]; exact reaQ_no hlt (by rw [hAI, ← HT.out]; exact alwB_B hh3)
         rw [hh1] at H1
         rw [hh2] at H2
         rw [hh3] at H3
         go_wp2
         generalize wr.alloc (.cells #[.int .i64 A, _] 118) = wA at *
         refine wp_region_held_drew (S := (fun w' => w'.cell? ⟨wr.heap.size, 0, none⟩ = some (.int .i64 A) ∧ w'.cell? ⟨wr.heap.size, 1, none⟩ = some (.int .i64 I) ∧ w'.cell? ⟨w1.heap.size, 1, none⟩ = some (.slice a1 (foldD p).rules.length k1))) (by kernel_rfl) ⟨z0, z1, y1⟩ (fun hHeld => ?_)
         refine tkY 0 (.slice at1 ts.length kt1) 44 rfl rfl (fun w' hw' => ?_) hHeld ?_
         ·first | (go_simp; done) | (obtain ⟨s0, s1, s2⟩ := hw'; go_simp; done)
         try simp only [Act.put, put1, put2, put3]
         refine tkY 1 (.pointer (some ⟨wr.heap.size, 0, none⟩)) 45 rfl rfl (fun w' hw' => ?_) hHeld ?_
         ·first | (go_simp; done) | (obtain ⟨s0, s1, s2⟩ := hw'; go_simp; done)
         try simp only [Act.put, put1, put2, put3]
         refine tkY 2 (.int .i64 A) 46 rfl rfl (fun w' hw' => ?_) hHeld ?_
         ·first | (go_simp; done) | (obtain ⟨s0, s1, s2⟩ := hw'; go_simp; done)
         try simp only [Act.put, put1, put2, put3]
         refine wpAnyH_ready (rs := [3]) (by kernel_rfl) (by simp) ?_
         refine AllReadyH.cons rfl (fun K hK => ?_) AllReadyH.nil
         go_simp
         refine ((H1 _ (hIt.later bA.drew)).out).mono ?_
         rintro e w' ⟨rfl, rfl⟩
         refine hK.out _ _ ⟨z0, z1, y1⟩ (fun hHeld => ?_)
         clear hK K
         try simp only [Act.put, put1, put2, put3]
         refine tkY 4 (.bool false) 48 rfl rfl (fun w' hw' => ?_) hHeld ?_
         ·first | (go_simp; done) | (obtain ⟨s0, s1, s2⟩ := hw'; go_simp; done)
         try simp only [Act.put, put1, put2, put3]
         refine tkY 5 (.slice ax xs.length cx) 49 rfl rfl (fun w' hw' => ?_) hHeld ?_
         ·first | (go_simp; done) | (obtain ⟨s0, s1, s2⟩ := hw'; go_simp; done)
         try simp only [Act.put, put1, put2, put3]
         refine tkY 6 (.pointer (some ⟨wr.heap.size, 0, none⟩)) 50 rfl rfl (fun w' hw' => ?_) hHeld ?_
         ·first | (go_simp; done) | (obtain ⟨s0, s1, s2⟩ := hw'; go_simp; done)
         try simp only [Act.put, put1, put2, put3]
         refine tkY 7 (.int .i64 A) 51 rfl rfl (fun w' hw' => ?_) hHeld ?_
         ·first | (go_simp; done) | (obtain ⟨s0, s1, s2⟩ := hw'; go_simp; done)
         try simp only [Act.put, put1, put2, put3]
         refine wpAnyH_ready (rs := [8]) (by kernel_rfl) (by simp) ?_
         refine AllReadyH.cons rfl (fun K hK => ?_) AllReadyH.nil
         go_simp
         refine ((H2 _ ((hx.later tw).later bA.drew).ints).out).mono ?_
         rintro e w' ⟨rfl, rfl⟩
         refine hK.out _ _ ⟨z0, z1, y1⟩ (fun hHeld => ?_)
         clear hK K
         try simp only [Act.put, put1, put2, put3]
         refine tkY 9 (.bool false) 53 rfl rfl (fun w' hw' => ?_) hHeld ?_
         ·first | (go_simp; done) | (obtain ⟨s0, s1, s2⟩ := hw'; go_simp; done)
         try simp only [Act.put, put1, put2, put3]
         refine tkY 10 (.bool false) 54 rfl rfl (fun w' hw' => ?_) hHeld ?_
         ·first | (go_simp; done) | (obtain ⟨s0, s1, s2⟩ := hw'; go_simp; done)
         try simp only [Act.put, put1, put2, put3]
         refine tkY 11 (.bool false) 55 rfl rfl (fun w' hw' => ?_) hHeld ?_
         ·first | (go_simp; done) | (obtain ⟨s0, s1, s2⟩ := hw'; go_simp; done)
         try simp only [Act.put, put1, put2, put3]
         refine tkY 12 (.pointer (some ⟨wr.heap.size, 1, none⟩)) 56 rfl rfl (fun w' hw' => ?_) hHeld ?_
         ·first | (go_simp; done) | (obtain ⟨s0, s1, s2⟩ := hw'; go_simp; done)
         try simp only [Act.put, put1, put2, put3]
         refine tkY 13 (.int .i64 I) 57 rfl rfl (fun w' hw' => ?_) hHeld ?_
         ·first | (go_simp; done) | (obtain ⟨s0, s1, s2⟩ := hw'; go_simp; done)
         try simp only [Act.put, put1, put2, put3]
         refine tkY 14 (.pointer (some ⟨w1.heap.size, 1, none⟩)) 58 rfl rfl (fun w' hw' => ?_) hHeld ?_
         ·first | (go_simp; done) | (obtain ⟨s0, s1, s2⟩ := hw'; go_simp; done)
         try simp only [Act.put, put1, put2, put3]
         refine tkY 15 (.slice a1 (foldD p).rules.length k1) 59 rfl rfl (fun w' hw' => ?_) hHeld ?_
         ·first | (go_simp; done) | (obtain ⟨s0, s1, s2⟩ := hw'; go_simp; done)
         try simp only [Act.put, put1, put2, put3]
         refine tkY 16 (.int .i64 ((foldD p).rules.length : Int)) 60 rfl rfl (fun w' hw' => ?_) hHeld ?_
         ·first | (go_simp; done) | (obtain ⟨s0, s1, s2⟩ := hw'; go_simp; done)
         try simp only [Act.put, put1, put2, put3]
         refine tkY 17 (.int .i64 (((foldD p).rules.length : Int) - 1)) 61 rfl rfl (fun w' hw' => ?_) hHeld ?_
         ·first | (go_simp; done) | (obtain ⟨s0, s1, s2⟩ := hw'; go_simp; done)
         try simp only [Act.put, put1, put2, put3]
         refine wpAnyH_ready (rs := [18]) (by kernel_rfl) (by simp) ?_
         refine AllReadyH.cons rfl (fun K hK => ?_) AllReadyH.nil
         go_simp
         refine ((H3 _).out).mono ?_
         rintro e w' ⟨rfl, rfl⟩
         refine hK.out _ _ ⟨z0, z1, y1⟩ (fun hHeld => ?_)
         clear hK K
         try simp only [Act.put, put1, put2, put3]
         refine tkY 19 (.bool true) 63 rfl rfl (fun w' hw' => ?_) hHeld ?_
         ·first | (go_simp; done) | (obtain ⟨s0, s1, s2⟩ := hw'; go_simp; done)
         try simp only [Act.put, put1, put2, put3]
         refine tkY 20 (.bool true) 64 rfl rfl (fun w' hw' => ?_) hHeld ?_
         ·first | (go_simp; done) | (obtain ⟨s0, s1, s2⟩ := hw'; go_simp; done)
         try simp only [Act.put, put1, put2, put3]
         refine tkY 21 (.bool true) 65 rfl rfl (fun w' hw' => ?_) hHeld ?_
         ·first | (go_simp; done) | (obtain ⟨s0, s1, s2⟩ := hw'; go_simp; done)
         try simp only [Act.put, put1, put2, put3]
         refine tkN 22 66 rfl rfl hHeld ?_
         try simp only [Act.put, put1, put2, put3]
         refine tkN 23 67 rfl rfl hHeld ?_
         try simp only [Act.put, put1, put2, put3]
         refine tkN 24 68 rfl rfl hHeld ?_
         try simp only [Act.put, put1, put2, put3]
         refine tkN 25 69 rfl rfl hHeld ?_
         try simp only [Act.put, put1, put2, put3]
         refine tkN 26 70 rfl rfl hHeld ?_
         try simp only [Act.put, put1, put2, put3]
         refine tkN 27 71 rfl rfl hHeld ?_
         try simp only [Act.put, put1, put2, put3]
         refine tkN 28 72 rfl rfl hHeld ?_
         try simp only [Act.put, put1, put2, put3]
         refine tkN 29 73 rfl rfl hHeld ?_
         try simp only [Act.put, put1, put2, put3]
         refine tkN 30 74 rfl rfl hHeld ?_
         try simp only [Act.put, put1, put2, put3]
         refine tkN 31 75 rfl rfl hHeld ?_
         try simp only [Act.put, put1, put2, put3]
         refine tkN 32 76 rfl rfl hHeld ?_
         try simp only [Act.put, put1, put2, put3]
         refine tkY 33 (.bool true) 77 rfl rfl (fun w' hw' => ?_) hHeld ?_
         ·first | (go_simp; done) | (obtain ⟨s0, s1, s2⟩ := hw'; go_simp; done)
         try simp only [Act.put, put1, put2, put3]
         refine tkY 34 (.bool true) 78 rfl rfl (fun w' hw' => ?_) hHeld ?_
         ·first | (go_simp; done) | (obtain ⟨s0, s1, s2⟩ := hw'; go_simp; done)
         try simp only [Act.put, put1, put2, put3]
         refine tkN 35 79 rfl rfl hHeld ?_
         try simp only [Act.put, put1, put2, put3]
         refine tkN 36 80 rfl rfl hHeld ?_
         try simp only [Act.put, put1, put2, put3]
         refine tkN 37 81 rfl rfl hHeld ?_
         try simp only [Act.put, put1, put2, put3]
         refine tkN 38 82 rfl rfl hHeld ?_
         try simp only [Act.put, put1, put2, put3]
         refine tkN 39 83 rfl rfl hHeld ?_
         try simp only [Act.put, put1, put2, put3]
         refine tkN 40 84 rfl rfl hHeld ?_
         try simp only [Act.put, put1, put2, put3]
         refine tkN 41 85 rfl rfl hHeld ?_
         try simp only [Act.put, put1, put2, put3]
         refine tkN 42 86 rfl rfl hHeld ?_
         try simp only [Act.put, put1, put2, put3]
         refine tkN 43 87 rfl rfl hHeld ?_
         try simp only [Act.put, put1, put2, put3]
         refine tkN 44 88 rfl rfl hHeld ?_
         try simp only [Act.put, put1, put2, put3]
         refine tkY 45 (.bool true) 89 rfl rfl (fun w' hw' => ?_) hHeld ?_
         ·first | (go_simp; done) | (obtain ⟨s0, s1, s2⟩ := hw'; go_simp; done)
         try simp only [Act.put, put1, put2, put3]
         refine wpAnyH_done (by kernel_rfl) ?_ _
         go_wp2
         go_ret
         exact ⟨ret_bool hv2.out.symm, (tw.step bA).drew⟩
        ·have hI2 : 0 ≤ I ∧ I ≤ ((foldD p).rules.length : Int) - 1 := of_decide_eq_true hh3
         obtain ⟨n, rfl⟩ : ∃ n : Nat, I = n := ⟨I.toNat, by omega⟩
         have hn : n < (foldD p).rules.length := by omega
         have HW4 := Lib.hid (alw_4 (ts := ts) (xs := xs) hh1 hh2 hh3)
         have hok12 := hr12.out _ (nth_mem hn)
         obtain ⟨br, ofr, rfl, hcr⟩ := (h1.later (HBZ.out.trans hb)).base (by omega)
         obtain ⟨ecs, hCr, hRr⟩ := hcr n hn
         have hCr := hCr.later bA
         have hRr := Rd.mono bA hRr
         have hRr0 := hRr
         obtain ⟨d1, d4, rfl, hf', r1, r4⟩ := hRr0
         obtain ⟨ah, kh, rfl, _, hh⟩ := r1.sl
         obtain ⟨ab, kb, rfl, _, _⟩ := r4.sl
         have u0 := hCr.c0
         have u1 := hCr.c1
         have u2 := hCr.c2
         have u3 := hCr.c3
         have u4 := hCr.c4
         rw [show Rd.k RuleD = 5 from rfl] at u0 u1 u2 u3 u4
         clear hCr hcr r1 r4
         have hnI : (n : Int) < ((foldD p).rules.length : Int) := by omega
         rw [hh1] at H1
         rw [hh2] at H2
         rw [hh3] at H3
         have H4 := fun (W : World) (hw : Ints W ah (nth (foldD p).rules n).heads) => Lib.hid (SetHas_calls ah (nth (foldD p).rules n).heads kh A W hw)
         cases hh4 : hasB (nth (foldD p).rules n).heads A
         ·have hv2 : Hid (reaB p xs l = false) := by show _ = _; rw [reaB_B hWW.out]; exact reaQ_no hlt (by rw [hAI, ← HT.out, HW4.out, hh4, Bool.false_and])
          rw [hh4] at H4
          go_wp2
          generalize wr.alloc (.cells #[.int .i64 A, _] 118) = wA at *
          refine wp_region_held_drew (S := (fun w' => w'.cell? ⟨wr.heap.size, 0, none⟩ = some (.int .i64 A) ∧ w'.cell? ⟨wr.heap.size, 1, none⟩ = some (.int .i64 (n : Int)) ∧ w'.cell? ⟨w1.heap.size, 1, none⟩ = some (.slice (some ⟨br, ofr, none⟩) (foldD p).rules.length k1) ∧ w'.cell? ⟨br, ofr + n * 5, none⟩ = some (.bool (nth (foldD p).rules n).choice) ∧ w'.cell? ⟨br, ofr + n * 5 + 1, none⟩ = some (.slice ah (nth (foldD p).rules n).heads.length kh) ∧ w'.cell? ⟨br, ofr + n * 5 + 2, none⟩ = some (.bool (nth (foldD p).rules n).weight) ∧ w'.cell? ⟨br, ofr + n * 5 + 3, none⟩ = some (.int .i64 (nth (foldD p).rules n).bound) ∧ w'.cell? ⟨br, ofr + n * 5 + 4, none⟩ = some (.slice ab (nth (foldD p).rules n).body.length kb))) (by kernel_rfl) ⟨z0, z1, y1, u0, u1, u2, u3, u4⟩ (fun hHeld => ?_)
          refine tkY 0 (.slice at1 ts.length kt1) 44 rfl rfl (fun w' hw' => ?_) hHeld ?_
          ·first | (go_simp; done) | (obtain ⟨s0, s1, s2, s3, s4, s5, s6, s7⟩ := hw'; go_simp; done)
          try simp only [Act.put, put1, put2, put3]
          refine tkY 1 (.pointer (some ⟨wr.heap.size, 0, none⟩)) 45 rfl rfl (fun w' hw' => ?_) hHeld ?_
          ·first | (go_simp; done) | (obtain ⟨s0, s1, s2, s3, s4, s5, s6, s7⟩ := hw'; go_simp; done)
          try simp only [Act.put, put1, put2, put3]
          refine tkY 2 (.int .i64 A) 46 rfl rfl (fun w' hw' => ?_) hHeld ?_
          ·first | (go_simp; done) | (obtain ⟨s0, s1, s2, s3, s4, s5, s6, s7⟩ := hw'; go_simp; done)
          try simp only [Act.put, put1, put2, put3]
          refine wpAnyH_ready (rs := [3]) (by kernel_rfl) (by simp) ?_
          refine AllReadyH.cons rfl (fun K hK => ?_) AllReadyH.nil
          go_simp
          refine ((H1 _ (hIt.later bA.drew)).out).mono ?_
          rintro e w' ⟨rfl, rfl⟩
          refine hK.out _ _ ⟨z0, z1, y1, u0, u1, u2, u3, u4⟩ (fun hHeld => ?_)
          clear hK K
          try simp only [Act.put, put1, put2, put3]
          refine tkY 4 (.bool false) 48 rfl rfl (fun w' hw' => ?_) hHeld ?_
          ·first | (go_simp; done) | (obtain ⟨s0, s1, s2, s3, s4, s5, s6, s7⟩ := hw'; go_simp; done)
          try simp only [Act.put, put1, put2, put3]
          refine tkY 5 (.slice ax xs.length cx) 49 rfl rfl (fun w' hw' => ?_) hHeld ?_
          ·first | (go_simp; done) | (obtain ⟨s0, s1, s2, s3, s4, s5, s6, s7⟩ := hw'; go_simp; done)
          try simp only [Act.put, put1, put2, put3]
          refine tkY 6 (.pointer (some ⟨wr.heap.size, 0, none⟩)) 50 rfl rfl (fun w' hw' => ?_) hHeld ?_
          ·first | (go_simp; done) | (obtain ⟨s0, s1, s2, s3, s4, s5, s6, s7⟩ := hw'; go_simp; done)
          try simp only [Act.put, put1, put2, put3]
          refine tkY 7 (.int .i64 A) 51 rfl rfl (fun w' hw' => ?_) hHeld ?_
          ·first | (go_simp; done) | (obtain ⟨s0, s1, s2, s3, s4, s5, s6, s7⟩ := hw'; go_simp; done)
          try simp only [Act.put, put1, put2, put3]
          refine wpAnyH_ready (rs := [8]) (by kernel_rfl) (by simp) ?_
          refine AllReadyH.cons rfl (fun K hK => ?_) AllReadyH.nil
          go_simp
          refine ((H2 _ ((hx.later tw).later bA.drew).ints).out).mono ?_
          rintro e w' ⟨rfl, rfl⟩
          refine hK.out _ _ ⟨z0, z1, y1, u0, u1, u2, u3, u4⟩ (fun hHeld => ?_)
          clear hK K
          try simp only [Act.put, put1, put2, put3]
          refine tkY 9 (.bool false) 53 rfl rfl (fun w' hw' => ?_) hHeld ?_
          ·first | (go_simp; done) | (obtain ⟨s0, s1, s2, s3, s4, s5, s6, s7⟩ := hw'; go_simp; done)
          try simp only [Act.put, put1, put2, put3]
          refine tkY 10 (.bool false) 54 rfl rfl (fun w' hw' => ?_) hHeld ?_
          ·first | (go_simp; done) | (obtain ⟨s0, s1, s2, s3, s4, s5, s6, s7⟩ := hw'; go_simp; done)
          try simp only [Act.put, put1, put2, put3]
          refine tkY 11 (.bool false) 55 rfl rfl (fun w' hw' => ?_) hHeld ?_
          ·first | (go_simp; done) | (obtain ⟨s0, s1, s2, s3, s4, s5, s6, s7⟩ := hw'; go_simp; done)
          try simp only [Act.put, put1, put2, put3]
          refine tkY 12 (.pointer (some ⟨wr.heap.size, 1, none⟩)) 56 rfl rfl (fun w' hw' => ?_) hHeld ?_
          ·first | (go_simp; done) | (obtain ⟨s0, s1, s2, s3, s4, s5, s6, s7⟩ := hw'; go_simp; done)
          try simp only [Act.put, put1, put2, put3]
          refine tkY 13 (.int .i64 (n : Int)) 57 rfl rfl (fun w' hw' => ?_) hHeld ?_
          ·first | (go_simp; done) | (obtain ⟨s0, s1, s2, s3, s4, s5, s6, s7⟩ := hw'; go_simp; done)
          try simp only [Act.put, put1, put2, put3]
          refine tkY 14 (.pointer (some ⟨w1.heap.size, 1, none⟩)) 58 rfl rfl (fun w' hw' => ?_) hHeld ?_
          ·first | (go_simp; done) | (obtain ⟨s0, s1, s2, s3, s4, s5, s6, s7⟩ := hw'; go_simp; done)
          try simp only [Act.put, put1, put2, put3]
          refine tkY 15 (.slice (some ⟨br, ofr, none⟩) (foldD p).rules.length k1) 59 rfl rfl (fun w' hw' => ?_) hHeld ?_
          ·first | (go_simp; done) | (obtain ⟨s0, s1, s2, s3, s4, s5, s6, s7⟩ := hw'; go_simp; done)
          try simp only [Act.put, put1, put2, put3]
          refine tkY 16 (.int .i64 ((foldD p).rules.length : Int)) 60 rfl rfl (fun w' hw' => ?_) hHeld ?_
          ·first | (go_simp; done) | (obtain ⟨s0, s1, s2, s3, s4, s5, s6, s7⟩ := hw'; go_simp; done)
          try simp only [Act.put, put1, put2, put3]
          refine tkY 17 (.int .i64 (((foldD p).rules.length : Int) - 1)) 61 rfl rfl (fun w' hw' => ?_) hHeld ?_
          ·first | (go_simp; done) | (obtain ⟨s0, s1, s2, s3, s4, s5, s6, s7⟩ := hw'; go_simp; done)
          try simp only [Act.put, put1, put2, put3]
          refine wpAnyH_ready (rs := [18]) (by kernel_rfl) (by simp) ?_
          refine AllReadyH.cons rfl (fun K hK => ?_) AllReadyH.nil
          go_simp
          refine ((H3 _).out).mono ?_
          rintro e w' ⟨rfl, rfl⟩
          refine hK.out _ _ ⟨z0, z1, y1, u0, u1, u2, u3, u4⟩ (fun hHeld => ?_)
          clear hK K
          try simp only [Act.put, put1, put2, put3]
          refine tkY 19 (.bool false) 63 rfl rfl (fun w' hw' => ?_) hHeld ?_
          ·first | (go_simp; done) | (obtain ⟨s0, s1, s2, s3, s4, s5, s6, s7⟩ := hw'; go_simp; done)
          try simp only [Act.put, put1, put2, put3]
          refine tkY 20 (.bool false) 64 rfl rfl (fun w' hw' => ?_) hHeld ?_
          ·first | (go_simp; done) | (obtain ⟨s0, s1, s2, s3, s4, s5, s6, s7⟩ := hw'; go_simp; done)
          try simp only [Act.put, put1, put2, put3]
          refine tkY 21 (.bool false) 65 rfl rfl (fun w' hw' => ?_) hHeld ?_
          ·first | (go_simp; done) | (obtain ⟨s0, s1, s2, s3, s4, s5, s6, s7⟩ := hw'; go_simp; done)
          try simp only [Act.put, put1, put2, put3]
          refine tkY 22 (.pointer (some ⟨w1.heap.size, 1, none⟩)) 66 rfl rfl (fun w' hw' => ?_) hHeld ?_
          ·first | (go_simp; done) | (obtain ⟨s0, s1, s2, s3, s4, s5, s6, s7⟩ := hw'; go_simp; done)
          try simp only [Act.put, put1, put2, put3]
          refine tkY 23 (.slice (some ⟨br, ofr, none⟩) (foldD p).rules.length k1) 67 rfl rfl (fun w' hw' => ?_) hHeld ?_
          ·first | (go_simp; done) | (obtain ⟨s0, s1, s2, s3, s4, s5, s6, s7⟩ := hw'; go_simp; done)
          try simp only [Act.put, put1, put2, put3]
          refine tkY 24 (.pointer (some ⟨wr.heap.size, 1, none⟩)) 68 rfl rfl (fun w' hw' => ?_) hHeld ?_
          ·first | (go_simp; done) | (obtain ⟨s0, s1, s2, s3, s4, s5, s6, s7⟩ := hw'; go_simp; done)
          try simp only [Act.put, put1, put2, put3]
          refine tkY 25 (.int .i64 (n : Int)) 69 rfl rfl (fun w' hw' => ?_) hHeld ?_
          ·first | (go_simp; done) | (obtain ⟨s0, s1, s2, s3, s4, s5, s6, s7⟩ := hw'; go_simp; done)
          try simp only [Act.put, put1, put2, put3]
          refine tkY 26 (.pointer (some ⟨br, ofr + n * 5, none⟩)) 70 rfl rfl (fun w' hw' => ?_) hHeld ?_
          ·first | (go_simp; done) | (obtain ⟨s0, s1, s2, s3, s4, s5, s6, s7⟩ := hw'; go_simp; done)
          try simp only [Act.put, put1, put2, put3]
          refine tkY 27 (.pointer (some ⟨br, ofr + n * 5 + 1, none⟩)) 71 rfl rfl (fun w' hw' => ?_) hHeld ?_
          ·first | (go_simp; done) | (obtain ⟨s0, s1, s2, s3, s4, s5, s6, s7⟩ := hw'; go_simp; done)
          try simp only [Act.put, put1, put2, put3]
          refine tkY 28 (.slice ah (nth (foldD p).rules n).heads.length kh) 72 rfl rfl (fun w' hw' => ?_) hHeld ?_
          ·first | (go_simp; done) | (obtain ⟨s0, s1, s2, s3, s4, s5, s6, s7⟩ := hw'; go_simp; done)
          try simp only [Act.put, put1, put2, put3]
          refine tkY 29 (.pointer (some ⟨wr.heap.size, 0, none⟩)) 73 rfl rfl (fun w' hw' => ?_) hHeld ?_
          ·first | (go_simp; done) | (obtain ⟨s0, s1, s2, s3, s4, s5, s6, s7⟩ := hw'; go_simp; done)
          try simp only [Act.put, put1, put2, put3]
          refine tkY 30 (.int .i64 A) 74 rfl rfl (fun w' hw' => ?_) hHeld ?_
          ·first | (go_simp; done) | (obtain ⟨s0, s1, s2, s3, s4, s5, s6, s7⟩ := hw'; go_simp; done)
          try simp only [Act.put, put1, put2, put3]
          refine wpAnyH_ready (rs := [31]) (by kernel_rfl) (by simp) ?_
          refine AllReadyH.cons rfl (fun K hK => ?_) AllReadyH.nil
          go_simp
          refine ((H4 _ (hh.later (Below.refl _ _).drew).ints).out).mono ?_
          rintro e w' ⟨rfl, rfl⟩
          refine hK.out _ _ ⟨z0, z1, y1, u0, u1, u2, u3, u4⟩ (fun hHeld => ?_)
          clear hK K
          try simp only [Act.put, put1, put2, put3]
          refine tkY 32 (.bool true) 76 rfl rfl (fun w' hw' => ?_) hHeld ?_
          ·first | (go_simp; done) | (obtain ⟨s0, s1, s2, s3, s4, s5, s6, s7⟩ := hw'; go_simp; done)
          try simp only [Act.put, put1, put2, put3]
          refine tkY 33 (.bool true) 77 rfl rfl (fun w' hw' => ?_) hHeld ?_
          ·first | (go_simp; done) | (obtain ⟨s0, s1, s2, s3, s4, s5, s6, s7⟩ := hw'; go_simp; done)
          try simp only [Act.put, put1, put2, put3]
          refine tkY 34 (.bool true) 78 rfl rfl (fun w' hw' => ?_) hHeld ?_
          ·first | (go_simp; done) | (obtain ⟨s0, s1, s2, s3, s4, s5, s6, s7⟩ := hw'; go_simp; done)
          try simp only [Act.put, put1, put2, put3]
          refine tkN 35 79 rfl rfl hHeld ?_
          try simp only [Act.put, put1, put2, put3]
          refine tkN 36 80 rfl rfl hHeld ?_
          try simp only [Act.put, put1, put2, put3]
          refine tkN 37 81 rfl rfl hHeld ?_
          try simp only [Act.put, put1, put2, put3]
          refine tkN 38 82 rfl rfl hHeld ?_
          try simp only [Act.put, put1, put2, put3]
          refine tkN 39 83 rfl rfl hHeld ?_
          try simp only [Act.put, put1, put2, put3]
          refine tkN 40 84 rfl rfl hHeld ?_
          try simp only [Act.put, put1, put2, put3]
          refine tkN 41 85 rfl rfl hHeld ?_
          try simp only [Act.put, put1, put2, put3]
          refine tkN 42 86 rfl rfl hHeld ?_
          try simp only [Act.put, put1, put2, put3]
          refine tkN 43 87 rfl rfl hHeld ?_
          try simp only [Act.put, put1, put2, put3]
          refine tkN 44 88 rfl rfl hHeld ?_
          try simp only [Act.put, put1, put2, put3]
          refine tkY 45 (.bool true) 89 rfl rfl (fun w' hw' => ?_) hHeld ?_
          ·first | (go_simp; done) | (obtain ⟨s0, s1, s2, s3, s4, s5, s6, s7⟩ := hw'; go_simp; done)
          try simp only [Act.put, put1, put2, put3]
          refine wpAnyH_done (by kernel_rfl) ?_ _
          go_wp2
          go_ret
          exact ⟨ret_bool hv2.out.symm, (tw.step bA).drew⟩
         ·rw [hh4] at H4
          have gt1 := ht.own.rd
          have H5 := fun (W : World) (hw : Below wr.heap.size wr W) (hw2 : Rd.R W [.bool (nth (foldD p).rules n).choice, .slice ah (nth (foldD p).rules n).heads.length kh, .bool (nth (foldD p).rules n).weight, .int .i64 (nth (foldD p).rules n).bound, .slice ab (nth (foldD p).rules n).body.length kb] (nth (foldD p).rules n)) => Lib.hid (l02Reaches_calls hw2 (Rd.mono (α := List Int) hw gt1) (Rd.mono (α := List Int) (tw.step hw) gx) hok12)
          cases hh5 : reachB (nth (foldD p).rules n) (h2B ts xs)
          ·have hv2 : Hid (reaB p xs l = false) := by show _ = _; rw [reaB_B hWW.out]; exact reaQ_no hlt (by rw [hAI, ← HT.out, HW4.out, hh4, hh5]; rfl)
           rw [hh5] at H5
           go_wp2
           generalize wr.alloc (.cells #[.int .i64 A, _] 118) = wA at *
           refine wp_region_held_drew (S := (fun w' => w'.cell? ⟨wr.heap.size, 0, none⟩ = some (.int .i64 A) ∧ w'.cell? ⟨wr.heap.size, 1, none⟩ = some (.int .i64 (n : Int)) ∧ w'.cell? ⟨w1.heap.size, 1, none⟩ = some (.slice (some ⟨br, ofr, none⟩) (foldD p).rules.length k1) ∧ w'.cell? ⟨br, ofr + n * 5, none⟩ = some (.bool (nth (foldD p).rules n).choice) ∧ w'.cell? ⟨br, ofr + n * 5 + 1, none⟩ = some (.slice ah (nth (foldD p).rules n).heads.length kh) ∧ w'.cell? ⟨br, ofr + n * 5 + 2, none⟩ = some (.bool (nth (foldD p).rules n).weight) ∧ w'.cell? ⟨br, ofr + n * 5 + 3, none⟩ = some (.int .i64 (nth (foldD p).rules n).bound) ∧ w'.cell? ⟨br, ofr + n * 5 + 4, none⟩ = some (.slice ab (nth (foldD p).rules n).body.length kb))) (by kernel_rfl) ⟨z0, z1, y1, u0, u1, u2, u3, u4⟩ (fun hHeld => ?_)
           refine tkY 0 (.slice at1 ts.length kt1) 44 rfl rfl (fun w' hw' => ?_) hHeld ?_
           ·first | (go_simp; done) | (obtain ⟨s0, s1, s2, s3, s4, s5, s6, s7⟩ := hw'; go_simp; done)
           try simp only [Act.put, put1, put2, put3]
           refine tkY 1 (.pointer (some ⟨wr.heap.size, 0, none⟩)) 45 rfl rfl (fun w' hw' => ?_) hHeld ?_
           ·first | (go_simp; done) | (obtain ⟨s0, s1, s2, s3, s4, s5, s6, s7⟩ := hw'; go_simp; done)
           try simp only [Act.put, put1, put2, put3]
           refine tkY 2 (.int .i64 A) 46 rfl rfl (fun w' hw' => ?_) hHeld ?_
           ·first | (go_simp; done) | (obtain ⟨s0, s1, s2, s3, s4, s5, s6, s7⟩ := hw'; go_simp; done)
           try simp only [Act.put, put1, put2, put3]
           refine wpAnyH_ready (rs := [3]) (by kernel_rfl) (by simp) ?_
           refine AllReadyH.cons rfl (fun K hK => ?_) AllReadyH.nil
           go_simp
           refine ((H1 _ (hIt.later bA.drew)).out).mono ?_
           rintro e w' ⟨rfl, rfl⟩
           refine hK.out _ _ ⟨z0, z1, y1, u0, u1, u2, u3, u4⟩ (fun hHeld => ?_)
           clear hK K
           try simp only [Act.put, put1, put2, put3]
           refine tkY 4 (.bool false) 48 rfl rfl (fun w' hw' => ?_) hHeld ?_
           ·first | (go_simp; done) | (obtain ⟨s0, s1, s2, s3, s4, s5, s6, s7⟩ := hw'; go_simp; done)
           try simp only [Act.put, put1, put2, put3]
           refine tkY 5 (.slice ax xs.length cx) 49 rfl rfl (fun w' hw' => ?_) hHeld ?_
           ·first | (go_simp; done) | (obtain ⟨s0, s1, s2, s3, s4, s5, s6, s7⟩ := hw'; go_simp; done)
           try simp only [Act.put, put1, put2, put3]
           refine tkY 6 (.pointer (some ⟨wr.heap.size, 0, none⟩)) 50 rfl rfl (fun w' hw' => ?_) hHeld ?_
           ·first | (go_simp; done) | (obtain ⟨s0, s1, s2, s3, s4, s5, s6, s7⟩ := hw'; go_simp; done)
           try simp only [Act.put, put1, put2, put3]
           refine tkY 7 (.int .i64 A) 51 rfl rfl (fun w' hw' => ?_) hHeld ?_
           ·first | (go_simp; done) | (obtain ⟨s0, s1, s2, s3, s4, s5, s6, s7⟩ := hw'; go_simp; done)
           try simp only [Act.put, put1, put2, put3]
           refine wpAnyH_ready (rs := [8]) (by kernel_rfl) (by simp) ?_
           refine AllReadyH.cons rfl (fun K hK => ?_) AllReadyH.nil
           go_simp
           refine ((H2 _ ((hx.later tw).later bA.drew).ints).out).mono ?_
           rintro e w' ⟨rfl, rfl⟩
           refine hK.out _ _ ⟨z0, z1, y1, u0, u1, u2, u3, u4⟩ (fun hHeld => ?_)
           clear hK K
           try simp only [Act.put, put1, put2, put3]
           refine tkY 9 (.bool false) 53 rfl rfl (fun w' hw' => ?_) hHeld ?_
           ·first | (go_simp; done) | (obtain ⟨s0, s1, s2, s3, s4, s5, s6, s7⟩ := hw'; go_simp; done)
           try simp only [Act.put, put1, put2, put3]
           refine tkY 10 (.bool false) 54 rfl rfl (fun w' hw' => ?_) hHeld ?_
           ·first | (go_simp; done) | (obtain ⟨s0, s1, s2, s3, s4, s5, s6, s7⟩ := hw'; go_simp; done)
           try simp only [Act.put, put1, put2, put3]
           refine tkY 11 (.bool false) 55 rfl rfl (fun w' hw' => ?_) hHeld ?_
           ·first | (go_simp; done) | (obtain ⟨s0, s1, s2, s3, s4, s5, s6, s7⟩ := hw'; go_simp; done)
           try simp only [Act.put, put1, put2, put3]
           refine tkY 12 (.pointer (some ⟨wr.heap.size, 1, none⟩)) 56 rfl rfl (fun w' hw' => ?_) hHeld ?_
           ·first | (go_simp; done) | (obtain ⟨s0, s1, s2, s3, s4, s5, s6, s7⟩ := hw'; go_simp; done)
           try simp only [Act.put, put1, put2, put3]
           refine tkY 13 (.int .i64 (n : Int)) 57 rfl rfl (fun w' hw' => ?_) hHeld ?_
           ·first | (go_simp; done) | (obtain ⟨s0, s1, s2, s3, s4, s5, s6, s7⟩ := hw'; go_simp; done)
           try simp only [Act.put, put1, put2, put3]
           refine tkY 14 (.pointer (some ⟨w1.heap.size, 1, none⟩)) 58 rfl rfl (fun w' hw' => ?_) hHeld ?_
           ·first | (go_simp; done) | (obtain ⟨s0, s1, s2, s3, s4, s5, s6, s7⟩ := hw'; go_simp; done)
           try simp only [Act.put, put1, put2, put3]
           refine tkY 15 (.slice (some ⟨br, ofr, none⟩) (foldD p).rules.length k1) 59 rfl rfl (fun w' hw' => ?_) hHeld ?_
           ·first | (go_simp; done) | (obtain ⟨s0, s1, s2, s3, s4, s5, s6, s7⟩ := hw'; go_simp; done)
           try simp only [Act.put, put1, put2, put3]
           refine tkY 16 (.int .i64 ((foldD p).rules.length : Int)) 60 rfl rfl (fun w' hw' => ?_) hHeld ?_
           ·first | (go_simp; done) | (obtain ⟨s0, s1, s2, s3, s4, s5, s6, s7⟩ := hw'; go_simp; done)
           try simp only [Act.put, put1, put2, put3]
           refine tkY 17 (.int .i64 (((foldD p).rules.length : Int) - 1)) 61 rfl rfl (fun w' hw' => ?_) hHeld ?_
           ·first | (go_simp; done) | (obtain ⟨s0, s1, s2, s3, s4, s5, s6, s7⟩ := hw'; go_simp; done)
           try simp only [Act.put, put1, put2, put3]
           refine wpAnyH_ready (rs := [18]) (by kernel_rfl) (by simp) ?_
           refine AllReadyH.cons rfl (fun K hK => ?_) AllReadyH.nil
           go_simp
           refine ((H3 _).out).mono ?_
           rintro e w' ⟨rfl, rfl⟩
           refine hK.out _ _ ⟨z0, z1, y1, u0, u1, u2, u3, u4⟩ (fun hHeld => ?_)
           clear hK K
           try simp only [Act.put, put1, put2, put3]
           refine tkY 19 (.bool false) 63 rfl rfl (fun w' hw' => ?_) hHeld ?_
           ·first | (go_simp; done) | (obtain ⟨s0, s1, s2, s3, s4, s5, s6, s7⟩ := hw'; go_simp; done)
           try simp only [Act.put, put1, put2, put3]
           refine tkY 20 (.bool false) 64 rfl rfl (fun w' hw' => ?_) hHeld ?_
           ·first | (go_simp; done) | (obtain ⟨s0, s1, s2, s3, s4, s5, s6, s7⟩ := hw'; go_simp; done)
           try simp only [Act.put, put1, put2, put3]
           refine tkY 21 (.bool false) 65 rfl rfl (fun w' hw' => ?_) hHeld ?_
           ·first | (go_simp; done) | (obtain ⟨s0, s1, s2, s3, s4, s5, s6, s7⟩ := hw'; go_simp; done)
           try simp only [Act.put, put1, put2, put3]
           refine tkY 22 (.pointer (some ⟨w1.heap.size, 1, none⟩)) 66 rfl rfl (fun w' hw' => ?_) hHeld ?_
           ·first | (go_simp; done) | (obtain ⟨s0, s1, s2, s3, s4, s5, s6, s7⟩ := hw'; go_simp; done)
           try simp only [Act.put, put1, put2, put3]
           refine tkY 23 (.slice (some ⟨br, ofr, none⟩) (foldD p).rules.length k1) 67 rfl rfl (fun w' hw' => ?_) hHeld ?_
           ·first | (go_simp; done) | (obtain ⟨s0, s1, s2, s3, s4, s5, s6, s7⟩ := hw'; go_simp; done)
           try simp only [Act.put, put1, put2, put3]
           refine tkY 24 (.pointer (some ⟨wr.heap.size, 1, none⟩)) 68 rfl rfl (fun w' hw' => ?_) hHeld ?_
           ·first | (go_simp; done) | (obtain ⟨s0, s1, s2, s3, s4, s5, s6, s7⟩ := hw'; go_simp; done)
           try simp only [Act.put, put1, put2, put3]
           refine tkY 25 (.int .i64 (n : Int)) 69 rfl rfl (fun w' hw' => ?_) hHeld ?_
           ·first | (go_simp; done) | (obtain ⟨s0, s1, s2, s3, s4, s5, s6, s7⟩ := hw'; go_simp; done)
           try simp only [Act.put, put1, put2, put3]
           refine tkY 26 (.pointer (some ⟨br, ofr + n * 5, none⟩)) 70 rfl rfl (fun w' hw' => ?_) hHeld ?_
           ·first | (go_simp; done) | (obtain ⟨s0, s1, s2, s3, s4, s5, s6, s7⟩ := hw'; go_simp; done)
           try simp only [Act.put, put1, put2, put3]
           refine tkY 27 (.pointer (some ⟨br, ofr + n * 5 + 1, none⟩)) 71 rfl rfl (fun w' hw' => ?_) hHeld ?_
           ·first | (go_simp; done) | (obtain ⟨s0, s1, s2, s3, s4, s5, s6, s7⟩ := hw'; go_simp; done)
           try simp only [Act.put, put1, put2, put3]
           refine tkY 28 (.slice ah (nth (foldD p).rules n).heads.length kh) 72 rfl rfl (fun w' hw' => ?_) hHeld ?_
           ·first | (go_simp; done) | (obtain ⟨s0, s1, s2, s3, s4, s5, s6, s7⟩ := hw'; go_simp; done)
           try simp only [Act.put, put1, put2, put3]
           refine tkY 29 (.pointer (some ⟨wr.heap.size, 0, none⟩)) 73 rfl rfl (fun w' hw' => ?_) hHeld ?_
           ·first | (go_simp; done) | (obtain ⟨s0, s1, s2, s3, s4, s5, s6, s7⟩ := hw'; go_simp; done)
           try simp only [Act.put, put1, put2, put3]
           refine tkY 30 (.int .i64 A) 74 rfl rfl (fun w' hw' => ?_) hHeld ?_
           ·first | (go_simp; done) | (obtain ⟨s0, s1, s2, s3, s4, s5, s6, s7⟩ := hw'; go_simp; done)
           try simp only [Act.put, put1, put2, put3]
           refine wpAnyH_ready (rs := [31]) (by kernel_rfl) (by simp) ?_
           refine AllReadyH.cons rfl (fun K hK => ?_) AllReadyH.nil
           go_simp
           refine ((H4 _ (hh.later (Below.refl _ _).drew).ints).out).mono ?_
           rintro e w' ⟨rfl, rfl⟩
           refine hK.out _ _ ⟨z0, z1, y1, u0, u1, u2, u3, u4⟩ (fun hHeld => ?_)
           clear hK K
           try simp only [Act.put, put1, put2, put3]
           refine tkY 32 (.bool false) 76 rfl rfl (fun w' hw' => ?_) hHeld ?_
           ·first | (go_simp; done) | (obtain ⟨s0, s1, s2, s3, s4, s5, s6, s7⟩ := hw'; go_simp; done)
           try simp only [Act.put, put1, put2, put3]
           refine tkY 33 (.bool false) 77 rfl rfl (fun w' hw' => ?_) hHeld ?_
           ·first | (go_simp; done) | (obtain ⟨s0, s1, s2, s3, s4, s5, s6, s7⟩ := hw'; go_simp; done)
           try simp only [Act.put, put1, put2, put3]
           refine tkY 34 (.bool false) 78 rfl rfl (fun w' hw' => ?_) hHeld ?_
           ·first | (go_simp; done) | (obtain ⟨s0, s1, s2, s3, s4, s5, s6, s7⟩ := hw'; go_simp; done)
           try simp only [Act.put, put1, put2, put3]
           refine tkY 35 (.pointer (some ⟨w1.heap.size, 1, none⟩)) 79 rfl rfl (fun w' hw' => ?_) hHeld ?_
           ·first | (go_simp; done) | (obtain ⟨s0, s1, s2, s3, s4, s5, s6, s7⟩ := hw'; go_simp; done)
           try simp only [Act.put, put1, put2, put3]
           refine tkY 36 (.slice (some ⟨br, ofr, none⟩) (foldD p).rules.length k1) 80 rfl rfl (fun w' hw' => ?_) hHeld ?_
           ·first | (go_simp; done) | (obtain ⟨s0, s1, s2, s3, s4, s5, s6, s7⟩ := hw'; go_simp; done)
           try simp only [Act.put, put1, put2, put3]
           refine tkY 37 (.pointer (some ⟨wr.heap.size, 1, none⟩)) 81 rfl rfl (fun w' hw' => ?_) hHeld ?_
           ·first | (go_simp; done) | (obtain ⟨s0, s1, s2, s3, s4, s5, s6, s7⟩ := hw'; go_simp; done)
           try simp only [Act.put, put1, put2, put3]
           refine tkY 38 (.int .i64 (n : Int)) 82 rfl rfl (fun w' hw' => ?_) hHeld ?_
           ·first | (go_simp; done) | (obtain ⟨s0, s1, s2, s3, s4, s5, s6, s7⟩ := hw'; go_simp; done)
           try simp only [Act.put, put1, put2, put3]
           refine tkY 39 (.pointer (some ⟨br, ofr + n * 5, none⟩)) 83 rfl rfl (fun w' hw' => ?_) hHeld ?_
           ·first | (go_simp; done) | (obtain ⟨s0, s1, s2, s3, s4, s5, s6, s7⟩ := hw'; go_simp; done)
           try simp only [Act.put, put1, put2, put3]
           refine tkY 40 (.agg #[.bool (nth (foldD p).rules n).choice, .slice ah (nth (foldD p).rules n).heads.length kh, .bool (nth (foldD p).rules n).weight, .int .i64 (nth (foldD p).rules n).bound, .slice ab (nth (foldD p).rules n).body.length kb]) 84 rfl rfl (fun w' hw' => ?_) hHeld ?_
           ·first | (go_simp; done) | (obtain ⟨s0, s1, s2, s3, s4, s5, s6, s7⟩ := hw'; go_simp; done)
           try simp only [Act.put, put1, put2, put3]
           refine tkY 41 (.slice at1 ts.length kt1) 85 rfl rfl (fun w' hw' => ?_) hHeld ?_
           ·first | (go_simp; done) | (obtain ⟨s0, s1, s2, s3, s4, s5, s6, s7⟩ := hw'; go_simp; done)
           try simp only [Act.put, put1, put2, put3]
           refine tkY 42 (.slice ax xs.length cx) 86 rfl rfl (fun w' hw' => ?_) hHeld ?_
           ·first | (go_simp; done) | (obtain ⟨s0, s1, s2, s3, s4, s5, s6, s7⟩ := hw'; go_simp; done)
           try simp only [Act.put, put1, put2, put3]
           refine wpAnyH_ready (rs := [43]) (by kernel_rfl) (by simp) ?_
           refine AllReadyH.cons rfl (fun K hK => ?_) AllReadyH.nil
           go_simp
           refine (H5 _ bA.drew (Rd.mono (Below.refl _ _).drew hRr)).out.mono ?_
           rintro e w5 ⟨rfl, b5⟩
           refine hK.out _ _ ⟨cell_kept b5 z0, cell_kept b5 z1, cell_kept b5 y1, cell_kept b5 u0, cell_kept b5 u1, cell_kept b5 u2, cell_kept b5 u3, cell_kept b5 u4⟩ (fun hHeld => ?_)
           clear hK K
           try simp only [Act.put, put1, put2, put3]
           refine tkY 44 (.bool true) 88 rfl rfl (fun w' hw' => ?_) hHeld ?_
           ·first | (go_simp; done) | (obtain ⟨s0, s1, s2, s3, s4, s5, s6, s7⟩ := hw'; go_simp; done)
           try simp only [Act.put, put1, put2, put3]
           refine tkY 45 (.bool true) 89 rfl rfl (fun w' hw' => ?_) hHeld ?_
           ·first | (go_simp; done) | (obtain ⟨s0, s1, s2, s3, s4, s5, s6, s7⟩ := hw'; go_simp; done)
           try simp only [Act.put, put1, put2, put3]
           refine wpAnyH_done (by kernel_rfl) ?_ _
           go_wp2
           go_ret
           exact ⟨ret_bool hv2.out.symm, (tw.step bA).drew.step b5⟩
          ·have hA' := Lib.hid (alwTo_step (rs := (foldD p).rules) (xs := xs) hA.out (by rw [hAI, ← HT.out, HW4.out, hh4, hh5]; rfl))
           have hsn : Hid (fsts (l.take (k + 1)) = ts ++ [A]) := by show _ = _; rw [take_nth hlt, fsts_snoc, hAI, HT.out]
           rw [hh5] at H5
           have hAIH := Lib.hid hAI
           clear hAI
           go_wp2
           generalize wr.alloc (.cells #[.int .i64 A, _] 118) = wA at *
           refine wp_region_held_drew (S := (fun w' => w'.cell? ⟨wr.heap.size, 0, none⟩ = some (.int .i64 A) ∧ w'.cell? ⟨wr.heap.size, 1, none⟩ = some (.int .i64 (n : Int)) ∧ w'.cell? ⟨w1.heap.size, 1, none⟩ = some (.slice (some ⟨br, ofr, none⟩) (foldD p).rules.length k1) ∧ w'.cell? ⟨br, ofr + n * 5, none⟩ = some (.bool (nth (foldD p).rules n).choice) ∧ w'.cell? ⟨br, ofr + n * 5 + 1, none⟩ = some (.slice ah (nth (foldD p).rules n).heads.length kh) ∧ w'.cell? ⟨br, ofr + n * 5 + 2, none⟩ = some (.bool (nth (foldD p).rules n).weight) ∧ w'.cell? ⟨br, ofr + n * 5 + 3, none⟩ = some (.int .i64 (nth (foldD p).rules n).bound) ∧ w'.cell? ⟨br, ofr + n * 5 + 4, none⟩ = some (.slice ab (nth (foldD p).rules n).body.length kb))) (by kernel_rfl) ⟨z0, z1, y1, u0, u1, u2, u3, u4⟩ (fun hHeld => ?_)
           refine tkY 0 (.slice at1 ts.length kt1) 44 rfl rfl (fun w' hw' => ?_) hHeld ?_
           ·first | (go_simp; done) | (obtain ⟨s0, s1, s2, s3, s4, s5, s6, s7⟩ := hw'; go_simp; done)
           try simp only [Act.put, put1, put2, put3]
           refine tkY 1 (.pointer (some ⟨wr.heap.size, 0, none⟩)) 45 rfl rfl (fun w' hw' => ?_) hHeld ?_
           ·first | (go_simp; done) | (obtain ⟨s0, s1, s2, s3, s4, s5, s6, s7⟩ := hw'; go_simp; done)
           try simp only [Act.put, put1, put2, put3]
           refine tkY 2 (.int .i64 A) 46 rfl rfl (fun w' hw' => ?_) hHeld ?_
           ·first | (go_simp; done) | (obtain ⟨s0, s1, s2, s3, s4, s5, s6, s7⟩ := hw'; go_simp; done)
           try simp only [Act.put, put1, put2, put3]
           refine wpAnyH_ready (rs := [3]) (by kernel_rfl) (by simp) ?_
           refine AllReadyH.cons rfl (fun K hK => ?_) AllReadyH.nil
           go_simp
           refine ((H1 _ (hIt.later bA.drew)).out).mono ?_
           rintro e w' ⟨rfl, rfl⟩
           refine hK.out _ _ ⟨z0, z1, y1, u0, u1, u2, u3, u4⟩ (fun hHeld => ?_)
           clear hK K
           try simp only [Act.put, put1, put2, put3]
           refine tkY 4 (.bool false) 48 rfl rfl (fun w' hw' => ?_) hHeld ?_
           ·first | (go_simp; done) | (obtain ⟨s0, s1, s2, s3, s4, s5, s6, s7⟩ := hw'; go_simp; done)
           try simp only [Act.put, put1, put2, put3]
           refine tkY 5 (.slice ax xs.length cx) 49 rfl rfl (fun w' hw' => ?_) hHeld ?_
           ·first | (go_simp; done) | (obtain ⟨s0, s1, s2, s3, s4, s5, s6, s7⟩ := hw'; go_simp; done)
           try simp only [Act.put, put1, put2, put3]
           refine tkY 6 (.pointer (some ⟨wr.heap.size, 0, none⟩)) 50 rfl rfl (fun w' hw' => ?_) hHeld ?_
           ·first | (go_simp; done) | (obtain ⟨s0, s1, s2, s3, s4, s5, s6, s7⟩ := hw'; go_simp; done)
           try simp only [Act.put, put1, put2, put3]
           refine tkY 7 (.int .i64 A) 51 rfl rfl (fun w' hw' => ?_) hHeld ?_
           ·first | (go_simp; done) | (obtain ⟨s0, s1, s2, s3, s4, s5, s6, s7⟩ := hw'; go_simp; done)
           try simp only [Act.put, put1, put2, put3]
           refine wpAnyH_ready (rs := [8]) (by kernel_rfl) (by simp) ?_
           refine AllReadyH.cons rfl (fun K hK => ?_) AllReadyH.nil
           go_simp
           refine ((H2 _ ((hx.later tw).later bA.drew).ints).out).mono ?_
           rintro e w' ⟨rfl, rfl⟩
           refine hK.out _ _ ⟨z0, z1, y1, u0, u1, u2, u3, u4⟩ (fun hHeld => ?_)
           clear hK K
           try simp only [Act.put, put1, put2, put3]
           refine tkY 9 (.bool false) 53 rfl rfl (fun w' hw' => ?_) hHeld ?_
           ·first | (go_simp; done) | (obtain ⟨s0, s1, s2, s3, s4, s5, s6, s7⟩ := hw'; go_simp; done)
           try simp only [Act.put, put1, put2, put3]
           refine tkY 10 (.bool false) 54 rfl rfl (fun w' hw' => ?_) hHeld ?_
           ·first | (go_simp; done) | (obtain ⟨s0, s1, s2, s3, s4, s5, s6, s7⟩ := hw'; go_simp; done)
           try simp only [Act.put, put1, put2, put3]
           refine tkY 11 (.bool false) 55 rfl rfl (fun w' hw' => ?_) hHeld ?_
           ·first | (go_simp; done) | (obtain ⟨s0, s1, s2, s3, s4, s5, s6, s7⟩ := hw'; go_simp; done)
           try simp only [Act.put, put1, put2, put3]
           refine tkY 12 (.pointer (some ⟨wr.heap.size, 1, none⟩)) 56 rfl rfl (fun w' hw' => ?_) hHeld ?_
           ·first | (go_simp; done) | (obtain ⟨s0, s1, s2, s3, s4, s5, s6, s7⟩ := hw'; go_simp; done)
           try simp only [Act.put, put1, put2, put3]
           refine tkY 13 (.int .i64 (n : Int)) 57 rfl rfl (fun w' hw' => ?_) hHeld ?_
           ·first | (go_simp; done) | (obtain ⟨s0, s1, s2, s3, s4, s5, s6, s7⟩ := hw'; go_simp; done)
           try simp only [Act.put, put1, put2, put3]
           refine tkY 14 (.pointer (some ⟨w1.heap.size, 1, none⟩)) 58 rfl rfl (fun w' hw' => ?_) hHeld ?_
           ·first | (go_simp; done) | (obtain ⟨s0, s1, s2, s3, s4, s5, s6, s7⟩ := hw'; go_simp; done)
           try simp only [Act.put, put1, put2, put3]
           refine tkY 15 (.slice (some ⟨br, ofr, none⟩) (foldD p).rules.length k1) 59 rfl rfl (fun w' hw' => ?_) hHeld ?_
           ·first | (go_simp; done) | (obtain ⟨s0, s1, s2, s3, s4, s5, s6, s7⟩ := hw'; go_simp; done)
           try simp only [Act.put, put1, put2, put3]
           refine tkY 16 (.int .i64 ((foldD p).rules.length : Int)) 60 rfl rfl (fun w' hw' => ?_) hHeld ?_
           ·first | (go_simp; done) | (obtain ⟨s0, s1, s2, s3, s4, s5, s6, s7⟩ := hw'; go_simp; done)
           try simp only [Act.put, put1, put2, put3]
           refine tkY 17 (.int .i64 (((foldD p).rules.length : Int) - 1)) 61 rfl rfl (fun w' hw' => ?_) hHeld ?_
           ·first | (go_simp; done) | (obtain ⟨s0, s1, s2, s3, s4, s5, s6, s7⟩ := hw'; go_simp; done)
           try simp only [Act.put, put1, put2, put3]
           refine wpAnyH_ready (rs := [18]) (by kernel_rfl) (by simp) ?_
           refine AllReadyH.cons rfl (fun K hK => ?_) AllReadyH.nil
           go_simp
           refine ((H3 _).out).mono ?_
           rintro e w' ⟨rfl, rfl⟩
           refine hK.out _ _ ⟨z0, z1, y1, u0, u1, u2, u3, u4⟩ (fun hHeld => ?_)
           clear hK K
           try simp only [Act.put, put1, put2, put3]
           refine tkY 19 (.bool false) 63 rfl rfl (fun w' hw' => ?_) hHeld ?_
           ·first | (go_simp; done) | (obtain ⟨s0, s1, s2, s3, s4, s5, s6, s7⟩ := hw'; go_simp; done)
           try simp only [Act.put, put1, put2, put3]
           refine tkY 20 (.bool false) 64 rfl rfl (fun w' hw' => ?_) hHeld ?_
           ·first | (go_simp; done) | (obtain ⟨s0, s1, s2, s3, s4, s5, s6, s7⟩ := hw'; go_simp; done)
           try simp only [Act.put, put1, put2, put3]
           refine tkY 21 (.bool false) 65 rfl rfl (fun w' hw' => ?_) hHeld ?_
           ·first | (go_simp; done) | (obtain ⟨s0, s1, s2, s3, s4, s5, s6, s7⟩ := hw'; go_simp; done)
           try simp only [Act.put, put1, put2, put3]
           refine tkY 22 (.pointer (some ⟨w1.heap.size, 1, none⟩)) 66 rfl rfl (fun w' hw' => ?_) hHeld ?_
           ·first | (go_simp; done) | (obtain ⟨s0, s1, s2, s3, s4, s5, s6, s7⟩ := hw'; go_simp; done)
           try simp only [Act.put, put1, put2, put3]
           refine tkY 23 (.slice (some ⟨br, ofr, none⟩) (foldD p).rules.length k1) 67 rfl rfl (fun w' hw' => ?_) hHeld ?_
           ·first | (go_simp; done) | (obtain ⟨s0, s1, s2, s3, s4, s5, s6, s7⟩ := hw'; go_simp; done)
           try simp only [Act.put, put1, put2, put3]
           refine tkY 24 (.pointer (some ⟨wr.heap.size, 1, none⟩)) 68 rfl rfl (fun w' hw' => ?_) hHeld ?_
           ·first | (go_simp; done) | (obtain ⟨s0, s1, s2, s3, s4, s5, s6, s7⟩ := hw'; go_simp; done)
           try simp only [Act.put, put1, put2, put3]
           refine tkY 25 (.int .i64 (n : Int)) 69 rfl rfl (fun w' hw' => ?_) hHeld ?_
           ·first | (go_simp; done) | (obtain ⟨s0, s1, s2, s3, s4, s5, s6, s7⟩ := hw'; go_simp; done)
           try simp only [Act.put, put1, put2, put3]
           refine tkY 26 (.pointer (some ⟨br, ofr + n * 5, none⟩)) 70 rfl rfl (fun w' hw' => ?_) hHeld ?_
           ·first | (go_simp; done) | (obtain ⟨s0, s1, s2, s3, s4, s5, s6, s7⟩ := hw'; go_simp; done)
           try simp only [Act.put, put1, put2, put3]
           refine tkY 27 (.pointer (some ⟨br, ofr + n * 5 + 1, none⟩)) 71 rfl rfl (fun w' hw' => ?_) hHeld ?_
           ·first | (go_simp; done) | (obtain ⟨s0, s1, s2, s3, s4, s5, s6, s7⟩ := hw'; go_simp; done)
           try simp only [Act.put, put1, put2, put3]
           refine tkY 28 (.slice ah (nth (foldD p).rules n).heads.length kh) 72 rfl rfl (fun w' hw' => ?_) hHeld ?_
           ·first | (go_simp; done) | (obtain ⟨s0, s1, s2, s3, s4, s5, s6, s7⟩ := hw'; go_simp; done)
           try simp only [Act.put, put1, put2, put3]
           refine tkY 29 (.pointer (some ⟨wr.heap.size, 0, none⟩)) 73 rfl rfl (fun w' hw' => ?_) hHeld ?_
           ·first | (go_simp; done) | (obtain ⟨s0, s1, s2, s3, s4, s5, s6, s7⟩ := hw'; go_simp; done)
           try simp only [Act.put, put1, put2, put3]
           refine tkY 30 (.int .i64 A) 74 rfl rfl (fun w' hw' => ?_) hHeld ?_
           ·first | (go_simp; done) | (obtain ⟨s0, s1, s2, s3, s4, s5, s6, s7⟩ := hw'; go_simp; done)
           try simp only [Act.put, put1, put2, put3]
           refine wpAnyH_ready (rs := [31]) (by kernel_rfl) (by simp) ?_
           refine AllReadyH.cons rfl (fun K hK => ?_) AllReadyH.nil
           go_simp
           refine ((H4 _ (hh.later (Below.refl _ _).drew).ints).out).mono ?_
           rintro e w' ⟨rfl, rfl⟩
           refine hK.out _ _ ⟨z0, z1, y1, u0, u1, u2, u3, u4⟩ (fun hHeld => ?_)
           clear hK K
           try simp only [Act.put, put1, put2, put3]
           refine tkY 32 (.bool false) 76 rfl rfl (fun w' hw' => ?_) hHeld ?_
           ·first | (go_simp; done) | (obtain ⟨s0, s1, s2, s3, s4, s5, s6, s7⟩ := hw'; go_simp; done)
           try simp only [Act.put, put1, put2, put3]
           refine tkY 33 (.bool false) 77 rfl rfl (fun w' hw' => ?_) hHeld ?_
           ·first | (go_simp; done) | (obtain ⟨s0, s1, s2, s3, s4, s5, s6, s7⟩ := hw'; go_simp; done)
           try simp only [Act.put, put1, put2, put3]
           refine tkY 34 (.bool false) 78 rfl rfl (fun w' hw' => ?_) hHeld ?_
           ·first | (go_simp; done) | (obtain ⟨s0, s1, s2, s3, s4, s5, s6, s7⟩ := hw'; go_simp; done)
           try simp only [Act.put, put1, put2, put3]
           refine tkY 35 (.pointer (some ⟨w1.heap.size, 1, none⟩)) 79 rfl rfl (fun w' hw' => ?_) hHeld ?_
           ·first | (go_simp; done) | (obtain ⟨s0, s1, s2, s3, s4, s5, s6, s7⟩ := hw'; go_simp; done)
           try simp only [Act.put, put1, put2, put3]
           refine tkY 36 (.slice (some ⟨br, ofr, none⟩) (foldD p).rules.length k1) 80 rfl rfl (fun w' hw' => ?_) hHeld ?_
           ·first | (go_simp; done) | (obtain ⟨s0, s1, s2, s3, s4, s5, s6, s7⟩ := hw'; go_simp; done)
           try simp only [Act.put, put1, put2, put3]
           refine tkY 37 (.pointer (some ⟨wr.heap.size, 1, none⟩)) 81 rfl rfl (fun w' hw' => ?_) hHeld ?_
           ·first | (go_simp; done) | (obtain ⟨s0, s1, s2, s3, s4, s5, s6, s7⟩ := hw'; go_simp; done)
           try simp only [Act.put, put1, put2, put3]
           refine tkY 38 (.int .i64 (n : Int)) 82 rfl rfl (fun w' hw' => ?_) hHeld ?_
           ·first | (go_simp; done) | (obtain ⟨s0, s1, s2, s3, s4, s5, s6, s7⟩ := hw'; go_simp; done)
           try simp only [Act.put, put1, put2, put3]
           refine tkY 39 (.pointer (some ⟨br, ofr + n * 5, none⟩)) 83 rfl rfl (fun w' hw' => ?_) hHeld ?_
           ·first | (go_simp; done) | (obtain ⟨s0, s1, s2, s3, s4, s5, s6, s7⟩ := hw'; go_simp; done)
           try simp only [Act.put, put1, put2, put3]
           refine tkY 40 (.agg #[.bool (nth (foldD p).rules n).choice, .slice ah (nth (foldD p).rules n).heads.length kh, .bool (nth (foldD p).rules n).weight, .int .i64 (nth (foldD p).rules n).bound, .slice ab (nth (foldD p).rules n).body.length kb]) 84 rfl rfl (fun w' hw' => ?_) hHeld ?_
           ·first | (go_simp; done) | (obtain ⟨s0, s1, s2, s3, s4, s5, s6, s7⟩ := hw'; go_simp; done)
           try simp only [Act.put, put1, put2, put3]
           refine tkY 41 (.slice at1 ts.length kt1) 85 rfl rfl (fun w' hw' => ?_) hHeld ?_
           ·first | (go_simp; done) | (obtain ⟨s0, s1, s2, s3, s4, s5, s6, s7⟩ := hw'; go_simp; done)
           try simp only [Act.put, put1, put2, put3]
           refine tkY 42 (.slice ax xs.length cx) 86 rfl rfl (fun w' hw' => ?_) hHeld ?_
           ·first | (go_simp; done) | (obtain ⟨s0, s1, s2, s3, s4, s5, s6, s7⟩ := hw'; go_simp; done)
           try simp only [Act.put, put1, put2, put3]
           refine wpAnyH_ready (rs := [43]) (by kernel_rfl) (by simp) ?_
           refine AllReadyH.cons rfl (fun K hK => ?_) AllReadyH.nil
           go_simp
           refine (H5 _ bA.drew (Rd.mono (Below.refl _ _).drew hRr)).out.mono ?_
           rintro e w5 ⟨rfl, b5⟩
           refine hK.out _ _ ⟨cell_kept b5 z0, cell_kept b5 z1, cell_kept b5 y1, cell_kept b5 u0, cell_kept b5 u1, cell_kept b5 u2, cell_kept b5 u3, cell_kept b5 u4⟩ (fun hHeld => ?_)
           clear hK K
           try simp only [Act.put, put1, put2, put3]
           refine tkY 44 (.bool false) 88 rfl rfl (fun w' hw' => ?_) hHeld ?_
           ·first | (go_simp; done) | (obtain ⟨s0, s1, s2, s3, s4, s5, s6, s7⟩ := hw'; go_simp; done)
           try simp only [Act.put, put1, put2, put3]
           refine tkY 45 (.bool false) 89 rfl rfl (fun w' hw' => ?_) hHeld ?_
           ·first | (go_simp; done) | (obtain ⟨s0, s1, s2, s3, s4, s5, s6, s7⟩ := hw'; go_simp; done)
           try simp only [Act.put, put1, put2, put3]
           refine wpAnyH_done (by kernel_rfl) ?_ _
           have b6 := bA.drew.step b5
           have ht6 := ht.kept b6
           have CR6 := CR.drew.later b5
           clear z0 z1
           obtain ⟨z0, z1⟩ := cells2 CR6
           have hs6 := b6.size
           go_wp2_with (at_builtin; refine wpList_append_int rfl _ _ rfl rfl ht6 rfl (by omega) fA (by omega) ?_; intro v9 w9 ht9 hb9 hg9)
           go_roundw
           case rel => exact ⟨k + 1, by omega, by go_num, by rw [hsn.out]; exact ht9, hA', (hb.trans (b6.mono (by omega))).trans hb9⟩
           case measure => simp [intOf]; omega
      ·have hv2 : Hid (reaB p xs l = false) := by show _ = _; rw [reaB_B hWW.out]; exact reaQ_no hlt (by rw [hAI, ← HT.out]; exact alw_1 hh1)
       rw [hh1] at H1
       go_wp2
       generalize wr.alloc (.cells #[.int .i64 A, _] 118) = wA at *
       refine wp_region_held_drew (S := (fun w' => w'.cell? ⟨wr.heap.size, 0, none⟩ = some (.int .i64 A) ∧ w'.cell? ⟨wr.heap.size, 1, none⟩ = some (.int .i64 I) ∧ w'.cell? ⟨w1.heap.size, 1, none⟩ = some (.slice a1 (foldD p).rules.length k1))) (by kernel_rfl) ⟨z0, z1, y1⟩ (fun hHeld => ?_)
       refine tkY 0 (.slice at1 ts.length kt1) 44 rfl rfl (fun w' hw' => ?_) hHeld ?_
       ·first | (go_simp; done) | (obtain ⟨s0, s1, s2⟩ := hw'; go_simp; done)
       try simp only [Act.put, put1, put2, put3]
       refine tkY 1 (.pointer (some ⟨wr.heap.size, 0, none⟩)) 45 rfl rfl (fun w' hw' => ?_) hHeld ?_
       ·first | (go_simp; done) | (obtain ⟨s0, s1, s2⟩ := hw'; go_simp; done)
       try simp only [Act.put, put1, put2, put3]
       refine tkY 2 (.int .i64 A) 46 rfl rfl (fun w' hw' => ?_) hHeld ?_
       ·first | (go_simp; done) | (obtain ⟨s0, s1, s2⟩ := hw'; go_simp; done)
       try simp only [Act.put, put1, put2, put3]
       refine wpAnyH_ready (rs := [3]) (by kernel_rfl) (by simp) ?_
       refine AllReadyH.cons rfl (fun K hK => ?_) AllReadyH.nil
       go_simp
       refine ((H1 _ (hIt.later bA.drew)).out).mono ?_
       rintro e w' ⟨rfl, rfl⟩
       refine hK.out _ _ ⟨z0, z1, y1⟩ (fun hHeld => ?_)
       clear hK K
       try simp only [Act.put, put1, put2, put3]
       refine tkY 4 (.bool true) 48 rfl rfl (fun w' hw' => ?_) hHeld ?_
       ·first | (go_simp; done) | (obtain ⟨s0, s1, s2⟩ := hw'; go_simp; done)
       try simp only [Act.put, put1, put2, put3]
       refine tkN 5 49 rfl rfl hHeld ?_
       try simp only [Act.put, put1, put2, put3]
       refine tkN 6 50 rfl rfl hHeld ?_
       try simp only [Act.put, put1, put2, put3]
       refine tkN 7 51 rfl rfl hHeld ?_
       try simp only [Act.put, put1, put2, put3]
       refine tkN 8 52 rfl rfl hHeld ?_
       try simp only [Act.put, put1, put2, put3]
       refine tkN 9 53 rfl rfl hHeld ?_
       try simp only [Act.put, put1, put2, put3]
       refine tkY 10 (.bool true) 54 rfl rfl (fun w' hw' => ?_) hHeld ?_
       ·first | (go_simp; done) | (obtain ⟨s0, s1, s2⟩ := hw'; go_simp; done)
       try simp only [Act.put, put1, put2, put3]
       refine tkY 11 (.bool true) 55 rfl rfl (fun w' hw' => ?_) hHeld ?_
       ·first | (go_simp; done) | (obtain ⟨s0, s1, s2⟩ := hw'; go_simp; done)
       try simp only [Act.put, put1, put2, put3]
       refine tkN 12 56 rfl rfl hHeld ?_
       try simp only [Act.put, put1, put2, put3]
       refine tkN 13 57 rfl rfl hHeld ?_
       try simp only [Act.put, put1, put2, put3]
       refine tkN 14 58 rfl rfl hHeld ?_
       try simp only [Act.put, put1, put2, put3]
       refine tkN 15 59 rfl rfl hHeld ?_
       try simp only [Act.put, put1, put2, put3]
       refine tkN 16 60 rfl rfl hHeld ?_
       try simp only [Act.put, put1, put2, put3]
       refine tkN 17 61 rfl rfl hHeld ?_
       try simp only [Act.put, put1, put2, put3]
       refine tkN 18 62 rfl rfl hHeld ?_
       try simp only [Act.put, put1, put2, put3]
       refine tkN 19 63 rfl rfl hHeld ?_
       try simp only [Act.put, put1, put2, put3]
       refine tkY 20 (.bool true) 64 rfl rfl (fun w' hw' => ?_) hHeld ?_
       ·first | (go_simp; done) | (obtain ⟨s0, s1, s2⟩ := hw'; go_simp; done)
       try simp only [Act.put, put1, put2, put3]
       refine tkY 21 (.bool true) 65 rfl rfl (fun w' hw' => ?_) hHeld ?_
       ·first | (go_simp; done) | (obtain ⟨s0, s1, s2⟩ := hw'; go_simp; done)
       try simp only [Act.put, put1, put2, put3]
       refine tkN 22 66 rfl rfl hHeld ?_
       try simp only [Act.put, put1, put2, put3]
       refine tkN 23 67 rfl rfl hHeld ?_
       try simp only [Act.put, put1, put2, put3]
       refine tkN 24 68 rfl rfl hHeld ?_
       try simp only [Act.put, put1, put2, put3]
       refine tkN 25 69 rfl rfl hHeld ?_
       try simp only [Act.put, put1, put2, put3]
       refine tkN 26 70 rfl rfl hHeld ?_
       try simp only [Act.put, put1, put2, put3]
       refine tkN 27 71 rfl rfl hHeld ?_
       try simp only [Act.put, put1, put2, put3]
       refine tkN 28 72 rfl rfl hHeld ?_
       try simp only [Act.put, put1, put2, put3]
       refine tkN 29 73 rfl rfl hHeld ?_
       try simp only [Act.put, put1, put2, put3]
       refine tkN 30 74 rfl rfl hHeld ?_
       try simp only [Act.put, put1, put2, put3]
       refine tkN 31 75 rfl rfl hHeld ?_
       try simp only [Act.put, put1, put2, put3]
       refine tkN 32 76 rfl rfl hHeld ?_
       try simp only [Act.put, put1, put2, put3]
       refine tkY 33 (.bool true) 77 rfl rfl (fun w' hw' => ?_) hHeld ?_
       ·first | (go_simp; done) | (obtain ⟨s0, s1, s2⟩ := hw'; go_simp; done)
       try simp only [Act.put, put1, put2, put3]
       refine tkY 34 (.bool true) 78 rfl rfl (fun w' hw' => ?_) hHeld ?_
       ·first | (go_simp; done) | (obtain ⟨s0, s1, s2⟩ := hw'; go_simp; done)
       try simp only [Act.put, put1, put2, put3]
       refine tkN 35 79 rfl rfl hHeld ?_
       try simp only [Act.put, put1, put2, put3]
       refine tkN 36 80 rfl rfl hHeld ?_
       try simp only [Act.put, put1, put2, put3]
       refine tkN 37 81 rfl rfl hHeld ?_
       try simp only [Act.put, put1, put2, put3]
       refine tkN 38 82 rfl rfl hHeld ?_
       try simp only [Act.put, put1, put2, put3]
       refine tkN 39 83 rfl rfl hHeld ?_
       try simp only [Act.put, put1, put2, put3]
       refine tkN 40 84 rfl rfl hHeld ?_
       try simp only [Act.put, put1, put2, put3]
       refine tkN 41 85 rfl rfl hHeld ?_
       try simp only [Act.put, put1, put2, put3]
       refine tkN 42 86 rfl rfl hHeld ?_
       try simp only [Act.put, put1, put2, put3]
       refine tkN 43 87 rfl rfl hHeld ?_
       try simp only [Act.put, put1, put2, put3]
       refine tkN 44 88 rfl rfl hHeld ?_
       try simp only [Act.put, put1, put2, put3]
       refine tkY 45 (.bool true) 89 rfl rfl (fun w' hw' => ?_) hHeld ?_
       ·first | (go_simp; done) | (obtain ⟨s0, s1, s2⟩ := hw'; go_simp; done)
       try simp only [Act.put, put1, put2, put3]
       refine wpAnyH_done (by kernel_rfl) ?_ _
       go_wp2
       go_ret
       exact ⟨ret_bool hv2.out.symm, (tw.step bA).drew⟩
     ·have hE : Hid (reaB p xs l = true) := by
       show _ = _
       rw [hv.out]
       have : k = l.length := by omega
       rw [← this]; exact hA.out
      go_wp2
      go_ret
      exact ⟨ret_bool hE.out.symm, tw⟩
   ·have hv : Hid (reaB p xs l = false) := by
     show _ = _
     rw [reaB_B hW]; unfold reaQ; rw [decide_eq_false hle, Bool.false_and]
    have hbn : ((l.length : Int) != (xs.length : Int)) = true := bne_iff_ne.2 (by omega)
    go_enter Tryz.func23, Tryz.ntmps23
    go_wp2_with fail
    refine (specFold_calls (Rd.mono t0 h)).mono ?_
    rintro e w1 ⟨cs1, he, o1, b1⟩
    rw [hF] at he
    rw [foldR_yes hF] at o1
    subst he
    have t1 := t0.step b1
    have l1 := Rd.one o1.rd
    obtain ⟨x0, x1, x2, x3, x4, x5, x6, x7, rfl⟩ := list8 (Rd.len o1.rd)
    have st0 := sto Tryz.prog (l1 x0 (by simp))
    have st1 := sto Tryz.prog (l1 x1 (by simp))
    have st2 := sto Tryz.prog (l1 x2 (by simp))
    have st3 := sto Tryz.prog (l1 x3 (by simp))
    have st4 := sto Tryz.prog (l1 x4 (by simp))
    have st5 := sto Tryz.prog (l1 x5 (by simp))
    have st6 := sto Tryz.prog (l1 x6 (by simp))
    have st7 := sto Tryz.prog (l1 x7 (by simp))
    have o1 := o1.alloc (.cells #[x0, x1, x2, x3, x4, x5, x6, x7] 30)
    have CX1 := Cells.new w1 [x0, x1, x2, x3, x4, x5, x6, x7] 30
    have t1 := t1.alloc t1.size (.cells #[x0, x1, x2, x3, x4, x5, x6, x7] 30)
    clear l1
    have oR := o1.rd
    obtain ⟨_, _, _, _, _, _, hl, _, g1, _⟩ := oR
    simp only [List.cons.injEq, and_true] at hl
    obtain ⟨rfl, rfl, -⟩ := hl
    obtain ⟨a1, k1, rfl, _, h1⟩ := g1.sl
    obtain ⟨y0, y1, y2, y3, y4, y5, y6, y7⟩ := cells8 CX1
    have hx1 := (hx.later t1).ints
    go_wp2_with fail
    refine (specSetOk_calls _ _ _ _ _ hx1).mono ?_
    rintro e w2 ⟨he, b2⟩
    rw [hS] at he
    subst he
    have t2 := t1.step b2
    go_wp2
    go_ret
    exact ⟨ret_bool hv.out.symm, t2⟩


end Go.Proofs.YthikhkeofcjdfaaGreat
