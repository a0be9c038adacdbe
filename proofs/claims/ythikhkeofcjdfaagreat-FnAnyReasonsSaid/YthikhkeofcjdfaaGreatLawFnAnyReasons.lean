/-
 laws.FnAnyReasons returns true for all byte strings: whatever reasons are taken for right, nothing of the set is unfounded, and if it is a model, it is an answer.
 Conditions: none (what every row of this form says by itself: the arguments can be read as data).
-/
import Derived.Test.YthikhkeofcjdfaaGreatWhyN
import Derived.Test.YthikhkeofcjdfaaGreatWhyM
import Derived.Test.YthikhkeofcjdfaaGreatAnsU
import Derived.Test.YthikhkeofcjdfaaGreatAnsJ
import Derived.Test.YthikhkeofcjdfaaGreatUnfN
import Derived.Test.YthikhkeofcjdfaaGreatDrwR
import Derived.Test.YthikhkeofcjdfaaGreatLawsInts
import Derived.Test.YthikhkeofcjdfaaGreatAnyW
import Derived.Deep.RegionHeld3
import Derived.Test.YthikhkeofcjdfaaGreatOpenB
import Derived.Test.YthikhkeofcjdfaaGreatRows
import Derived.WalkKit
import Derived.ProofKit
import Derived.OpenShut
import Derived.ShutString
import Derived.ChangeOld
import Derived.Below
namespace Go.Proofs.YthikhkeofcjdfaaGreat.fnAnyReasons
open Go.ChangeShapes Go.WideShapes Go.ChangeAt Go.RowKit
open Go.ChangeMaps (open_string shut_string)
set_option linter.unusedVariables false
set_option linter.unusedSimpArgs false

theorem own : ownKnob Tryz.prog.godebug = none := by kernel_rfl
theorem laidOut : laidOutB Tryz.prog = true := by kernel_rfl

theorem any_ok : AnyOk := fun c N w h hN => any_calls c N w h hN

set_option maxRecDepth 100000 in
set_option maxHeartbeats 8000000 in
theorem law0 {a : Option Addr} {bs : List Int} {cap : Nat} {w : World} (h : Bytes w a bs) :
  Calls Tryz.prog 4 #[.slice a bs.length cap] w fun e w' => e = .returned (.bool true) ∧ Below w.heap.size w w' := by
 have hb1 : decide (1048576 < (bs.length : Int)) = false := decide_eq_false (by have := h.1; omega)
 go_enter Tryz.func4, Tryz.ntmps4
 go_wp2_with fail
 refine (big_calls _ _ _ _ _ hb1).mono ?_
 rintro e w' ⟨rfl, rfl⟩
 go_wp2_with fail
 refine (DrawReasons_calls any_ok _ _ _ _ h).mono ?_
 rintro e w1 ⟨cs, p, v, xs, u, l, rfl, hp, gx, gl, t1⟩
 have l1 := Rd.one hp
 obtain ⟨x0, x1, x2, x3, x4, x5, x6, x7, rfl⟩ := list8 (Rd.len hp)
 obtain ⟨rfl, -⟩ : x0 = .int .i64 p.atoms ∧ True := by
  obtain ⟨_, _, _, _, _, _, hl, _⟩ := hp
  simp only [List.cons.injEq, and_true] at hl
  exact ⟨hl.1, trivial⟩
 have st1 := sto Tryz.prog (l1 x1 (by simp))
 have st2 := sto Tryz.prog (l1 x2 (by simp))
 have st3 := sto Tryz.prog (l1 x3 (by simp))
 have st4 := sto Tryz.prog (l1 x4 (by simp))
 have st5 := sto Tryz.prog (l1 x5 (by simp))
 have st6 := sto Tryz.prog (l1 x6 (by simp))
 have st7 := sto Tryz.prog (l1 x7 (by simp))
 have CX := Cells.new w1 [.int .i64 p.atoms, x1, x2, x3, x4, x5, x6, x7] 30
 have tn := (Below.refl w1.heap.size w1).alloc (Nat.le_refl _) (.cells #[.int .i64 p.atoms, x1, x2, x3, x4, x5, x6, x7] 30)
 have tb := t1.alloc t1.size (.cells #[.int .i64 p.atoms, x1, x2, x3, x4, x5, x6, x7] 30)
 have hp := Rd.mono tn hp
 first | (have gx := Rd.mono (α := List Int) tn gx) | skip
 clear l1
 obtain ⟨y0, y1, y2, y3, y4, y5, y6, y7⟩ := cells8 CX
 have gl := Rd.mono (α := List (Int × Int)) tn gl
 obtain ⟨ax, cx, rfl, _, _⟩ := gx.sl
 obtain ⟨al, cl, rfl, _, _⟩ := gl.sl
 clear h hb1
 go_wp2_with fail
 refine (implReasons_calls hp gx gl).mono ?_
 rintro e w2 ⟨rfl, b2⟩
 have t2 := tb.step b2
 have CX := CX.later b2
 have hp := Rd.mono b2 hp
 first | (have gx := Rd.mono (α := List Int) b2 gx) | skip
 clear y0 y1 y2 y3 y4 y5 y6 y7
 obtain ⟨y0, y1, y2, y3, y4, y5, y6, y7⟩ := cells8 (CX)
 have gl := Rd.mono (α := List (Int × Int)) b2 gl
 cases hR : reaB p xs l
 ·go_wp2_with fail
  refine (specReasons_calls hp gx gl).mono ?_
  rintro e w3 ⟨he, b3⟩
  rw [hR] at he
  subst he
  clear hR
  go_wp2
  go_ret
  exact ⟨rfl, t2.step b3⟩
 ·obtain ⟨hW, hu, hAM⟩ := rea_unf hR
  have hF : foldB p = true := (whyB_fold hW).1
  have hui : ((unfR p xs).length : Int) = 0 := by omega
  go_wp2_with fail
  refine (specReasons_calls hp gx gl).mono ?_
  rintro e w3 ⟨he, b3⟩
  rw [hR] at he
  subst he
  clear hR hW hu gl
  have t3 := t2.step b3
  have CX := CX.later b3
  have hp := Rd.mono b3 hp
  first | (have gx := Rd.mono (α := List Int) b3 gx) | skip
  clear y0 y1 y2 y3 y4 y5 y6 y7
  obtain ⟨y0, y1, y2, y3, y4, y5, y6, y7⟩ := cells8 (CX)
  have HAM := Lib.hid hAM
  have HUI := Lib.hid hui
  clear hAM hui
  go_wp2_with fail
  refine (specFold_calls hp).mono ?_
  rintro e w4 ⟨cs2, he, o2, b4⟩
  rw [hF] at he
  subst he
  rw [foldR_yes hF] at o2
  clear hF
  obtain ⟨z0, z1, z2, z3, z4, z5, z6, z7, rfl⟩ := list8 (Rd.len o2.rd)
  obtain ⟨rfl, -⟩ : z0 = .int .i64 p.atoms ∧ True := by
   obtain ⟨_, _, _, _, _, _, hl, _⟩ := o2.rd
   simp only [List.cons.injEq, and_true] at hl
   exact ⟨hl.1, trivial⟩
  have m1 := Rd.one o2.rd
  have sz1 := sto Tryz.prog (m1 _ (List.mem_of_getElem? (i := 1) rfl))
  have sz2 := sto Tryz.prog (m1 _ (List.mem_of_getElem? (i := 2) rfl))
  have sz3 := sto Tryz.prog (m1 _ (List.mem_of_getElem? (i := 3) rfl))
  have sz4 := sto Tryz.prog (m1 _ (List.mem_of_getElem? (i := 4) rfl))
  have sz5 := sto Tryz.prog (m1 _ (List.mem_of_getElem? (i := 5) rfl))
  have sz6 := sto Tryz.prog (m1 _ (List.mem_of_getElem? (i := 6) rfl))
  have sz7 := sto Tryz.prog (m1 _ (List.mem_of_getElem? (i := 7) rfl))
  clear m1
  have CQ := Cells.new w4 [.int .i64 p.atoms, z1, z2, z3, z4, z5, z6, z7] 30
  have tq := (Below.refl w4.heap.size w4).alloc (Nat.le_refl _) (.cells #[.int .i64 p.atoms, z1, z2, z3, z4, z5, z6, z7] 30)
  have hq := Rd.mono tq o2.rd
  have bq := b4.alloc b4.size (.cells #[.int .i64 p.atoms, z1, z2, z3, z4, z5, z6, z7] 30)
  have t4 := (t3.step b4).alloc (t3.step b4).size (.cells #[.int .i64 p.atoms, z1, z2, z3, z4, z5, z6, z7] 30)
  have CX := CX.later bq
  have hp := Rd.mono bq hp
  first | (have gx := Rd.mono (α := List Int) bq gx) | skip
  clear y0 y1 y2 y3 y4 y5 y6 y7
  obtain ⟨y0, y1, y2, y3, y4, y5, y6, y7⟩ := cells8 (CX)
  obtain ⟨zz0, zz1, zz2, zz3, zz4, zz5, zz6, zz7⟩ := cells8 (CQ)
  clear tq o2
  go_wp2_with fail
  refine (implUnfounded_calls hp gx).mono ?_
  rintro e w5 ⟨uu, rfl, ou, b5⟩
  obtain ⟨au, nu, rfl, _, _⟩ := ou.open
  have hui := HUI.out
  have t5 := t4.step b5
  have CX := CX.later b5
  have hp := Rd.mono b5 hp
  first | (have gx := Rd.mono (α := List Int) b5 gx) | skip
  clear y0 y1 y2 y3 y4 y5 y6 y7
  obtain ⟨y0, y1, y2, y3, y4, y5, y6, y7⟩ := cells8 (CX)
  have CQ := CQ.later b5
  have hq := Rd.mono b5 hq
  clear zz0 zz1 zz2 zz3 zz4 zz5 zz6 zz7
  obtain ⟨zz0, zz1, zz2, zz3, zz4, zz5, zz6, zz7⟩ := cells8 (CQ)
  clear ou
  go_wp2_with fail
  refine (implModel_calls hq gx).mono ?_
  rintro e w6 ⟨rfl, b6⟩
  have t6 := t5.step b6
  have CX := CX.later b6
  have hp := Rd.mono b6 hp
  first | (have gx := Rd.mono (α := List Int) b6 gx) | skip
  clear y0 y1 y2 y3 y4 y5 y6 y7
  obtain ⟨y0, y1, y2, y3, y4, y5, y6, y7⟩ := cells8 (CX)
  cases hm : modelB (foldD p) xs
  ·clear hm
   go_wp2
   go_ret
   exact ⟨rfl, t6⟩
  ·have hA : Hid (answerR p xs = true) := HAM.out.trans hm
   clear hm
   go_wp2_with fail
   refine (implAnswer_calls hp gx).mono ?_
   rintro e w7 ⟨he, b7⟩
   rw [hA.out] at he
   subst he
   go_wp2
   go_ret
   exact ⟨rfl, t6.step b7⟩
set_option maxRecDepth 100000 in
theorem law {a : Option Addr} {len cap : Nat} {zs : List Int} {w : World} (h : IsRow .u8 w a len cap zs) :
  Calls Tryz.prog 4 #[.slice a len cap] w fun e w' => e = .returned (.bool true) ∧ Below w.heap.size w w' := by
 by_cases hbig : len ≤ 1048576
 ·obtain ⟨bs, rfl, hB⟩ := isRow_bytes h hbig
  exact law0 hB
 ·have hb1 : decide (1048576 < (len : Int)) = true := decide_eq_true (by omega)
  go_enter Tryz.func4, Tryz.ntmps4
  go_wp2_with fail
  refine (big_calls _ _ _ _ _ hb1).mono ?_
  rintro e w' ⟨rfl, rfl⟩
  go_wp2
  go_ret
  exact ⟨rfl, Below.refl _ _⟩

set_option maxRecDepth 100000 in
theorem lifted (os : Os) (started : os.Started) (H : Type) (enc : TypeId × Value → H) :
  ReturnsInHanded {} Tryz.checked os 4 .any (Rows.fnAnyReasonsSpec.pre6 enc Tryz.prog Tryz.f4 Rows.fnAnyReasonsRow.domain false) (Rows.fnAnyReasonsSpec.post enc Tryz.prog Tryz.f4 false true false false) := by
 refine returnsInHanded_of_change (C := Tryz.checked) own started (by kernel_rfl) Tryz.func4
  (ChangeSpec.witness6 (enc := enc) (C := Tryz.checked) false ⟨#[], #[.slice none 0 0], []⟩ 8 (by kernel_rfl) (by kernel_rfl) (by kernel_rfl) (by kernel_rfl)) ?_
 intro W base args ds gs before hval0 hW hcnd _
 have hval : ∀ (j : Nat) t v, Tryz.f4.params[j]? = some t → args[j]? = some v → Value.okWide Tryz.prog W .any base t v := hval0
 have hW' := hW
 obtain ⟨p, q, hA0, hV, rfl, hfz, hnd⟩ := hW
 have hA : DataW.TrodAll enc Tryz.prog W 0 (fun _ => true) true Tryz.f4.params.toList args.toList ds p := hA0
 rw [Tryz.params4] at hA hval
 obtain ⟨v0, vs0, d0, ds0, p0, q0, hargs, rfl, rfl, h0, r0⟩ := trodAll_cons hA
 obtain ⟨rfl, rfl, rfl⟩ := trodAll_nil r0
 obtain rfl : args = #[v0] := by cases args; simp_all
 obtain ⟨rfl, rfl⟩ := trodVars_none hV
 obtain ⟨a0, len0, cap0, rfl⟩ := okWide_slice Tryz.underlying22 (hval 0 22 v0 rfl rfl)
 have k0 := h0
 have lt0 : ∀ x ∈ p0, x.block < W.heap.size := by obtain ⟨m, hm⟩ := k0; exact DataW.trod_lt m _ _ _ hm
 obtain ⟨z0, w0⟩ : ∃ zs, IsRow .u8 W a0 len0 cap0 zs := by
  obtain ⟨fuel, hf⟩ := h0
  rcases open_ints Tryz.underlying22 Tryz.underlying5 (by kernel_rfl) hf with ⟨hcs, _⟩ | ⟨x, l, c, zs, hcs, _, hl, hm, hz, _, hcell, hwz⟩
  ·simp [Value.cells] at hcs
   obtain ⟨rfl, rfl, rfl⟩ := hcs
   exact ⟨[], .inl ⟨rfl, rfl, rfl, rfl⟩⟩
  ·simp [Value.cells] at hcs
   obtain ⟨rfl, rfl, rfl⟩ := hcs
   exact ⟨zs, .inr ⟨_, rfl, hl, hm, by simpa using hz, hcell, hwz⟩⟩
 clear hA0 hval0
 refine (law w0).mono fun e W' ⟨he, bel⟩ => ?_
 subst he
 exact ⟨_, rfl, _, _, _, [], _, [], hW', trodAll_mk1 (shut_bool Tryz.underlying4 _), (trodAll_cons_mk (Below.trod laidOut (by kernel_rfl) (of_decide_eq_true (by kernel_rfl)) k0 bel lt0) trodAll_mk0), rfl, bel.frame _, fun h => by cases h⟩

theorem over : Rows.fnAnyReasonsRow.holds Tryz.pinned (OpenSpec.ofChange Rows.fnAnyReasonsSpec) :=
 OpenClaim.holds_of_wide 4 Tryz.f4 rfl rfl rfl rfl rfl rfl rfl ⟨rfl, rfl, rfl, rfl, rfl⟩ rfl rfl rfl rfl rfl (by kernel_rfl) Tryz.func4 (by kernel_rfl)
  (of_decide_eq_true (by kernel_rfl)) (by unfold Func.isWrapper; first | (rw [if_pos (by decide +kernel)]; kernel_rfl) | (rw [if_neg (by decide +kernel)]; exact ⟨rfl, rfl⟩))
  (fun os started H enc _ => lifted os started H enc)

theorem proved : Rows.FnAnyReasonsSaid := over
end Go.Proofs.YthikhkeofcjdfaaGreat.fnAnyReasons
