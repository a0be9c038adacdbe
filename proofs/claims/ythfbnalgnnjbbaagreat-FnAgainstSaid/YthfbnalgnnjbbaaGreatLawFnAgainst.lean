/-
  laws.FnAgainst returns true for all byte strings: what is told against a set holds, and nothing is told against an answer alone.
  Conditions: none (what every row of this form says by itself: the arguments can be read as data).
-/
import Derived.Test.YthfbnalgnnjbbaaGreatWhyI
import Derived.Test.YthfbnalgnnjbbaaGreatWhyU
import Derived.Test.YthfbnalgnnjbbaaGreatAnsI
import Derived.Test.YthfbnalgnnjbbaaGreatUnfA
import Derived.Test.YthfbnalgnnjbbaaGreatUnf
import Derived.Test.YthfbnalgnnjbbaaGreatDrawM
import Derived.Test.YthfbnalgnnjbbaaGreatLawsInts
import Derived.Test.YthfbnalgnnjbbaaGreatAnyW
import Derived.Deep.RegionHeld3
import Derived.BigRegion
import Derived.Test.YthfbnalgnnjbbaaGreatOpen
import Derived.Test.YthfbnalgnnjbbaaGreatRows
import Derived.WalkKit
import Derived.ProofKit
import Derived.OpenShut
import Derived.ShutString
import Derived.ChangeOld
import Derived.Below
namespace Go.Proofs.YthfbnalgnnjbbaaGreat.fnAgainst
open Go.ChangeShapes Go.WideShapes Go.ChangeAt Go.RowKit
open Go.ChangeMaps (open_string shut_string)
set_option linter.unusedVariables false
set_option linter.unusedSimpArgs false

theorem own : ownKnob Tryz.prog.godebug = none := by kernel_rfl
theorem laidOut : laidOutB Tryz.prog = true := by kernel_rfl

theorem any_ok : AnyOk := fun c N w h hN => any_calls c N w h hN

set_option maxRecDepth 100000 in
set_option maxHeartbeats 8000000 in
theorem law0 {a : Option Addr} {bs : List Int} {cap : Nat} {w : World} (h : Bytes w a bs) :
    Calls Tryz.prog 5 #[.slice a bs.length cap] w fun e w' => e = .returned (.bool true) ∧ Below w.heap.size w w' := by
  have hb1 : decide (1048576 < (bs.length : Int)) = false := decide_eq_false (by have := h.1; omega)
  go_enter Tryz.func5, Tryz.ntmps5
  go_wp2_with fail
  refine (big_calls _ _ _ _ _ hb1).mono ?_
  rintro e w' ⟨rfl, rfl⟩
  go_wp2_with fail
  refine (DrawAgainst_calls any_ok _ _ _ _ h).mono ?_
  rintro e w1 ⟨cs, p, v, xs, rfl, hp, gx, hwee, hlx, t1⟩
  have l1 := Rd.one hp
  obtain ⟨x0, x1, x2, x3, x4, x5, x6, x7, rfl⟩ := list8 (Rd.len hp)
  obtain ⟨rfl, -⟩ : x0 = .int .i64 p.atoms ∧ True := by
    obtain ⟨_, _, _, _, _, _, hl, _⟩ := hp
    simp only [List.cons.injEq, and_true] at hl
    exact ⟨hl.1, trivial⟩
  have st1 := sto Tryz.prog (l1 x1 (by simp))
  have st2 := sto Tryz.prog (l1 x2 (by simp))
  have st3 := sto Tryz.prog (l1 x3 (by simp))
  have st4 := sto Tryz.prog (l1 x4 (by simp))
  have st5 := sto Tryz.prog (l1 x5 (by simp))
  have st6 := sto Tryz.prog (l1 x6 (by simp))
  have st7 := sto Tryz.prog (l1 x7 (by simp))
  have CX := Cells.new w1 [.int .i64 p.atoms, x1, x2, x3, x4, x5, x6, x7] 30
  have tn := (Below.refl w1.heap.size w1).alloc (Nat.le_refl _) (.cells #[.int .i64 p.atoms, x1, x2, x3, x4, x5, x6, x7] 30)
  have tb := t1.alloc t1.size (.cells #[.int .i64 p.atoms, x1, x2, x3, x4, x5, x6, x7] 30)
  have hp := Rd.mono tn hp
  first | (have gx := Rd.mono (α := List Int) tn gx) | skip
  clear l1
  obtain ⟨y0, y1, y2, y3, y4, y5, y6, y7⟩ := cells8 CX
  clear h hb1 hwee
  have HC := Lib.hid (aga_cases (p := p) (xs := xs))
  have HA := Lib.hid (aga_answer (p := p) (xs := xs))
  have hll := agaL_len p xs
  go_wp2_with fail
  refine (implAgainst_calls hp gx).mono ?_
  rintro e w2 ⟨u, rfl, o2, b2⟩
  obtain ⟨pu, cu, rfl, _, _⟩ := o2.open
  have t2 := tb.step b2
  have CX := CX.later b2
  have hp := Rd.mono b2 hp
  have gx := Rd.mono (α := List Int) b2 gx
  clear y0 y1 y2 y3 y4 y5 y6 y7
  obtain ⟨y0, y1, y2, y3, y4, y5, y6, y7⟩ := cells8 (CX)
  go_wp2_with fail
  refine (specAgainst_calls hp gx).mono ?_
  rintro e w3 ⟨u3, rfl, o3, b3⟩
  obtain ⟨p3, c3, rfl, _, o3⟩ := o3.rd.sl
  have t3 := t2.step b3
  have CX := CX.later b3
  have hp := Rd.mono b3 hp
  have gx := Rd.mono (α := List Int) b3 gx
  have o2 := o2.kept b3
  clear y0 y1 y2 y3 y4 y5 y6 y7
  obtain ⟨y0, y1, y2, y3, y4, y5, y6, y7⟩ := cells8 (CX)
  generalize agaL p xs = L at *
  generalize agaN p xs = nn at *
  go_wp2_with fail
  refine (same_calls _ _ _ _ _ _ _ o2.ints o3.ints).mono ?_
  rintro e w4 ⟨he, b4⟩
  rw [eqB_self] at he
  subst he
  have t4 := t3.step b4
  have CX := CX.later b4
  have hp := Rd.mono b4 hp
  have gx := Rd.mono (α := List Int) b4 gx
  have o2 := o2.kept b4
  clear o3
  clear y0 y1 y2 y3 y4 y5 y6 y7
  obtain ⟨y0, y1, y2, y3, y4, y5, y6, y7⟩ := cells8 (CX)
  go_wp2_with fail
  refine (implAnswer_calls hp gx).mono ?_
  rintro e w5 ⟨he, b5⟩
  rw [← HA.out] at he
  subst he
  clear HA
  have t5 := t4.step b5
  have CX := CX.later b5
  have hp := Rd.mono b5 hp
  have gx := Rd.mono (α := List Int) b5 gx
  have o2 := o2.kept b5
  clear y0 y1 y2 y3 y4 y5 y6 y7
  obtain ⟨y0, y1, y2, y3, y4, y5, y6, y7⟩ := cells8 (CX)
  rcases HC.out with ⟨h1, rfl⟩ | ⟨rfl, hF, i, rfl, hi, hch, hbd, hmt⟩ | ⟨rfl, hu, hin⟩
  · clear HC
    rcases h1 with rfl | rfl
    · go_wp2
      go_ret
      exact ⟨rfl, t5⟩
    · go_wp2
      go_ret
      exact ⟨rfl, t5⟩
  · clear HC
    go_wp2_with fail
    refine (specFold_calls hp).mono ?_
    rintro e w6 ⟨cs2, he, o6, b6⟩
    rw [hF] at he
    subst he
    rw [foldR_yes hF] at o6
    have o2l := o2
    clear o2
    have o2 := o6
    obtain ⟨z0, z1, z2, z3, z4, z5, z6, z7, rfl⟩ := list8 (Rd.len o2.rd)
    obtain ⟨rfl, -⟩ : z0 = .int .i64 p.atoms ∧ True := by
      obtain ⟨_, _, _, _, _, _, hl, _⟩ := o2.rd
      simp only [List.cons.injEq, and_true] at hl
      exact ⟨hl.1, trivial⟩
    have m1 := Rd.one o2.rd
    have sz1 := sto Tryz.prog (m1 _ (List.mem_of_getElem? (i := 1) rfl))
    have sz2 := sto Tryz.prog (m1 _ (List.mem_of_getElem? (i := 2) rfl))
    have sz3 := sto Tryz.prog (m1 _ (List.mem_of_getElem? (i := 3) rfl))
    have sz4 := sto Tryz.prog (m1 _ (List.mem_of_getElem? (i := 4) rfl))
    have sz5 := sto Tryz.prog (m1 _ (List.mem_of_getElem? (i := 5) rfl))
    have sz6 := sto Tryz.prog (m1 _ (List.mem_of_getElem? (i := 6) rfl))
    have sz7 := sto Tryz.prog (m1 _ (List.mem_of_getElem? (i := 7) rfl))
    clear m1
    have CQ := Cells.new w6 [.int .i64 p.atoms, z1, z2, z3, z4, z5, z6, z7] 30
    have tq := (Below.refl w6.heap.size w6).alloc (Nat.le_refl _) (.cells #[.int .i64 p.atoms, z1, z2, z3, z4, z5, z6, z7] 30)
    have hq := Rd.mono tq o2.rd
    have bq := b6.alloc b6.size (.cells #[.int .i64 p.atoms, z1, z2, z3, z4, z5, z6, z7] 30)
    have t6 := (t5.step b6).alloc (t5.step b6).size (.cells #[.int .i64 p.atoms, z1, z2, z3, z4, z5, z6, z7] 30)
    have CX := CX.later bq
    have hp := Rd.mono bq hp
    first | (have gx := Rd.mono (α := List Int) bq gx) | skip
    clear y0 y1 y2 y3 y4 y5 y6 y7
    obtain ⟨y0, y1, y2, y3, y4, y5, y6, y7⟩ := cells8 (CX)
    obtain ⟨zz0, zz1, zz2, zz3, zz4, zz5, zz6, zz7⟩ := cells8 (CQ)
    clear tq o2
    have o2 := o2l.kept bq
    clear o2l bq o6
    have hr2 := hq
    obtain ⟨_, _, _, _, _, _, hl, _, g1, _⟩ := hr2
    simp only [List.cons.injEq, and_true] at hl
    obtain ⟨-, rfl, -⟩ := hl
    obtain ⟨a1, k1, rfl, _, g1⟩ := g1.sl
    obtain ⟨b, off, rfl, hcb⟩ := o2.ints.at (by simp)
    have hc0 := hcb 0 (by simp)
    rw [Nat.add_zero] at hc0
    replace hc0 : _ = some (Value.int .i64 (i : Int)) := hc0
    obtain ⟨br, offr, rfl, hcr⟩ := g1.base (by omega)
    obtain ⟨ecs, hC, hR⟩ := hcr i hi
    clear hcr hcb g1
    obtain ⟨d1, d4, rfl, hf, r1, r4⟩ := hR
    have hR : Rd.R _ [.bool (nth (foldD p).rules i).choice, d1, .bool (nth (foldD p).rules i).weight, .int .i64 (nth (foldD p).rules i).bound, d4] (nth (foldD p).rules i) := ⟨d1, d4, rfl, hf, r1, r4⟩
    have l4 := r4.one1
    have u0 := hC.c0
    have u1 := hC.c1
    have u2 := hC.c2
    have u3 := hC.c3
    have u4 := hC.c4
    rw [show Rd.k RuleD = 5 from rfl] at u0 u1 u2 u3 u4
    obtain ⟨ah, kh, rfl, _, hh⟩ := r1.sl
    clear hC hf r1 r4
    have hil : (i : Int) < ((foldD p).rules.length : Int) := by omega
    generalize nth (foldD p).rules i = r at *
    go_upto_region 14 with fail
    generalize w6.alloc _ = wq at *
    have lb1 : b < wq.heap.size := cell_lt hc0
    have lb2 : br < wq.heap.size := cell_lt u0
    have lb3 : w6.heap.size < wq.heap.size := cell_lt zz1
    have lb4 : w1.heap.size < wq.heap.size := cell_lt y1
    have st4 := sto Tryz.prog l4
    go_region
    have tw := ((Below.refl wq.heap.size wq).alloc (Nat.le_refl _) (.cells #[.bool false, .slice ah r.heads.length kh, .bool r.weight, .int .i64 r.bound, d4] 52)).drew
    have CR := (Cells.new wq [.bool false, .slice ah r.heads.length kh, .bool r.weight, .int .i64 r.bound, d4] 52).drew
    rw [hch] at hR
    have hR := Rd.mono tw hR
    have gx := Rd.mono (α := List Int) tw gx
    have hh := hh.later tw
    have t7 := (t6.alloc t6.size (.cells #[.bool false, .slice ah r.heads.length kh, .bool r.weight, .int .i64 r.bound, d4] 52)).drew
    clear y0 y1 y2 y3 y4 y5 y6 y7 zz0 zz1 zz2 zz3 zz4 zz5 zz6 zz7 u0 u1 u2 u3 u4 tw
    generalize (wq.alloc _).drew = ww at *
    obtain ⟨z0', z1', z2', z3', z4'⟩ := cells5 CR
    go_wp2_with fail
    refine (implBodyHolds_calls hR gx).mono ?_
    rintro e w8 ⟨he, b8⟩
    rw [hbd] at he
    subst he
    clear z0' z1' z2' z3' z4'
    obtain ⟨z0', z1', z2', z3', z4'⟩ := cells5 (CR.later b8)
    obtain ⟨ax, cx, rfl, _, hx⟩ := gx.sl
    go_wp2_with fail
    refine (implSetMeetR_calls _ _ _ _ _ _ _ (hh.later b8).ints (hx.later b8).ints).mono ?_
    rintro e w9 ⟨v9, rfl, o9, b9⟩
    obtain ⟨p9, c9, rfl, _, _⟩ := o9.open
    go_wp2
    go_ret
    exact ⟨by first | rfl | (rw [hmt]), (t7.step b8).step b9⟩
  · clear HC
    go_wp2_with fail
    refine (implIsUnfounded_calls hp gx o2.own.rd).mono ?_
    rintro e w6 ⟨he, b6⟩
    rw [hu] at he
    subst he
    have gx := Rd.mono (α := List Int) b6 gx
    have o2 := o2.kept b6
    obtain ⟨ax, cx, rfl, _, hx⟩ := gx.sl
    go_wp2_with fail
    refine (specSetIn_calls _ _ _ _ _ _ _ o2.ints hx.ints).mono ?_
    rintro e w7 ⟨he, b7⟩
    rw [hin] at he
    subst he
    go_wp2
    go_ret
    exact ⟨rfl, (t5.step b6).step b7⟩
set_option maxRecDepth 100000 in
theorem law {a : Option Addr} {len cap : Nat} {zs : List Int} {w : World} (h : IsRow .u8 w a len cap zs) :
    Calls Tryz.prog 5 #[.slice a len cap] w fun e w' => e = .returned (.bool true) ∧ Below w.heap.size w w' := by
  by_cases hbig : len ≤ 1048576
  · obtain ⟨bs, rfl, hB⟩ := isRow_bytes h hbig
    exact law0 hB
  · have hb1 : decide (1048576 < (len : Int)) = true := decide_eq_true (by omega)
    go_enter Tryz.func5, Tryz.ntmps5
    go_wp2_with fail
    refine (big_calls _ _ _ _ _ hb1).mono ?_
    rintro e w' ⟨rfl, rfl⟩
    go_wp2
    go_ret
    exact ⟨rfl, Below.refl _ _⟩

set_option maxRecDepth 100000 in
theorem lifted (os : Os) (started : os.Started) (H : Type) (enc : TypeId × Value → H) :
    ReturnsInHanded {} Tryz.checked os 5 .any (Rows.fnAgainstSpec.pre6 enc Tryz.prog Tryz.f5 Rows.fnAgainstRow.domain false) (Rows.fnAgainstSpec.post enc Tryz.prog Tryz.f5 false true false false) := by
  refine returnsInHanded_of_change (C := Tryz.checked) own started (by kernel_rfl) Tryz.func5
    (ChangeSpec.witness6 (enc := enc) (C := Tryz.checked) false ⟨#[], #[.slice none 0 0], []⟩ 8 (by kernel_rfl) (by kernel_rfl) (by kernel_rfl) (by kernel_rfl)) ?_
  intro W base args ds gs before hval0 hW hcnd _
  have hval : ∀ (j : Nat) t v, Tryz.f5.params[j]? = some t → args[j]? = some v → Value.okWide Tryz.prog W .any base t v := hval0
  have hW' := hW
  obtain ⟨p, q, hA0, hV, rfl, hfz, hnd⟩ := hW
  have hA : DataW.TrodAll enc Tryz.prog W 0 (fun _ => true) true Tryz.f5.params.toList args.toList ds p := hA0
  rw [Tryz.params5] at hA hval
  obtain ⟨v0, vs0, d0, ds0, p0, q0, hargs, rfl, rfl, h0, r0⟩ := trodAll_cons hA
  obtain ⟨rfl, rfl, rfl⟩ := trodAll_nil r0
  obtain rfl : args = #[v0] := by cases args; simp_all
  obtain ⟨rfl, rfl⟩ := trodVars_none hV
  obtain ⟨a0, len0, cap0, rfl⟩ := okWide_slice Tryz.underlying22 (hval 0 22 v0 rfl rfl)
  have k0 := h0
  have lt0 : ∀ x ∈ p0, x.block < W.heap.size := by obtain ⟨m, hm⟩ := k0; exact DataW.trod_lt m _ _ _ hm
  obtain ⟨z0, w0⟩ : ∃ zs, IsRow .u8 W a0 len0 cap0 zs := by
    obtain ⟨fuel, hf⟩ := h0
    rcases open_ints Tryz.underlying22 Tryz.underlying5 (by kernel_rfl) hf with ⟨hcs, _⟩ | ⟨x, l, c, zs, hcs, _, hl, hm, hz, _, hcell, hwz⟩
    · simp [Value.cells] at hcs
      obtain ⟨rfl, rfl, rfl⟩ := hcs
      exact ⟨[], .inl ⟨rfl, rfl, rfl, rfl⟩⟩
    · simp [Value.cells] at hcs
      obtain ⟨rfl, rfl, rfl⟩ := hcs
      exact ⟨zs, .inr ⟨_, rfl, hl, hm, by simpa using hz, hcell, hwz⟩⟩
  clear hA0 hval0
  refine (law w0).mono fun e W' ⟨he, bel⟩ => ?_
  subst he
  exact ⟨_, rfl, _, _, _, [], _, [], hW', trodAll_mk1 (shut_bool Tryz.underlying4 _), (trodAll_cons_mk (Below.trod laidOut (by kernel_rfl) (of_decide_eq_true (by kernel_rfl)) k0 bel lt0) trodAll_mk0), rfl, bel.frame _, fun h => by cases h⟩

theorem over : Rows.fnAgainstRow.holds Tryz.pinned (OpenSpec.ofChange Rows.fnAgainstSpec) :=
  OpenClaim.holds_of_wide 5 Tryz.f5 rfl rfl rfl rfl rfl rfl rfl ⟨rfl, rfl, rfl, rfl, rfl⟩ rfl rfl rfl rfl rfl (by kernel_rfl) Tryz.func5 (by kernel_rfl)
    (of_decide_eq_true (by kernel_rfl)) (by unfold Func.isWrapper; first | (rw [if_pos (by decide +kernel)]; kernel_rfl) | (rw [if_neg (by decide +kernel)]; exact ⟨rfl, rfl⟩))
    (fun os started H enc _ => lifted os started H enc)

theorem proved : Rows.FnAgainstSaid := over
end Go.Proofs.YthfbnalgnnjbbaaGreat.fnAgainst
