/-
  laws.FnClosed returns true for all byte strings: what is closed splits the program, and is the least such set with what it was made of.
  Conditions: none (what every row of this form says by itself: the arguments can be read as data).
-/
import Derived.Test.YtjainjpcpnoikaaSplA
import Derived.Test.YtjainjpcpnoikaaSplS
import Derived.Test.YtjainjpcpnoikaaSplF
import Derived.Test.YtjainjpcpnoikaaDrawN
import Derived.Test.YtjainjpcpnoikaaAnyW
import Derived.Test.YtjainjpcpnoikaaLawsInts
import Derived.Deep.RegionHeld3
import Derived.Test.YtjainjpcpnoikaaOpen
import Derived.Test.YtjainjpcpnoikaaRows
import Derived.WalkKit
import Derived.ProofKit
import Derived.OpenShut
import Derived.ShutString
import Derived.ChangeOld
import Derived.Below
namespace Go.Proofs.Ytjainjpcpnoikaa.fnClosed
open Go.ChangeShapes Go.WideShapes Go.ChangeAt Go.RowKit
open Go.ChangeMaps (open_string shut_string)
set_option linter.unusedVariables false
set_option linter.unusedSimpArgs false

theorem own : ownKnob Try.prog.godebug = none := by kernel_rfl
theorem laidOut : laidOutB Try.prog = true := by kernel_rfl

theorem any_ok : AnyOk := fun c N w h hN => any_calls c N w h hN

theorem folds_calls {cs : List Value} {p : ProgD} {w : World} (h : Rd.R w cs p) :
    Calls Try.prog 19 #[.agg cs.toArray] w fun e w' => e = .returned (.bool (foldB p)) ∧ Below w.heap.size w w' := by
  obtain ⟨p0, p1, p2, p3, p4, p5, p6, p7, rfl⟩ := list8 (Rd.len h)
  have t0 : Below w.heap.size w (w.alloc (.cells #[p0, p1, p2, p3, p4, p5, p6, p7] 36)) := (Below.refl _ _).alloc (by simp) _
  go_enter Try.func19, Try.ntmps19
  go_wp2_with fail
  refine (specFold_calls (Rd.mono t0 h)).mono ?_
  rintro e w1 ⟨cs1, rfl, o1, b1⟩
  have l1 := Rd.one o1.rd
  obtain ⟨x0, x1, x2, x3, x4, x5, x6, x7, rfl⟩ := list8 (Rd.len o1.rd)
  have st0 := sto Try.prog (l1 x0 (by simp))
  have st1 := sto Try.prog (l1 x1 (by simp))
  have st2 := sto Try.prog (l1 x2 (by simp))
  have st3 := sto Try.prog (l1 x3 (by simp))
  have st4 := sto Try.prog (l1 x4 (by simp))
  have st5 := sto Try.prog (l1 x5 (by simp))
  have st6 := sto Try.prog (l1 x6 (by simp))
  have st7 := sto Try.prog (l1 x7 (by simp))
  have t1 := t0.step b1
  go_wp2
  go_ret
  exact ⟨rfl, by first | exact t1 | exact t1.alloc t1.size _⟩

set_option maxRecDepth 100000 in
set_option maxHeartbeats 8000000 in
theorem law0 {a : Option Addr} {bs : List Int} {cap : Nat} {w : World} (h : Bytes w a bs) :
    Calls Try.prog 4 #[.slice a bs.length cap] w fun e w' => e = .returned (.bool true) ∧ Below w.heap.size w w' := by
  have hb1 : decide (1048576 < (bs.length : Int)) = false := decide_eq_false (by have := h.1; omega)
  go_enter Try.func4, Try.ntmps4
  go_wp2_with fail
  refine (big_calls _ _ _ _ _ hb1).mono ?_
  rintro e w' ⟨rfl, rfl⟩
  go_wp2_with fail
  refine (DrawClosure_calls any_ok _ _ _ _ h).mono ?_
  rintro e w1 ⟨cs, p, v, xs, rfl, hp, gx, hwee, hlx, t1⟩
  have l1 := Rd.one hp
  obtain ⟨x0, x1, x2, x3, x4, x5, x6, x7, rfl⟩ := list8 (Rd.len hp)
  obtain ⟨rfl, -⟩ : x0 = .int .i64 p.atoms ∧ True := by
    obtain ⟨_, _, _, _, _, _, hl, _⟩ := hp
    simp only [List.cons.injEq, and_true] at hl
    exact ⟨hl.1, trivial⟩
  have st1 := sto Try.prog (l1 x1 (by simp))
  have st2 := sto Try.prog (l1 x2 (by simp))
  have st3 := sto Try.prog (l1 x3 (by simp))
  have st4 := sto Try.prog (l1 x4 (by simp))
  have st5 := sto Try.prog (l1 x5 (by simp))
  have st6 := sto Try.prog (l1 x6 (by simp))
  have st7 := sto Try.prog (l1 x7 (by simp))
  have CX := Cells.new w1 [.int .i64 p.atoms, x1, x2, x3, x4, x5, x6, x7] 36
  have tn := (Below.refl w1.heap.size w1).alloc (Nat.le_refl _) (.cells #[.int .i64 p.atoms, x1, x2, x3, x4, x5, x6, x7] 36)
  have tb := t1.alloc t1.size (.cells #[.int .i64 p.atoms, x1, x2, x3, x4, x5, x6, x7] 36)
  have hp := Rd.mono tn hp
  have gx := Rd.mono (α := List Int) tn gx
  clear l1
  obtain ⟨y0, y1, y2, y3, y4, y5, y6, y7⟩ := cells8 CX
  clear h hb1 hwee
  go_wp2_with fail
  refine (implClosure_calls hp gx).mono ?_
  rintro e w2 ⟨u, rfl, o2, b2⟩
  obtain ⟨pu, cu, rfl, _, _⟩ := o2.open
  have t2 := tb.step b2
  have CX := CX.later b2
  have hp := Rd.mono b2 hp
  have gx := Rd.mono (α := List Int) b2 gx
  clear y0 y1 y2 y3 y4 y5 y6 y7
  obtain ⟨y0, y1, y2, y3, y4, y5, y6, y7⟩ := cells8 (CX)
  go_wp2_with fail
  refine (specClosure_calls hp gx).mono ?_
  rintro e w3 ⟨u3, rfl, o3, b3⟩
  obtain ⟨p3, c3, rfl, _, _⟩ := o3.open
  have t3 := t2.step b3
  have CX := CX.later b3
  have hp := Rd.mono b3 hp
  have gx := Rd.mono (α := List Int) b3 gx
  have o2 := o2.kept b3
  clear y0 y1 y2 y3 y4 y5 y6 y7
  obtain ⟨y0, y1, y2, y3, y4, y5, y6, y7⟩ := cells8 (CX)
  have hlen : (clsR p xs).length ≤ 12 := by
    unfold clsR
    split
    · exact mset_len12 _
    · simp
  go_wp2_with fail
  refine (same_calls _ _ _ _ _ _ _ o2.ints o3.ints).mono ?_
  rintro e w4 ⟨he, b4⟩
  rw [eqB_self] at he
  subst he
  have t4 := t3.step b4
  have CX := CX.later b4
  have hp := Rd.mono b4 hp
  have gx := Rd.mono (α := List Int) b4 gx
  have o2 := o2.kept b4
  clear o3
  clear y0 y1 y2 y3 y4 y5 y6 y7
  obtain ⟨y0, y1, y2, y3, y4, y5, y6, y7⟩ := cells8 (CX)
  cases hF : foldB p
  · have hz : (((clsR p xs).length : Int) == 0) = true := by rw [clsR_no hF]; rfl
    have hz0 : ((clsR p xs).length : Int) = 0 := by rw [clsR_no hF]; rfl
    go_wp2_with fail
    refine (folds_calls hp).mono ?_
    rintro e w5 ⟨he, b5⟩
    rw [hF] at he
    subst he
    go_wp2
    go_ret
    exact ⟨rfl, t4.step b5⟩
  · have hok : progOkB (foldD p) = true := foldR_ok hF
    obtain ⟨ha0, ha1⟩ := progOk_atoms hok
    obtain ⟨n, hn⟩ := Int.eq_ofNat_of_zero_le ha0
    have hn12 : n ≤ 12 := by omega
    have hpa : p.atoms = (n : Int) := hn
    have hsh := shl_oneS hn12
    have hpw := pow12S hn12
    rw [Int.toNat_natCast] at hsh
    have hML : pickTo (pickM xs (setOfS ((2 ^ n : Nat) - 1 : Int))) 12 = mset (withM n xs) := by rw [← meet_same, up_mask hn12]; rfl
    have hML := Lib.hid hML
    obtain ⟨P, hP⟩ : ∃ P : Nat, P = 2 ^ n := ⟨_, rfl⟩
    rw [← hP] at hsh hpw hML
    clear hP
    have H1 := Lib.hid (cls_split (xs := xs) hF hn hn12)
    have H2 := Lib.hid (cls_has (xs := xs) hF hn)
    have H3 := Lib.hid (cls_twice (xs := xs) hF hn hn12)
    have H4 := Lib.hid (fun a (ha : a ∈ clsR p xs) hw => cls_least hF hn ha hw)
    rw [hpa] at hp CX y0 ⊢
    clear ha0 ha1 hok hn hpa
    go_wp2_with fail
    refine (folds_calls hp).mono ?_
    rintro e w5 ⟨he, b5⟩
    rw [hF] at he
    subst he
    have t5 := t4.step b5
    have CX := CX.later b5
    have hp := Rd.mono b5 hp
    have gx := Rd.mono (α := List Int) b5 gx
    have o2 := o2.kept b5
    clear y0 y1 y2 y3 y4 y5 y6 y7
    obtain ⟨y0, y1, y2, y3, y4, y5, y6, y7⟩ := cells8 (CX)
    go_wp2_with fail
    refine (specSetOf_calls _ _).mono ?_
    rintro e w6 ⟨v6, rfl, o6, b6⟩
    obtain ⟨p6, c6, rfl, _, _⟩ := o6.open
    have t6 := t5.step b6
    have CX := CX.later b6
    have hp := Rd.mono b6 hp
    have gx := Rd.mono (α := List Int) b6 gx
    have o2 := o2.kept b6
    obtain ⟨ax, cx, rfl, _, hx⟩ := gx.sl
    clear y0 y1 y2 y3 y4 y5 y6 y7
    obtain ⟨y0, y1, y2, y3, y4, y5, y6, y7⟩ := cells8 (CX)
    go_wp2_with fail
    refine (specSetMeet_calls _ _ _ _ _ _ _ hx.ints o6.ints).mono ?_
    rintro e w7 ⟨v7, rfl, o7, b7⟩
    rw [hML.out] at o7
    obtain ⟨p7, c7, rfl, _, _⟩ := o7.open
    have t7 := t6.step b7
    have CX := CX.later b7
    have hp := Rd.mono b7 hp
    have o2 := o2.kept b7
    clear o6 hx gx hML
    clear y0 y1 y2 y3 y4 y5 y6 y7
    obtain ⟨y0, y1, y2, y3, y4, y5, y6, y7⟩ := cells8 (CX)
    generalize hWe : mset (withM n xs) = Wl at *
    replace hWe := Lib.hid hWe
    generalize hUe : clsR p xs = U at *
    replace hUe := Lib.hid hUe
    go_wp2_with fail
    refine (implIsSplit_calls hp o2.own.rd).mono ?_
    rintro e w8 ⟨he, b8⟩
    rw [H1.out] at he
    subst he
    have t8 := t7.step b8
    have CX := CX.later b8
    have hp := Rd.mono b8 hp
    have o2 := o2.kept b8
    have o7 := o7.kept b8
    clear y0 y1 y2 y3 y4 y5 y6 y7
    obtain ⟨y0, y1, y2, y3, y4, y5, y6, y7⟩ := cells8 (CX)
    have h2b : (((pickTo (pickL Wl U) 12).length : Int) == 0) = true := beq_iff_eq.2 H2.out
    go_wp2_with fail
    refine (specSetIn_calls _ _ _ _ _ _ _ o7.ints o2.ints).mono ?_
    rintro e w9 ⟨he, b9⟩
    rw [h2b] at he
    subst he
    have t9 := t8.step b9
    have CX := CX.later b9
    have hp := Rd.mono b9 hp
    have o2 := o2.kept b9
    have o7 := o7.kept b9
    clear y0 y1 y2 y3 y4 y5 y6 y7
    obtain ⟨y0, y1, y2, y3, y4, y5, y6, y7⟩ := cells8 (CX)
    clear h2b
    go_wp2_with fail
    refine (implClosure_calls hp o2.own.rd).mono ?_
    rintro e w10 ⟨v10, rfl, o10, b10⟩
    rw [H3.out] at o10
    obtain ⟨p10, c10, rfl, _, _⟩ := o10.open
    have t10 := t9.step b10
    have CX := CX.later b10
    have hp := Rd.mono b10 hp
    have o2 := o2.kept b10
    have o7 := o7.kept b10
    clear y0 y1 y2 y3 y4 y5 y6 y7
    obtain ⟨y0, y1, y2, y3, y4, y5, y6, y7⟩ := cells8 (CX)
    go_wp2_with fail
    refine (same_calls _ _ _ _ _ _ _ o10.ints o2.ints).mono ?_
    rintro e w11 ⟨he, b11⟩
    rw [eqB_self] at he
    subst he
    have t11 := t10.step b11
    have CX := CX.later b11
    have hp := Rd.mono b11 hp
    have o2 := o2.kept b11
    have o7 := o7.kept b11
    clear o10 H1 H2 H3 y0 y1 y2 y3 y4 y5 y6 y7
    have hul : U.length ≤ 12 := hlen
    go_wp2
    go_loopw [7] (fun i wr => ∃ k : Nat, k ≤ U.length ∧ i = .int .i64 (k : Int) ∧ Below w11.heap.size w11 wr) (fun i _ => U.length - (intOf i).toNat)
    case atStart => exact ⟨0, Nat.zero_le _, rfl, Below.refl _ _⟩
    case round =>
      obtain ⟨k, hk, rfl, hb⟩ := hrel
      have CX := CX.later hb
      have hp := Rd.mono hb hp
      have o2 := o2.kept hb
      have o7 := o7.kept hb
      obtain ⟨y0, y1, y2, y3, y4, y5, y6, y7⟩ := cells8 CX
      by_cases hlt : k < U.length
      · obtain ⟨b, off, rfl, hcb⟩ := o2.ints.at (by omega)
        have hck := hcb k hlt
        have hme : el U k ∈ U := el_mem hlt
        have hfe : Fits (el U k) := o2.ints.2.1 _ hme
        have HL := Lib.hid (H4.out _ hme)
        have ta := (Below.refl wr.heap.size wr).alloc (Nat.le_refl _) (.cells #[.int .i64 (el U k)] 3)
        have o2 := o2.kept ta
        have o7 := o7.kept ta
        have hp := Rd.mono ta hp
        have CX := CX.later ta
        clear hcb
        go_wp2_with fail
        refine (specSetLess_calls _ _ _ _ _ _ _ o2.ints (one_ints wr hfe)).mono ?_
        rintro e w12 ⟨v12, rfl, o12, b12⟩
        obtain ⟨p12, c12, rfl, _, _⟩ := o12.open
        have hb12 := (hb.trans (ta.mono hb.size)).step b12
        have CX := CX.later b12
        have hp := Rd.mono b12 hp
        have o7 := o7.kept b12
        clear y0 y1 y2 y3 y4 y5 y6 y7
        obtain ⟨y0, y1, y2, y3, y4, y5, y6, y7⟩ := cells8 (CX)
        generalize hVe : pickTo (pickL U [el U k]) 12 = Vl at *
        cases hin : (((pickTo (pickL Wl Vl) 12).length : Int) == 0)
        · go_wp2_with fail
          refine (specSetIn_calls _ _ _ _ _ _ _ o7.ints o12.ints).mono ?_
          rintro e w13 ⟨he, b13⟩
          rw [hin] at he
          subst he
          go_wp2
          go_roundw
          case rel => exact ⟨k + 1, by omega, by go_num, hb12.step b13⟩
          case measure => simp [intOf]; omega
        · have hsp : splB p Vl = false := HL.out (beq_iff_eq.1 hin)
          go_wp2_with fail
          refine (specSetIn_calls _ _ _ _ _ _ _ o7.ints o12.ints).mono ?_
          rintro e w13 ⟨he, b13⟩
          rw [hin] at he
          subst he
          have CX := CX.later b13
          have hp := Rd.mono b13 hp
          have o12 := o12.kept b13
          clear y0 y1 y2 y3 y4 y5 y6 y7
          obtain ⟨y0, y1, y2, y3, y4, y5, y6, y7⟩ := cells8 (CX)
          go_wp2_with fail
          refine (implIsSplit_calls hp o12.own.rd).mono ?_
          rintro e w14 ⟨he, b14⟩
          rw [hsp] at he
          subst he
          go_wp2
          go_roundw
          case rel => exact ⟨k + 1, by omega, by go_num, (hb12.step b13).step b14⟩
          case measure => simp [intOf]; omega
      · go_wp2
        go_ret
        exact ⟨rfl, t11.step hb⟩
set_option maxRecDepth 100000 in
theorem law {a : Option Addr} {len cap : Nat} {zs : List Int} {w : World} (h : IsRow .u8 w a len cap zs) :
    Calls Try.prog 4 #[.slice a len cap] w fun e w' => e = .returned (.bool true) ∧ Below w.heap.size w w' := by
  by_cases hbig : len ≤ 1048576
  · obtain ⟨bs, rfl, hB⟩ := isRow_bytes h hbig
    exact law0 hB
  · have hb1 : decide (1048576 < (len : Int)) = true := decide_eq_true (by omega)
    go_enter Try.func4, Try.ntmps4
    go_wp2_with fail
    refine (big_calls _ _ _ _ _ hb1).mono ?_
    rintro e w' ⟨rfl, rfl⟩
    go_wp2
    go_ret
    exact ⟨rfl, Below.refl _ _⟩

set_option maxRecDepth 100000 in
theorem lifted (os : Os) (started : os.Started) (H : Type) (enc : TypeId × Value → H) :
    ReturnsInHanded {} Try.checked os 4 .any (Rows.fnClosedSpec.pre6 enc Try.prog Try.f4 Rows.fnClosedRow.domain false) (Rows.fnClosedSpec.post enc Try.prog Try.f4 false true false false) := by
  refine returnsInHanded_of_change (C := Try.checked) own started (by kernel_rfl) Try.func4
    (ChangeSpec.witness6 (enc := enc) (C := Try.checked) false ⟨#[], #[.slice none 0 0], []⟩ 8 (by kernel_rfl) (by kernel_rfl) (by kernel_rfl) (by kernel_rfl)) ?_
  intro W base args ds gs before hval0 hW hcnd _
  have hval : ∀ (j : Nat) t v, Try.f4.params[j]? = some t → args[j]? = some v → Value.okWide Try.prog W .any base t v := hval0
  have hW' := hW
  obtain ⟨p, q, hA0, hV, rfl, hfz, hnd⟩ := hW
  have hA : DataW.TrodAll enc Try.prog W 0 (fun _ => true) true Try.f4.params.toList args.toList ds p := hA0
  rw [Try.params4] at hA hval
  obtain ⟨v0, vs0, d0, ds0, p0, q0, hargs, rfl, rfl, h0, r0⟩ := trodAll_cons hA
  obtain ⟨rfl, rfl, rfl⟩ := trodAll_nil r0
  obtain rfl : args = #[v0] := by cases args; simp_all
  obtain ⟨rfl, rfl⟩ := trodVars_none hV
  obtain ⟨a0, len0, cap0, rfl⟩ := okWide_slice Try.underlying42 (hval 0 42 v0 rfl rfl)
  have k0 := h0
  have lt0 : ∀ x ∈ p0, x.block < W.heap.size := by obtain ⟨m, hm⟩ := k0; exact DataW.trod_lt m _ _ _ hm
  obtain ⟨z0, w0⟩ : ∃ zs, IsRow .u8 W a0 len0 cap0 zs := by
    obtain ⟨fuel, hf⟩ := h0
    rcases open_ints Try.underlying42 Try.underlying5 (by kernel_rfl) hf with ⟨hcs, _⟩ | ⟨x, l, c, zs, hcs, _, hl, hm, hz, _, hcell, hwz⟩
    · simp [Value.cells] at hcs
      obtain ⟨rfl, rfl, rfl⟩ := hcs
      exact ⟨[], .inl ⟨rfl, rfl, rfl, rfl⟩⟩
    · simp [Value.cells] at hcs
      obtain ⟨rfl, rfl, rfl⟩ := hcs
      exact ⟨zs, .inr ⟨_, rfl, hl, hm, by simpa using hz, hcell, hwz⟩⟩
  clear hA0 hval0
  refine (law w0).mono fun e W' ⟨he, bel⟩ => ?_
  subst he
  exact ⟨_, rfl, _, _, _, [], _, [], hW', trodAll_mk1 (shut_bool Try.underlying4 _), (trodAll_cons_mk (Below.trod laidOut (by kernel_rfl) (of_decide_eq_true (by kernel_rfl)) k0 bel lt0) trodAll_mk0), rfl, bel.frame _, fun h => by cases h⟩

theorem over : Rows.fnClosedRow.holds Try.pinned (OpenSpec.ofChange Rows.fnClosedSpec) :=
  OpenClaim.holds_of_wide 4 Try.f4 rfl rfl rfl rfl rfl rfl rfl ⟨rfl, rfl, rfl, rfl, rfl⟩ rfl rfl rfl rfl rfl (by kernel_rfl) Try.func4 (by kernel_rfl)
    (of_decide_eq_true (by kernel_rfl)) (by unfold Func.isWrapper; first | (rw [if_pos (by decide +kernel)]; kernel_rfl) | (rw [if_neg (by decide +kernel)]; exact ⟨rfl, rfl⟩))
    (fun os started H enc _ => lifted os started H enc)

theorem proved : Rows.FnClosedSaid := over
end Go.Proofs.Ytjainjpcpnoikaa.fnClosed
