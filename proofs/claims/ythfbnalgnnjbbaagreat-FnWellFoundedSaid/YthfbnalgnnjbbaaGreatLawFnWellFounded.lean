/-
  laws.FnWellFounded returns true for all byte strings: what is well-founded is in each answer, what may not be is in none; where all is settled there is no other answer.
  Conditions: none (what every row of this form says by itself: the arguments can be read as data).
-/
import Derived.Test.YthfbnalgnnjbbaaGreatCutA
import Derived.Test.YthfbnalgnnjbbaaGreatAnsU
import Derived.Test.YthfbnalgnnjbbaaGreatDrawM
import Derived.Test.YthfbnalgnnjbbaaGreatLawsInts
import Derived.Test.YthfbnalgnnjbbaaGreatPlainM
import Derived.Test.YthfbnalgnnjbbaaGreatAnyW
import Derived.Deep.RegionHeld3
import Derived.Test.YthfbnalgnnjbbaaGreatOpen
import Derived.Test.YthfbnalgnnjbbaaGreatRows
import Derived.WalkKit
import Derived.ProofKit
import Derived.OpenShut
import Derived.ShutString
import Derived.ChangeOld
import Derived.Below
namespace Go.Proofs.YthfbnalgnnjbbaaGreat.fnWellFounded
open Go.ChangeShapes Go.WideShapes Go.ChangeAt Go.RowKit
open Go.ChangeMaps (open_string shut_string)
set_option linter.unusedVariables false
set_option linter.unusedSimpArgs false

theorem own : ownKnob Tryz.prog.godebug = none := by kernel_rfl
theorem laidOut : laidOutB Tryz.prog = true := by kernel_rfl

theorem any_ok : AnyOk := fun c N w h hN => any_calls c N w h hN
theorem plain_ok : PlainOk := fun c N w h hN => plainProg_calls any_ok c N w h hN

set_option maxRecDepth 100000 in
set_option maxHeartbeats 8000000 in
theorem law0 {a : Option Addr} {bs : List Int} {cap : Nat} {w : World} (h : Bytes w a bs) :
    Calls Tryz.prog 8 #[.slice a bs.length cap] w fun e w' => e = .returned (.bool true) ∧ Below w.heap.size w w' := by
  have hb1 : decide (1048576 < (bs.length : Int)) = false := decide_eq_false (by have := h.1; omega)
  go_enter Tryz.func8, Tryz.ntmps8
  go_wp2_with fail
  refine (big_calls _ _ _ _ _ hb1).mono ?_
  rintro e w' ⟨rfl, rfl⟩
  go_wp2_with fail
  refine (DrawWellFounded_calls plain_ok h).mono ?_
  rintro e w1 ⟨cs, p, rfl, hp, t1⟩
  have l1 := Rd.one hp
  obtain ⟨x0, x1, x2, x3, x4, x5, x6, x7, rfl⟩ := list8 (Rd.len hp)
  obtain ⟨rfl, -⟩ : x0 = .int .i64 p.atoms ∧ True := by
    obtain ⟨_, _, _, _, _, _, hl, _⟩ := hp
    simp only [List.cons.injEq, and_true] at hl
    exact ⟨hl.1, trivial⟩
  have st1 := sto Tryz.prog (l1 x1 (by simp))
  have st2 := sto Tryz.prog (l1 x2 (by simp))
  have st3 := sto Tryz.prog (l1 x3 (by simp))
  have st4 := sto Tryz.prog (l1 x4 (by simp))
  have st5 := sto Tryz.prog (l1 x5 (by simp))
  have st6 := sto Tryz.prog (l1 x6 (by simp))
  have st7 := sto Tryz.prog (l1 x7 (by simp))
  have CX := Cells.new w1 [.int .i64 p.atoms, x1, x2, x3, x4, x5, x6, x7] 30
  have tn := (Below.refl w1.heap.size w1).alloc (Nat.le_refl _) (.cells #[.int .i64 p.atoms, x1, x2, x3, x4, x5, x6, x7] 30)
  have tb := t1.alloc t1.size (.cells #[.int .i64 p.atoms, x1, x2, x3, x4, x5, x6, x7] 30)
  have hp := Rd.mono tn hp
  first | (have gx := Rd.mono (α := List Int) tn gx) | skip
  clear l1
  obtain ⟨y0, y1, y2, y3, y4, y5, y6, y7⟩ := cells8 CX
  clear h hb1
  go_wp2_with fail
  refine (implWellFounded_calls hp).mono ?_
  rintro e w2 ⟨u1, u2, M, rfl, o1, o2, hM, b2⟩
  obtain ⟨a1, c1, rfl, _, g1⟩ := o1.rd.sl
  obtain ⟨a2, c2, rfl, _, g2⟩ := o2.rd.sl
  clear o1 o2
  have t2 := tb.step b2
  have CX := CX.later b2
  have hp := Rd.mono b2 hp
  first | (have gx := Rd.mono (α := List Int) b2 gx) | skip
  clear y0 y1 y2 y3 y4 y5 y6 y7
  obtain ⟨y0, y1, y2, y3, y4, y5, y6, y7⟩ := cells8 (CX)
  have hl1 := wfTR_len p
  have hl2 := wfFR_len p
  cases hpl : plainB p
  · have hz1 : (wfTR p).length = 0 := by rw [wfTR_no hpl]; rfl
    have hz2 : (wfFR p).length = 0 := by rw [wfFR_no hpl]; rfl
    have hz1 : ((wfTR p).length : Int) = 0 := by omega
    have hz2 : ((wfFR p).length : Int) = 0 := by omega
    go_wp2_with fail
    refine (specPlain_calls hp).mono ?_
    rintro e w3 ⟨he, b3⟩
    rw [hpl] at he
    subst he
    go_wp2
    go_ret
    exact ⟨rfl, t2.step b3⟩
  · have HX := Lib.hid (fun x (hx : x ∈ answersL p) => wf_answer hpl hx)
    have HIN := Lib.hid (wf_in hpl)
    have HS := Lib.hid (wf_settled hpl)
    have HF := Lib.hid (fun hs => wf_few hpl hs)
    have HO := Lib.hid (fun hs x (hx : x ∈ answersL p) => wf_one hpl hs hx)
    have hLL := ans_len p
    go_wp2_with fail
    refine (specPlain_calls hp).mono ?_
    rintro e w3 ⟨he, b3⟩
    rw [hpl] at he
    subst he
    clear hpl
    have t3 := t2.step b3
    have CX := CX.later b3
    have hp := Rd.mono b3 hp
    first | (have gx := Rd.mono (α := List Int) b3 gx) | skip
    clear y0 y1 y2 y3 y4 y5 y6 y7
    obtain ⟨y0, y1, y2, y3, y4, y5, y6, y7⟩ := cells8 (CX)
    have g1 := g1.later b3
    have g2 := g2.later b3
    go_wp2_with fail
    refine (specAnswers_calls hp).mono ?_
    rintro e w4 ⟨uL, rfl, oL, b4⟩
    obtain ⟨aL, kL, rfl, _, hLr⟩ := oL.rd.sl
    have t4 := t3.step b4
    have CX := CX.later b4
    have hp := Rd.mono b4 hp
    first | (have gx := Rd.mono (α := List Int) b4 gx) | skip
    clear y0 y1 y2 y3 y4 y5 y6 y7
    obtain ⟨y0, y1, y2, y3, y4, y5, y6, y7⟩ := cells8 (CX)
    have g1 := g1.later b4
    have g2 := g2.later b4
    clear oL y0 y1 y2 y3 y4 y5 y6 y7
    generalize answersL p = L at *
    generalize wfTR p = T at *
    generalize wfFR p = F at *
    have hmL := hLr.1
    go_wp2
    go_loopw [8] (fun i wr => ∃ k : Nat, k ≤ L.length ∧ i = .int .i64 (k : Int) ∧ Below w4.heap.size w4 wr) (fun i _ => L.length - (intOf i).toNat)
    case atStart => exact ⟨0, Nat.zero_le _, rfl, Below.refl _ _⟩
    case round =>
      obtain ⟨k, hk, rfl, hb⟩ := hrel
      have g1 := g1.later hb
      have g2 := g2.later hb
      by_cases hlt : k < L.length
      · obtain ⟨bL, offL, rfl, hcL⟩ := hLr.base (by omega)
        obtain ⟨ecs, hC, hR⟩ := hcL k hlt
        obtain ⟨ax, nx, rfl, hax, hnx, hRx⟩ : RdL w4 ecs (nth L k) := hR
        rw [show Rd.k (List Int) = 1 from rfl, Nat.mul_one] at hC
        have hki : (k : Int) < (L.length : Int) := by omega
        obtain ⟨h1, h2⟩ := HX.out _ (nth_mem hlt)
        have hx := hRx.later hb
        have u0 := (hC.later hb).c0
        clear hcL HX HO HF
        generalize nth L k = x at *
        go_wp2_with fail
        refine (specSetIn_calls _ _ _ _ _ _ _ g1.ints hx.ints).mono ?_
        rintro e w5 ⟨he, b5⟩
        rw [h1] at he
        subst he
        have u0 := ((hC.later hb).later b5).c0
        go_wp2_with fail
        refine (specSetIn_calls _ _ _ _ _ _ _ (hx.later b5).ints (g2.later b5).ints).mono ?_
        rintro e w6 ⟨he, b6⟩
        rw [h2] at he
        subst he
        go_wp2
        go_roundw
        case rel => exact ⟨k + 1, by omega, by go_num, (hb.step b5).step b6⟩
        case measure => simp [intOf]; omega
      · have hp := Rd.mono hb hp
        have CX := CX.later hb
        have t5 := t4.step hb
        obtain ⟨y0, y1, y2, y3, y4, y5, y6, y7⟩ := cells8 CX
        go_wp2_with fail
        refine (implSettled_calls hp).mono ?_
        rintro e w6 ⟨he, b6⟩
        rw [HS.out] at he
        subst he
        have g1 := g1.later b6
        have g2 := g2.later b6
        have t6 := t5.step b6
        go_wp2_with fail
        refine (same_calls _ _ _ _ _ _ _ g1.ints g2.ints).mono ?_
        rintro e w7 ⟨rfl, b7⟩
        have g1 := g1.later b7
        have g2 := g2.later b7
        have t7 := t6.step b7
        go_wp2_with fail
        refine (specSetIn_calls _ _ _ _ _ _ _ g1.ints g2.ints).mono ?_
        rintro e w8 ⟨he, b8⟩
        rw [HIN.out] at he
        subst he
        have g1 := g1.later b8
        have g2 := g2.later b8
        have t8 := t7.step b8
        have hL8 := hLr.later ((((hb.step b6).step b7).step b8))
        cases hE : eqB T F
        · go_wp2_with fail
          refine (same_calls _ _ _ _ _ _ _ g1.ints g2.ints).mono ?_
          rintro e w9 ⟨he, b9⟩
          rw [hE] at he
          subst he
          go_wp2
          go_ret
          exact ⟨rfl, t8.step b9⟩
        · have hTF : Hid (T = F) := Lib.hid (of_decide_eq_true hE)
          have hf := HF.out hTF.out
          clear HF
          by_cases hz : L.length = 0
          · have hzi : (L.length : Int) = 0 := by omega
            clear hz hf
            go_wp2_with fail
            refine (same_calls _ _ _ _ _ _ _ g1.ints g2.ints).mono ?_
            rintro e w9 ⟨he, b9⟩
            rw [hE] at he
            subst he
            go_wp2
            go_ret
            exact ⟨rfl, t8.step b9⟩
          · have hzi : (L.length : Int) = 1 := by omega
            have h0 : 0 < L.length := by omega
            have hx0 := Lib.hid (HO.out hTF.out _ (nth_mem h0))
            clear HO
            go_wp2_with fail
            refine (same_calls _ _ _ _ _ _ _ g1.ints g2.ints).mono ?_
            rintro e w9 ⟨he, b9⟩
            rw [hE] at he
            subst he
            obtain ⟨bL, offL, rfl, hcL⟩ := hLr.base h0
            obtain ⟨ecs, hC, hR⟩ := hcL 0 h0
            obtain ⟨ax, nx, rfl, hax, hnx, hRx⟩ : RdL w4 ecs (nth L 0) := hR
            have bb := ((((hb.step b6).step b7).step b8).step b9)
            have hx := hRx.later bb
            have u0 := (hC.later bb).c0
            rw [Nat.zero_mul, Nat.add_zero] at u0
            rw [hx0.out] at hx u0
            have g1 := g1.later b9
            go_wp2_with fail
            refine (same_calls _ _ _ _ _ _ _ hx.ints g1.ints).mono ?_
            rintro e w10 ⟨he, b10⟩
            rw [eqB_self] at he
            subst he
            go_wp2
            go_ret
            exact ⟨rfl, (t8.step b9).step b10⟩
set_option maxRecDepth 100000 in
theorem law {a : Option Addr} {len cap : Nat} {zs : List Int} {w : World} (h : IsRow .u8 w a len cap zs) :
    Calls Tryz.prog 8 #[.slice a len cap] w fun e w' => e = .returned (.bool true) ∧ Below w.heap.size w w' := by
  by_cases hbig : len ≤ 1048576
  · obtain ⟨bs, rfl, hB⟩ := isRow_bytes h hbig
    exact law0 hB
  · have hb1 : decide (1048576 < (len : Int)) = true := decide_eq_true (by omega)
    go_enter Tryz.func8, Tryz.ntmps8
    go_wp2_with fail
    refine (big_calls _ _ _ _ _ hb1).mono ?_
    rintro e w' ⟨rfl, rfl⟩
    go_wp2
    go_ret
    exact ⟨rfl, Below.refl _ _⟩

set_option maxRecDepth 100000 in
theorem lifted (os : Os) (started : os.Started) (H : Type) (enc : TypeId × Value → H) :
    ReturnsInHanded {} Tryz.checked os 8 .any (Rows.fnWellFoundedSpec.pre6 enc Tryz.prog Tryz.f8 Rows.fnWellFoundedRow.domain false) (Rows.fnWellFoundedSpec.post enc Tryz.prog Tryz.f8 false true false false) := by
  refine returnsInHanded_of_change (C := Tryz.checked) own started (by kernel_rfl) Tryz.func8
    (ChangeSpec.witness6 (enc := enc) (C := Tryz.checked) false ⟨#[], #[.slice none 0 0], []⟩ 8 (by kernel_rfl) (by kernel_rfl) (by kernel_rfl) (by kernel_rfl)) ?_
  intro W base args ds gs before hval0 hW hcnd _
  have hval : ∀ (j : Nat) t v, Tryz.f8.params[j]? = some t → args[j]? = some v → Value.okWide Tryz.prog W .any base t v := hval0
  have hW' := hW
  obtain ⟨p, q, hA0, hV, rfl, hfz, hnd⟩ := hW
  have hA : DataW.TrodAll enc Tryz.prog W 0 (fun _ => true) true Tryz.f8.params.toList args.toList ds p := hA0
  rw [Tryz.params8] at hA hval
  obtain ⟨v0, vs0, d0, ds0, p0, q0, hargs, rfl, rfl, h0, r0⟩ := trodAll_cons hA
  obtain ⟨rfl, rfl, rfl⟩ := trodAll_nil r0
  obtain rfl : args = #[v0] := by cases args; simp_all
  obtain ⟨rfl, rfl⟩ := trodVars_none hV
  obtain ⟨a0, len0, cap0, rfl⟩ := okWide_slice Tryz.underlying22 (hval 0 22 v0 rfl rfl)
  have k0 := h0
  have lt0 : ∀ x ∈ p0, x.block < W.heap.size := by obtain ⟨m, hm⟩ := k0; exact DataW.trod_lt m _ _ _ hm
  obtain ⟨z0, w0⟩ : ∃ zs, IsRow .u8 W a0 len0 cap0 zs := by
    obtain ⟨fuel, hf⟩ := h0
    rcases open_ints Tryz.underlying22 Tryz.underlying5 (by kernel_rfl) hf with ⟨hcs, _⟩ | ⟨x, l, c, zs, hcs, _, hl, hm, hz, _, hcell, hwz⟩
    · simp [Value.cells] at hcs
      obtain ⟨rfl, rfl, rfl⟩ := hcs
      exact ⟨[], .inl ⟨rfl, rfl, rfl, rfl⟩⟩
    · simp [Value.cells] at hcs
      obtain ⟨rfl, rfl, rfl⟩ := hcs
      exact ⟨zs, .inr ⟨_, rfl, hl, hm, by simpa using hz, hcell, hwz⟩⟩
  clear hA0 hval0
  refine (law w0).mono fun e W' ⟨he, bel⟩ => ?_
  subst he
  exact ⟨_, rfl, _, _, _, [], _, [], hW', trodAll_mk1 (shut_bool Tryz.underlying4 _), (trodAll_cons_mk (Below.trod laidOut (by kernel_rfl) (of_decide_eq_true (by kernel_rfl)) k0 bel lt0) trodAll_mk0), rfl, bel.frame _, fun h => by cases h⟩

theorem over : Rows.fnWellFoundedRow.holds Tryz.pinned (OpenSpec.ofChange Rows.fnWellFoundedSpec) :=
  OpenClaim.holds_of_wide 8 Tryz.f8 rfl rfl rfl rfl rfl rfl rfl ⟨rfl, rfl, rfl, rfl, rfl⟩ rfl rfl rfl rfl rfl (by kernel_rfl) Tryz.func8 (by kernel_rfl)
    (of_decide_eq_true (by kernel_rfl)) (by unfold Func.isWrapper; first | (rw [if_pos (by decide +kernel)]; kernel_rfl) | (rw [if_neg (by decide +kernel)]; exact ⟨rfl, rfl⟩))
    (fun os started H enc _ => lifted os started H enc)

theorem proved : Rows.FnWellFoundedSaid := over
end Go.Proofs.YthfbnalgnnjbbaaGreat.fnWellFounded
