/-
  Splitting: what the program answers (closure, splitBy, IsSplit, Closure). No condition of its own.
-/
import Derived.Test.YtjainjpcpnoikaaGreatSplD
import Derived.Test.YtjainjpcpnoikaaGreatBody
import Derived.Test.YtjainjpcpnoikaaGreatFoldI
import Derived.Test.YtjainjpcpnoikaaGreatSeq
namespace Go.Proofs.YtjainjpcpnoikaaGreat
set_option linter.unusedVariables false
set_option linter.unusedSimpArgs false
open Go.RowKit Go.Shelf
set_option maxRecDepth 100000


theorem upTo_powS {n : Nat} (hn : n ≤ 12) : ((2 : Int) ^ n) = ((2 ^ n : Nat) : Int) ∧ 1 ≤ 2 ^ n ∧ 2 ^ n ≤ 4096 := by
  have h1 : 2 ^ n ≤ 2 ^ 12 := Nat.pow_le_pow_right (by omega) hn
  have h2 : 0 < 2 ^ n := Nat.two_pow_pos n
  exact ⟨by simp, h2, h1⟩
theorem atomsUpToS_calls (n : Nat) (w : World) (hn : n ≤ 12) :
    Calls Tryz.prog 76 #[.int .i64 (n : Int)] w fun e w' => e = .returned (.int .u16 ((2 ^ n - 1 : Nat) : Int)) ∧ w = w' := by
  obtain ⟨hp, h1, h2⟩ := upTo_powS hn
  obtain ⟨P, hP⟩ : ∃ P : Nat, P = 2 ^ n := ⟨_, rfl⟩
  rw [← hP] at hp h1 h2
  have hv : Hid (2 ^ n = P) := hP.symm
  clear hP
  go_enter Tryz.func76, Tryz.ntmps76
  go_wp2
  go_ret
  refine ⟨ret_int ?_, rfl⟩
  rw [hv.out]
  first | omega | (unfold IntKind.wrap; simp; omega) | skip

theorem headsTo_zeroA (r : RuleD) (k : Nat) (hk : r.body.length ≤ k) : (r.body.take k).map (fun p => atomI p.1) = r.body.map fun p => atomI p.1 := by rw [List.take_of_length_le hk]
theorem or_swap (a b c : Nat) : a ||| c ||| b = a ||| b ||| c := by rw [Nat.or_assoc, Nat.or_comm c b, ← Nat.or_assoc]
theorem bodyM_step {r : RuleD} {k a b : Nat} (hk : k < r.body.length) (h : a ||| b = maskOf ((r.body.take k).map fun p => atomI p.1)) :
    (a ||| bitN (atomI (nth r.body k).1)) ||| b = maskOf ((r.body.take (k + 1)).map fun p => atomI p.1) ∧ a ||| (b ||| bitN (atomI (nth r.body k).1)) = maskOf ((r.body.take (k + 1)).map fun p => atomI p.1) := by
  rw [map_take _ hk, maskOf_snoc, ← h]
  exact ⟨or_swap _ _ _, (Nat.or_assoc _ _ _).symm⟩
set_option maxHeartbeats 4000000 in
theorem bodyAtoms_calls {cs : List Value} {r : RuleD} {w : World} (h : Rd.R w cs r) :
    Calls Tryz.prog 175 #[.agg cs.toArray] w fun e w' => ∃ a b : Nat, e = .returned (.tuple #[.int .u16 (a : Int), .int .u16 (b : Int)]) ∧ (a < 4096 ∧ b < 4096) ∧ a ||| b = maskOf (r.body.map fun p => atomI p.1) ∧ Below w.heap.size w w' := by
  obtain ⟨c1, c4, rfl, hf, g1, g4⟩ := h
  obtain ⟨ab, cb, rfl, _, h4⟩ := g4.sl
  have hm4 := h4.1
  have tA : Below w.heap.size w (w.alloc (.cells #[.bool r.choice, c1, .bool r.weight, .int .i64 r.bound, .slice ab r.body.length cb] 69)) := (Below.refl _ _).alloc (by simp) _
  clear g4 hf g1
  by_cases hne : 0 < r.body.length
  · obtain ⟨b, off, rfl, hcb⟩ := h4.base hne
    have HCB := Lib.hid hcb
    clear hcb h4
    go_enter Tryz.func175, Tryz.ntmps175
    go_wp2
    go_loopw [2, 3, 10] (fun s t i wr => ∃ k a b : Nat, k ≤ r.body.length ∧ i = .int .i64 k ∧ s = .int .u16 (a : Int) ∧ t = .int .u16 (b : Int) ∧ (a < 4096 ∧ b < 4096) ∧ Hid (a ||| b = maskOf ((r.body.take k).map fun p => atomI p.1)) ∧ Below w.heap.size w wr) (fun _ _ i _ => r.body.length - (intOf i).toNat)
    case atStart => exact ⟨0, 0, 0, Nat.zero_le _, rfl, rfl, rfl, by omega, by show _ = _; rw [List.take_zero]; rfl, tA⟩
    case round =>
      obtain ⟨k, ma, mb, hk, rfl, rfl, rfl, ⟨hma, hmb⟩, hS, hb⟩ := hrel
      by_cases hlt : k < r.body.length
      · obtain ⟨ecs, hC, hR⟩ := HCB.out k hlt
        have hC := hC.later hb
        obtain ⟨rfl, hF, hf1⟩ := hR
        have u0 := hC.c0
        have u1 := hC.c1
        rw [show Rd.k (Int × Int) = 2 from rfl] at u0 u1
        obtain ⟨q1, q2⟩ := bodyM_step hlt hS.out
        have q1 := Lib.hid q1
        have q2 := Lib.hid q2
        have hFa := atomI_fits hF
        have hbl := bitN_lt (atomI (nth r.body k).1)
        have hbe := hb.alloc hb.size (.cells #[.int .i64 (nth r.body k).1, .int .i64 (nth r.body k).2] 90)
        have l1 := or_lt hma hbl
        have l2 := or_lt hmb hbl
        clear hC hS
        by_cases hp : 0 < (nth r.body k).1
        · go_wp2_with (first | (go_at_call 195; refine (atom_calls _ _ hF).mono ?_; rintro e w' ⟨rfl, rfl⟩) | (go_at_call 114; refine (atomBit_calls _ _ hFa).mono ?_; rintro e w' ⟨rfl, rfl⟩) | (go_at_call 116; refine (joinM_calls _ _ _ hma hbl).mono ?_; rintro e w' ⟨rfl, rfl⟩))
          go_roundw
          case rel => exact ⟨k + 1, _, _, by omega, by go_num, rfl, rfl, ⟨l1, hmb⟩, q1, hbe⟩
          case measure => simp [intOf]; omega
        · go_wp2_with (first | (go_at_call 195; refine (atom_calls _ _ hF).mono ?_; rintro e w' ⟨rfl, rfl⟩) | (go_at_call 114; refine (atomBit_calls _ _ hFa).mono ?_; rintro e w' ⟨rfl, rfl⟩) | (go_at_call 116; refine (joinM_calls _ _ _ hmb hbl).mono ?_; rintro e w' ⟨rfl, rfl⟩))
          go_roundw
          case rel => exact ⟨k + 1, _, _, by omega, by go_num, rfl, rfl, ⟨hma, l2⟩, q2, hbe⟩
          case measure => simp [intOf]; omega
      · have hE : Hid (ma ||| mb = maskOf (r.body.map fun p => atomI p.1)) := by show _ = _; rw [hS.out, headsTo_zeroA r k (by omega)]
        go_wp2
        go_ret2
        exact ⟨ma, mb, rfl, ⟨hma, hmb⟩, hE.out, hb⟩
  · have hbn : r.body = [] := by cases hh : r.body <;> simp_all
    have hbl : (r.body.length : Int) = 0 := by rw [hbn]; rfl
    have hE : Hid (0 ||| 0 = maskOf (r.body.map fun p => atomI p.1)) := by show _ = _; rw [hbn]; rfl
    clear h4 hne hbn hm4
    go_enter Tryz.func175, Tryz.ntmps175
    go_wp2
    refine wp_loop_rounds 1 ?_
    rw [rounds_succ]
    go_wp2
    go_ret2
    exact ⟨0, 0, rfl, by omega, hE.out, tA⟩
theorem mask_app2 (xs ys : List Int) : maskOf (xs ++ ys) = maskOf xs ||| maskOf ys := by
  have h : ∀ (l : List Int) (s : Nat), l.foldl (fun s x => s ||| bitN x) s = s ||| maskOf l := by
    intro l
    induction l with
    | nil => intro s; show s = s ||| 0; rw [Nat.or_zero]
    | cons x r ih =>
      intro s
      rw [List.foldl_cons, ih]
      have : maskOf (x :: r) = bitN x ||| maskOf r := by
        show List.foldl (fun s x => s ||| bitN x) 0 (x :: r) = _
        rw [List.foldl_cons, ih, Nat.zero_or]
      rw [this, Nat.or_assoc]
  show List.foldl (fun s x => s ||| bitN x) 0 (xs ++ ys) = _
  rw [List.foldl_append, h]
  rfl
theorem everyAtom_calls {cs : List Value} {r : RuleD} {w : World} (h : Rd.R w cs r) :
    Calls Tryz.prog 119 #[.agg cs.toArray] w fun e w' => e = .returned (.int .u16 (evM r : Int)) ∧ Below w.heap.size w w' := by
  have h0 := h
  obtain ⟨c1, c4, rfl, hf, g1, g4⟩ := h0
  obtain ⟨ah, ch, rfl, _, h1⟩ := g1.sl
  have tA : Below w.heap.size w (w.alloc (.cells #[.bool r.choice, .slice ah r.heads.length ch, .bool r.weight, .int .i64 r.bound, c4] 69)) := (Below.refl _ _).alloc (by simp) _
  have CX := Cells.new w [.bool r.choice, .slice ah r.heads.length ch, .bool r.weight, .int .i64 r.bound, c4] 69
  have hmh := maskOf_lt r.heads
  clear g4 g1
  obtain ⟨z0, z1, z2, z3, z4⟩ := cells5 CX
  go_enter Tryz.func119, Tryz.ntmps119
  go_wp2_with fail
  refine (bodyAtoms_calls (Rd.mono tA h)).mono ?_
  rintro e w1 ⟨a, b, rfl, ⟨ha, hb⟩, he, b1⟩
  have t1 := tA.step b1
  have CX := CX.later b1
  clear z0 z1 z2 z3 z4
  obtain ⟨z0, z1, z2, z3, z4⟩ := cells5 CX
  have h1 := (h1.later t1).ints
  have hab := or_lt hmh ha
  have hev : Hid (maskOf r.heads ||| a ||| b = evM r) := by
    show _ = _
    unfold evM
    rw [mask_app2, Nat.or_assoc, he]
  clear he
  go_wp2_with (first | (go_at_call 64; refine (atomsIn_calls _ _ _ _ h1).mono ?_; rintro e w' ⟨rfl, rfl⟩))
  refine (joinM_calls _ _ _ hmh ha).mono ?_
  rintro e w' ⟨rfl, rfl⟩
  go_wp2_with fail
  refine (joinM_calls _ _ _ hab hb).mono ?_
  rintro e w' ⟨rfl, rfl⟩
  go_wp2
  go_ret
  exact ⟨by rw [hev.out]; rfl, t1⟩

set_option maxHeartbeats 4000000 in
theorem closure_calls {cs : List Value} {q : ProgD} {w : World} (m : Nat) (hm : m < 4096) (h : Rd.R w cs q) :
    Calls Tryz.prog 74 #[.agg cs.toArray, .int .u16 (m : Int)] w fun e w' => e = .returned (.int .u16 (clL q.rules m : Int)) ∧ Below w.heap.size w w' := by
  obtain ⟨x0, x1, x2, x3, x4, x5, x6, x7, rfl⟩ := list8 (Rd.len h)
  have oR := h
  obtain ⟨_, _, _, _, _, _, hl, _, g1, _⟩ := oR
  simp only [List.cons.injEq, and_true] at hl
  obtain ⟨-, rfl, -⟩ := hl
  obtain ⟨a1, k1, rfl, _, h1⟩ := g1.sl
  have t1 := (Below.refl w.heap.size w).alloc (Nat.le_refl _) (.cells #[x0, .slice a1 q.rules.length k1, x2, x3, x4, x5, x6, x7] 35)
  have CX1 := Lib.hid (Cells.new w [x0, .slice a1 q.rules.length k1, x2, x3, x4, x5, x6, x7] 35)
  have h1 := h1.later t1
  have hm1 := h1.1
  have hwl : w.heap.size < (w.alloc (.cells #[x0, .slice a1 q.rules.length k1, x2, x3, x4, x5, x6, x7] 35)).heap.size := by simp
  go_enter Tryz.func74, Tryz.ntmps74
  generalize hwa : w.alloc _ = wa at *
  generalize hrs : q.rules = rs at *
  clear g1 h
  go_wp2
  try rw [hwa]
  go_loopw [1] (fun s wr => ∃ n : Nat, s = .int .u16 (clN rs m n : Int) ∧ n ≤ (mset (clN rs m n)).length ∧ Below wa.heap.size wa wr) (fun s _ => 12 - (mset (intOf s).toNat).length)
  case atStart => exact ⟨0, rfl, Nat.zero_le _, by first | exact Below.refl _ _ | (rw [hwa]; exact Below.refl _ _)⟩
  case round =>
    obtain ⟨n, rfl, hn, hb0⟩ := hrel
    have hM : clN rs m n < 4096 := clN_lt hm n
    have HE := Lib.hid (clL_end hm hn)
    have HN := Lib.hid (clN_next hm hn)
    have HL := Lib.hid (fun he => clIt_less (rs := rs) hM he)
    have HS : Hid (clN rs m (n + 1) = clIt rs (clN rs m n)) := rfl
    generalize hMe : clN rs m n = M at *
    have hMe := Lib.hid hMe
    have hl12 := mset_len12 M
    obtain ⟨wo, rfl⟩ : ∃ wo, wo = wr := ⟨_, rfl⟩
    obtain ⟨y0, y1, y2, y3, y4, y5, y6, y7⟩ := cells8 (CX1.out.later hb0)
    go_wp2
    go_loopw [1, 12] (fun s i wr => ∃ k : Nat, k ≤ rs.length ∧ i = .int .i64 k ∧ s = .int .u16 (clTo rs M k : Int) ∧ Below wa.heap.size wa wr) (fun _ i _ => rs.length - (intOf i).toNat)
    case atStart => exact ⟨0, Nat.zero_le _, rfl, rfl, hb0⟩
    case round =>
      obtain ⟨k, hk, rfl, rfl, hb⟩ := hrel
      have hz := hb.size
      have hT : clTo rs M k < 4096 := clTo_lt hM k
      have HT : Hid (clTo rs M (k + 1) = clR (clTo rs M k) (nth rs k)) := rfl
      generalize hTe : clTo rs M k = X at *
      have hTe := Lib.hid hTe
      by_cases hlt : k < rs.length
      · obtain ⟨b, off, rfl, hc⟩ := h1.base (by omega)
        obtain ⟨ecs, hC, hR⟩ := hc k hlt
        have hC := hC.later hb
        have hR := Rd.mono hb hR
        have hR0 := hR
        obtain ⟨d1, d4, rfl, hf', r1, r4⟩ := hR0
        obtain ⟨ah, kh, rfl, hkh, hh⟩ := r1.sl
        have u0 := hC.c0
        have u1 := hC.c1
        have u2 := hC.c2
        have u3 := hC.c3
        have u4 := hC.c4
        rw [show Rd.k RuleD = 5 from rfl] at u0 u1 u2 u3 u4
        have e1 := r4.one1
        have st4 := sto Tryz.prog e1
        have hbe := hb.alloc hb.size (.cells #[.bool (nth rs k).choice, .slice ah (nth rs k).heads.length kh, .bool (nth rs k).weight, .int .i64 (nth rs k).bound, d4] 69)
        have tr := (Below.refl wr.heap.size wr).alloc (Nat.le_refl _) (.cells #[.bool (nth rs k).choice, .slice ah (nth rs k).heads.length kh, .bool (nth rs k).weight, .int .i64 (nth rs k).bound, d4] 69)
        have hRb := Rd.mono tr hR
        have hhb := (hh.later tr).ints
        have hmh := maskOf_lt (nth rs k).heads
        have hev := evM_lt (nth rs k)
        have hand : X &&& maskOf (nth rs k).heads < 4096 := Nat.lt_of_le_of_lt Nat.and_le_left hT
        clear hC hc r1 r4
        by_cases hz0 : X &&& maskOf (nth rs k).heads = 0
        · have hX : Hid (clTo rs M (k + 1) = X) := by show _ = _; rw [HT.out, clR_no hz0]
          have hzi : ((X &&& maskOf (nth rs k).heads : Nat) : Int) = 0 := by omega
          have hzn : (((X &&& maskOf (nth rs k).heads : Nat) : Int) != 0) = false := by rw [hzi]; rfl
          clear hz0
          go_wp2_with (first | (go_at_call 64; refine (atomsIn_calls _ _ _ _ hhb).mono ?_; rintro e w' ⟨rfl, rfl⟩) | (go_at_call 75; refine (meet_calls _ _ _ hT hmh).mono ?_; rintro e w' ⟨rfl, rfl⟩))
          go_roundw
          case rel => exact ⟨k + 1, by omega, by go_num, by rw [hX.out], hbe⟩
          case measure => simp [intOf]; omega
        · have hX : Hid (clTo rs M (k + 1) = X ||| evM (nth rs k)) := by show _ = _; rw [HT.out, clR_yes hz0]
          have hzi : ¬ ((X &&& maskOf (nth rs k).heads : Nat) : Int) = 0 := by omega
          have hzn : (((X &&& maskOf (nth rs k).heads : Nat) : Int) != 0) = true := bne_iff_ne.2 hzi
          clear hz0
          go_wp2_with (first | (go_at_call 64; refine (atomsIn_calls _ _ _ _ hhb).mono ?_; rintro e w' ⟨rfl, rfl⟩) | (go_at_call 75; refine (meet_calls _ _ _ hT hmh).mono ?_; rintro e w' ⟨rfl, rfl⟩) | (go_at_call 119; refine (everyAtom_calls hRb).mono ?_; rintro e w5 ⟨rfl, b5⟩) | (go_at_call 116; refine (joinM_calls _ _ _ hT hev).mono ?_; rintro e w' ⟨rfl, rfl⟩))
          go_roundw
          case rel => exact ⟨k + 1, by omega, by go_num, by rw [hX.out], hbe.step b5⟩
          case measure => simp [intOf]; omega
      · have hX : Hid (X = clIt rs M) := by
          show _ = _
          rw [← hTe.out, show k = rs.length by omega]; rfl
        have hb := hb
        by_cases he : X = M
        · subst he
          have hE : Hid (X = clL rs m) := HE.out hX.out.symm
          clear HE HN HL HS hX hMe
          go_wp2
          go_ret
          exact ⟨by rw [← hE.out]; rfl, (t1.trans (hb.mono (by have := t1.size; omega)))⟩
        · have hne : ¬ clIt rs M = M := fun e => he (hX.out.trans e)
          have hlen := Lib.hid (HL.out hne)
          have hnn := Lib.hid (HN.out hne)
          have hei : ((X : Int) == (M : Int)) = false := by rw [beq_eq_false_iff_ne]; omega
          have hXn : Hid (clN rs m (n + 1) = X) := by show _ = _; rw [HS.out, hX.out]
          clear HE HN HL HS he hne
          go_wp2
          go_roundw
          case rel => exact ⟨n + 1, by rw [hXn.out], hnn.out, hb⟩
          case measure =>
            have h3 := hlen.out
            rw [← hX.out] at h3
            have h12 := mset_len12 X
            show 12 - (mset (Int.toNat (X : Int))).length < 12 - (mset (Int.toNat (M : Int))).length
            rw [Int.toNat_natCast, Int.toNat_natCast]
            omega

end Go.Proofs.YtjainjpcpnoikaaGreat
