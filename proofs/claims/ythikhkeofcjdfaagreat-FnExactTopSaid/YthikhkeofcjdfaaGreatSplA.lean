/-
 Splitting: what the program answers (closure, splitBy, IsSplit, Closure). No condition of its own.
-/
import Derived.Test.YthikhkeofcjdfaaGreatSplD
import Derived.Test.YthikhkeofcjdfaaGreatBody
import Derived.Test.YthikhkeofcjdfaaGreatFoldI
import Derived.Test.YthikhkeofcjdfaaGreatSeq
import Derived.Test.YthikhkeofcjdfaaGreatAnsD
namespace Go.Proofs.YthikhkeofcjdfaaGreat
set_option linter.unusedVariables false
set_option linter.unusedSimpArgs false
open Go.RowKit Go.Shelf
set_option maxRecDepth 100000

/-! ### SplI -/

theorem upTo_powS {n : Nat} (hn : n ≤ 12) : ((2 : Int) ^ n) = ((2 ^ n : Nat) : Int) ∧ 1 ≤ 2 ^ n ∧ 2 ^ n ≤ 4096 := by
 have h1 : 2 ^ n ≤ 2 ^ 12 := Nat.pow_le_pow_right (by omega) hn
 have h2 : 0 < 2 ^ n := Nat.two_pow_pos n
 exact ⟨by simp, h2, h1⟩
theorem atomsUpToS_calls (n : Nat) (w : World) (hn : n ≤ 12) :
  Calls Tryz.prog 134 #[.int .i64 (n : Int)] w fun e w' => e = .returned (.int .u16 ((2 ^ n - 1 : Nat) : Int)) ∧ w = w' := by
 obtain ⟨hp, h1, h2⟩ := upTo_powS hn
 obtain ⟨P, hP⟩ : ∃ P : Nat, P = 2 ^ n := ⟨_, rfl⟩
 rw [← hP] at hp h1 h2
 have hv : Hid (2 ^ n = P) := hP.symm
 clear hP
 go_enter Tryz.func134, Tryz.ntmps134
 go_wp2
 go_ret
 refine ⟨ret_int ?_, rfl⟩
 rw [hv.out]
 first | omega | (unfold IntKind.wrap; simp; omega) | skip

theorem headsTo_zeroA (r : RuleD) (k : Nat) (hk : r.body.length ≤ k) : (r.body.take k).map (fun p => atomI p.1) = r.body.map fun p => atomI p.1 := by rw [List.take_of_length_le hk]
theorem or_swap (a b c : Nat) : a ||| c ||| b = a ||| b ||| c := by rw [Nat.or_assoc, Nat.or_comm c b, ← Nat.or_assoc]
theorem bodyM_step {r : RuleD} {k a b : Nat} (hk : k < r.body.length) (h : a ||| b = maskOf ((r.body.take k).map fun p => atomI p.1)) :
  (a ||| bitN (atomI (nth r.body k).1)) ||| b = maskOf ((r.body.take (k + 1)).map fun p => atomI p.1) ∧ a ||| (b ||| bitN (atomI (nth r.body k).1)) = maskOf ((r.body.take (k + 1)).map fun p => atomI p.1) := by
 rw [map_take _ hk, maskOf_snoc, ← h]
 exact ⟨or_swap _ _ _, (Nat.or_assoc _ _ _).symm⟩
set_option maxHeartbeats 4000000 in
theorem bodyAtoms_calls {cs : List Value} {r : RuleD} {w : World} (h : Rd.R w cs r) :
  Calls Tryz.prog 221 #[.agg cs.toArray] w fun e w' => ∃ a b : Nat, e = .returned (.tuple #[.int .u16 (a : Int), .int .u16 (b : Int)]) ∧ (a < 4096 ∧ b < 4096) ∧ a ||| b = maskOf (r.body.map fun p => atomI p.1) ∧ Below w.heap.size w w' := by
 obtain ⟨c1, c4, rfl, hf, g1, g4⟩ := h
 obtain ⟨ab, cb, rfl, _, h4⟩ := g4.sl
 have hm4 := h4.1
 have tA : Below w.heap.size w (w.alloc (.cells #[.bool r.choice, c1, .bool r.weight, .int .i64 r.bound, .slice ab r.body.length cb] 34)) := (Below.refl _ _).alloc (by simp) _
 clear g4 hf g1
 by_cases hne : 0 < r.body.length
 ·obtain ⟨b, off, rfl, hcb⟩ := h4.base hne
  have HCB := Lib.hid hcb
  clear hcb h4
  go_enter Tryz.func221, Tryz.ntmps221
  go_wp2
  go_loopw [2, 3, 10] (fun s t i wr => ∃ k a b : Nat, k ≤ r.body.length ∧ i = .int .i64 k ∧ s = .int .u16 (a : Int) ∧ t = .int .u16 (b : Int) ∧ (a < 4096 ∧ b < 4096) ∧ Hid (a ||| b = maskOf ((r.body.take k).map fun p => atomI p.1)) ∧ Below w.heap.size w wr) (fun _ _ i _ => r.body.length - (intOf i).toNat)
  case atStart => exact ⟨0, 0, 0, Nat.zero_le _, rfl, rfl, rfl, by omega, by show _ = _; rw [List.take_zero]; rfl, tA⟩
  case round =>
   obtain ⟨k, ma, mb, hk, rfl, rfl, rfl, ⟨hma, hmb⟩, hS, hb⟩ := hrel
   by_cases hlt : k < r.body.length
   ·obtain ⟨ecs, hC, hR⟩ := HCB.out k hlt
    have hC := hC.later hb
    obtain ⟨rfl, hF, hf1⟩ := hR
    have u0 := hC.c0
    have u1 := hC.c1
    rw [show Rd.k (Int × Int) = 2 from rfl] at u0 u1
    obtain ⟨q1, q2⟩ := bodyM_step hlt hS.out
    have q1 := Lib.hid q1
    have q2 := Lib.hid q2
    have hFa := atomI_fits hF
    have hbl := bitN_lt (atomI (nth r.body k).1)
    have hbe := hb.alloc hb.size (.cells #[.int .i64 (nth r.body k).1, .int .i64 (nth r.body k).2] 94)
    have l1 := or_lt hma hbl
    have l2 := or_lt hmb hbl
    clear hC hS
    by_cases hp : 0 < (nth r.body k).1
    ·go_wp2_with (first | (go_at_call 261; refine (atom_calls _ _ hF).mono ?_; rintro e w' ⟨rfl, rfl⟩) | (go_at_call 167; refine (atomBit_calls _ _ hFa).mono ?_; rintro e w' ⟨rfl, rfl⟩) | (go_at_call 175; refine (joinM_calls _ _ _ hma hbl).mono ?_; rintro e w' ⟨rfl, rfl⟩))
     go_roundw
     case rel => exact ⟨k + 1, _, _, by omega, by go_num, rfl, rfl, ⟨l1, hmb⟩, q1, hbe⟩
     case measure => simp [intOf]; omega
    ·go_wp2_with (first | (go_at_call 261; refine (atom_calls _ _ hF).mono ?_; rintro e w' ⟨rfl, rfl⟩) | (go_at_call 167; refine (atomBit_calls _ _ hFa).mono ?_; rintro e w' ⟨rfl, rfl⟩) | (go_at_call 175; refine (joinM_calls _ _ _ hmb hbl).mono ?_; rintro e w' ⟨rfl, rfl⟩))
     go_roundw
     case rel => exact ⟨k + 1, _, _, by omega, by go_num, rfl, rfl, ⟨hma, l2⟩, q2, hbe⟩
     case measure => simp [intOf]; omega
   ·have hE : Hid (ma ||| mb = maskOf (r.body.map fun p => atomI p.1)) := by show _ = _; rw [hS.out, headsTo_zeroA r k (by omega)]
    go_wp2
    go_ret2
    exact ⟨ma, mb, rfl, ⟨hma, hmb⟩, hE.out, hb⟩
 ·have hbn : r.body = [] := by cases hh : r.body <;> simp_all
  have hbl : (r.body.length : Int) = 0 := by rw [hbn]; rfl
  have hE : Hid (0 ||| 0 = maskOf (r.body.map fun p => atomI p.1)) := by show _ = _; rw [hbn]; rfl
  clear h4 hne hbn hm4
  go_enter Tryz.func221, Tryz.ntmps221
  go_wp2
  refine wp_loop_rounds 1 ?_
  rw [rounds_succ]
  go_wp2
  go_ret2
  exact ⟨0, 0, rfl, by omega, hE.out, tA⟩
theorem mask_app2 (xs ys : List Int) : maskOf (xs ++ ys) = maskOf xs ||| maskOf ys := by
 have h : ∀ (l : List Int) (s : Nat), l.foldl (fun s x => s ||| bitN x) s = s ||| maskOf l := by
  intro l
  induction l with
  | nil => intro s; show s = s ||| 0; rw [Nat.or_zero]
  | cons x r ih =>
   intro s
   rw [List.foldl_cons, ih]
   have : maskOf (x :: r) = bitN x ||| maskOf r := by
    show List.foldl (fun s x => s ||| bitN x) 0 (x :: r) = _
    rw [List.foldl_cons, ih, Nat.zero_or]
   rw [this, Nat.or_assoc]
 show List.foldl (fun s x => s ||| bitN x) 0 (xs ++ ys) = _
 rw [List.foldl_append, h]
 rfl
theorem everyAtom_calls {cs : List Value} {r : RuleD} {w : World} (h : Rd.R w cs r) :
  Calls Tryz.prog 237 #[.agg cs.toArray] w fun e w' => e = .returned (.int .u16 (evM r : Int)) ∧ Below w.heap.size w w' := by
 have h0 := h
 obtain ⟨c1, c4, rfl, hf, g1, g4⟩ := h0
 obtain ⟨ah, ch, rfl, _, h1⟩ := g1.sl
 have tA : Below w.heap.size w (w.alloc (.cells #[.bool r.choice, .slice ah r.heads.length ch, .bool r.weight, .int .i64 r.bound, c4] 34)) := (Below.refl _ _).alloc (by simp) _
 have CX := Cells.new w [.bool r.choice, .slice ah r.heads.length ch, .bool r.weight, .int .i64 r.bound, c4] 34
 have hmh := maskOf_lt r.heads
 clear g4 g1
 obtain ⟨z0, z1, z2, z3, z4⟩ := cells5 CX
 go_enter Tryz.func237, Tryz.ntmps237
 go_wp2_with fail
 refine (bodyAtoms_calls (Rd.mono tA h)).mono ?_
 rintro e w1 ⟨a, b, rfl, ⟨ha, hb⟩, he, b1⟩
 have t1 := tA.step b1
 have CX := CX.later b1
 clear z0 z1 z2 z3 z4
 obtain ⟨z0, z1, z2, z3, z4⟩ := cells5 CX
 have h1 := (h1.later t1).ints
 have hab := or_lt hmh ha
 have hev : Hid (maskOf r.heads ||| a ||| b = evM r) := by
  show _ = _
  unfold evM
  rw [mask_app2, Nat.or_assoc, he]
 clear he
 go_wp2_with (first | (go_at_call 76; refine (atomsIn_calls _ _ _ _ h1).mono ?_; rintro e w' ⟨rfl, rfl⟩))
 refine (joinM_calls _ _ _ hmh ha).mono ?_
 rintro e w' ⟨rfl, rfl⟩
 go_wp2_with fail
 refine (joinM_calls _ _ _ hab hb).mono ?_
 rintro e w' ⟨rfl, rfl⟩
 go_wp2
 go_ret
 exact ⟨by rw [hev.out]; rfl, t1⟩

set_option maxHeartbeats 4000000 in
theorem closure_calls {cs : List Value} {q : ProgD} {w : World} (m : Nat) (hm : m < 4096) (h : Rd.R w cs q) :
  Calls Tryz.prog 198 #[.agg cs.toArray, .int .u16 (m : Int)] w fun e w' => e = .returned (.int .u16 (clL q.rules m : Int)) ∧ Below w.heap.size w w' := by
 obtain ⟨x0, x1, x2, x3, x4, x5, x6, x7, rfl⟩ := list8 (Rd.len h)
 have oR := h
 obtain ⟨_, _, _, _, _, _, hl, _, g1, _⟩ := oR
 simp only [List.cons.injEq, and_true] at hl
 obtain ⟨-, rfl, -⟩ := hl
 obtain ⟨a1, k1, rfl, _, h1⟩ := g1.sl
 have t1 := (Below.refl w.heap.size w).alloc (Nat.le_refl _) (.cells #[x0, .slice a1 q.rules.length k1, x2, x3, x4, x5, x6, x7] 30)
 have CX1 := Lib.hid (Cells.new w [x0, .slice a1 q.rules.length k1, x2, x3, x4, x5, x6, x7] 30)
 have h1 := h1.later t1
 have hm1 := h1.1
 have hwl : w.heap.size < (w.alloc (.cells #[x0, .slice a1 q.rules.length k1, x2, x3, x4, x5, x6, x7] 30)).heap.size := by simp
 go_enter Tryz.func198, Tryz.ntmps198
 generalize hwa : w.alloc _ = wa at *
 generalize hrs : q.rules = rs at *
 clear g1 h
 go_wp2
 try rw [hwa]
 go_loopw [1] (fun s wr => ∃ n : Nat, s = .int .u16 (clN rs m n : Int) ∧ n ≤ (mset (clN rs m n)).length ∧ Below wa.heap.size wa wr) (fun s _ => 12 - (mset (intOf s).toNat).length)
 case atStart => exact ⟨0, rfl, Nat.zero_le _, by first | exact Below.refl _ _ | (rw [hwa]; exact Below.refl _ _)⟩
 case round =>
  obtain ⟨n, rfl, hn, hb0⟩ := hrel
  have hM : clN rs m n < 4096 := clN_lt hm n
  have HE := Lib.hid (clL_end hm hn)
  have HN := Lib.hid (clN_next hm hn)
  have HL := Lib.hid (fun he => clIt_less (rs := rs) hM he)
  have HS : Hid (clN rs m (n + 1) = clIt rs (clN rs m n)) := rfl
  generalize hMe : clN rs m n = M at *
  have hMe := Lib.hid hMe
  have hl12 := mset_len12 M
  obtain ⟨wo, rfl⟩ : ∃ wo, wo = wr := ⟨_, rfl⟩
  obtain ⟨y0, y1, y2, y3, y4, y5, y6, y7⟩ := cells8 (CX1.out.later hb0)
  go_wp2
  go_loopw [1, 12] (fun s i wr => ∃ k : Nat, k ≤ rs.length ∧ i = .int .i64 k ∧ s = .int .u16 (clTo rs M k : Int) ∧ Below wa.heap.size wa wr) (fun _ i _ => rs.length - (intOf i).toNat)
  case atStart => exact ⟨0, Nat.zero_le _, rfl, rfl, hb0⟩
  case round =>
   obtain ⟨k, hk, rfl, rfl, hb⟩ := hrel
   have hz := hb.size
   have hT : clTo rs M k < 4096 := clTo_lt hM k
   have HT : Hid (clTo rs M (k + 1) = clR (clTo rs M k) (nth rs k)) := rfl
   generalize hTe : clTo rs M k = X at *
   have hTe := Lib.hid hTe
   by_cases hlt : k < rs.length
   ·obtain ⟨b, off, rfl, hc⟩ := h1.base (by omega)
    obtain ⟨ecs, hC, hR⟩ := hc k hlt
    have hC := hC.later hb
    have hR := Rd.mono hb hR
    have hR0 := hR
    obtain ⟨d1, d4, rfl, hf', r1, r4⟩ := hR0
    obtain ⟨ah, kh, rfl, hkh, hh⟩ := r1.sl
    have u0 := hC.c0
    have u1 := hC.c1
    have u2 := hC.c2
    have u3 := hC.c3
    have u4 := hC.c4
    rw [show Rd.k RuleD = 5 from rfl] at u0 u1 u2 u3 u4
    have e1 := r4.one1
    have st4 := sto Tryz.prog e1
    have hbe := hb.alloc hb.size (.cells #[.bool (nth rs k).choice, .slice ah (nth rs k).heads.length kh, .bool (nth rs k).weight, .int .i64 (nth rs k).bound, d4] 34)
    have tr := (Below.refl wr.heap.size wr).alloc (Nat.le_refl _) (.cells #[.bool (nth rs k).choice, .slice ah (nth rs k).heads.length kh, .bool (nth rs k).weight, .int .i64 (nth rs k).bound, d4] 34)
    have hRb := Rd.mono tr hR
    have hhb := (hh.later tr).ints
    have hmh := maskOf_lt (nth rs k).heads
    have hev := evM_lt (nth rs k)
    have hand : X &&& maskOf (nth rs k).heads < 4096 := Nat.lt_of_le_of_lt Nat.and_le_left hT
    clear hC hc r1 r4
    by_cases hz0 : X &&& maskOf (nth rs k).heads = 0
    ·have hX : Hid (clTo rs M (k + 1) = X) := by show _ = _; rw [HT.out, clR_no hz0]
     have hzi : ((X &&& maskOf (nth rs k).heads : Nat) : Int) = 0 := by omega
     have hzn : (((X &&& maskOf (nth rs k).heads : Nat) : Int) != 0) = false := by rw [hzi]; rfl
     clear hz0
     go_wp2_with (first | (go_at_call 76; refine (atomsIn_calls _ _ _ _ hhb).mono ?_; rintro e w' ⟨rfl, rfl⟩) | (go_at_call 183; refine (meet_calls _ _ _ hT hmh).mono ?_; rintro e w' ⟨rfl, rfl⟩))
     go_roundw
     case rel => exact ⟨k + 1, by omega, by go_num, by rw [hX.out], hbe⟩
     case measure => simp [intOf]; omega
    ·have hX : Hid (clTo rs M (k + 1) = X ||| evM (nth rs k)) := by show _ = _; rw [HT.out, clR_yes hz0]
     have hzi : ¬ ((X &&& maskOf (nth rs k).heads : Nat) : Int) = 0 := by omega
     have hzn : (((X &&& maskOf (nth rs k).heads : Nat) : Int) != 0) = true := bne_iff_ne.2 hzi
     clear hz0
     go_wp2_with (first | (go_at_call 76; refine (atomsIn_calls _ _ _ _ hhb).mono ?_; rintro e w' ⟨rfl, rfl⟩) | (go_at_call 183; refine (meet_calls _ _ _ hT hmh).mono ?_; rintro e w' ⟨rfl, rfl⟩) | (go_at_call 237; refine (everyAtom_calls hRb).mono ?_; rintro e w5 ⟨rfl, b5⟩) | (go_at_call 175; refine (joinM_calls _ _ _ hT hev).mono ?_; rintro e w' ⟨rfl, rfl⟩))
     go_roundw
     case rel => exact ⟨k + 1, by omega, by go_num, by rw [hX.out], hbe.step b5⟩
     case measure => simp [intOf]; omega
   ·have hX : Hid (X = clIt rs M) := by
     show _ = _
     rw [← hTe.out, show k = rs.length by omega]; rfl
    have hb := hb
    by_cases he : X = M
    ·subst he
     have hE : Hid (X = clL rs m) := HE.out hX.out.symm
     clear HE HN HL HS hX hMe
     go_wp2
     go_ret
     exact ⟨by rw [← hE.out]; rfl, (t1.trans (hb.mono (by have := t1.size; omega)))⟩
    ·have hne : ¬ clIt rs M = M := fun e => he (hX.out.trans e)
     have hlen := Lib.hid (HL.out hne)
     have hnn := Lib.hid (HN.out hne)
     have hei : ((X : Int) == (M : Int)) = false := by rw [beq_eq_false_iff_ne]; omega
     have hXn : Hid (clN rs m (n + 1) = X) := by show _ = _; rw [HS.out, hX.out]
     clear HE HN HL HS he hne
     go_wp2
     go_roundw
     case rel => exact ⟨n + 1, by rw [hXn.out], hnn.out, hb⟩
     case measure =>
      have h3 := hlen.out
      rw [← hX.out] at h3
      have h12 := mset_len12 X
      show 12 - (mset (Int.toNat (X : Int))).length < 12 - (mset (Int.toNat (M : Int))).length
      rw [Int.toNat_natCast, Int.toNat_natCast]
      omega

/-! ### SplB -/

theorem cells9S {w : World} {b : Nat} {c0 c1 c2 c3 c4 c5 c6 c7 c8 : Value} (h : Cells w b 0 [c0, c1, c2, c3, c4, c5, c6, c7, c8]) :
  w.cell? ⟨b, 0, none⟩ = some c0 ∧ w.cell? ⟨b, 1, none⟩ = some c1 ∧ w.cell? ⟨b, 2, none⟩ = some c2 ∧ w.cell? ⟨b, 3, none⟩ = some c3 ∧ w.cell? ⟨b, 4, none⟩ = some c4 ∧ w.cell? ⟨b, 5, none⟩ = some c5 ∧ w.cell? ⟨b, 6, none⟩ = some c6 ∧ w.cell? ⟨b, 7, none⟩ = some c7 ∧ w.cell? ⟨b, 8, none⟩ = some c8 :=
 ⟨h 0 _ rfl, by simpa using h 1 _ rfl, by simpa using h 2 _ rfl, by simpa using h 3 _ rfl, by simpa using h 4 _ rfl, by simpa using h 5 _ rfl, by simpa using h 6 _ rfl, by simpa using h 7 _ rfl, by simpa using h 8 _ rfl⟩
theorem cellsAtS {W : World} {b : Nat} {cs : List Value} {t : TypeId} (h : W.heap[b]? = some (.cells cs.toArray t (0, 0))) : Cells W b 0 cs := fun j v hv => by
 rw [Nat.zero_add, cell_of_row W b j _ _ _ h]; simpa using hv
/-- Is there a split to speak of? -/
def atB (p : ProgD) (us : List Int) : Bool := foldB p && setOkB us (foldD p).atoms
theorem atB_B {p : ProgD} {us : List Int} (h : foldB p = true) : atB p us = setOkB us (foldD p).atoms := by simp only [atB, h, Bool.true_and]
theorem atB_fold {p : ProgD} {us : List Int} (h : atB p us = true) : foldB p = true ∧ setOkB us (foldD p).atoms = true := by simpa only [atB, Bool.and_eq_true] using h
theorem splB_at {p : ProgD} {us : List Int} (h : atB p us = false) : splB p us = false := by
 unfold splB splQ
 rw [← Bool.and_assoc, show (foldB p && setOkB us (foldD p).atoms) = false from h, Bool.false_and]
theorem splB_eq {w : World} {cs : List Value} {p : ProgD} {us : List Int} (h : Rd.R w cs p) (hn : atB p us = true) : ((clL (foldD p).rules (maskOf us) : Int) == (maskOf us : Int)) = splB p us := by
 obtain ⟨hF, hS⟩ := atB_fold hn
 rw [splB_yes hF, splQ_B hS, ← spl_eq (progOk_len hS (progOk_atoms (foldR_ok hF))) fun r hr => fits_ruleOk (rules12 (foldR_ok hF) r hr)]
 rfl
set_option maxHeartbeats 4000000 in
theorem splitBy_no {cs : List Value} {p : ProgD} {w : World} {v : Value} {xs : List Int} (h : Rd.R w cs p) (gx : RdL w [v] xs) (hn : atB p xs = false) :
  Calls Tryz.prog 111 #[.agg cs.toArray, v] w fun e w' => e = .returned (.tuple #[.agg #[.int .i64 0, .slice none 0 0, .slice none 0 0, .bool false, .slice none 0 0, .slice none 0 0, .slice none 0 0, .slice none 0 0, .int .u16 0], .bool false]) ∧ Below w.heap.size w w' := by
 cases hF : foldB p
 ·skip
  obtain ⟨p0, p1, p2, p3, p4, p5, p6, p7, rfl⟩ := list8 (Rd.len h)
  obtain ⟨ax, cx, rfl, _, hx⟩ := gx.sl
  have hxm := hx.1
  have t0 : Below w.heap.size w ((w.alloc (.cells #[p0, p1, p2, p3, p4, p5, p6, p7] 30)).alloc (.cells #[.int .i64 0, .slice none 0 0, .slice none 0 0, .bool false, .slice none 0 0, .slice none 0 0, .slice none 0 0, .slice none 0 0, .int .u16 0] 145)) := ((Below.refl _ _).alloc (by simp) _).alloc (by simp) _
  have hz := alloc_block (w.alloc (.cells #[p0, p1, p2, p3, p4, p5, p6, p7] 30)) #[.int .i64 0, .slice none 0 0, .slice none 0 0, .bool false, .slice none 0 0, .slice none 0 0, .slice none 0 0, .slice none 0 0, .int .u16 0] 145
  rw [World.size_alloc] at hz
  have hs0 : ((w.alloc (.cells #[p0, p1, p2, p3, p4, p5, p6, p7] 30)).alloc (.cells #[.int .i64 0, .slice none 0 0, .slice none 0 0, .bool false, .slice none 0 0, .slice none 0 0, .slice none 0 0, .slice none 0 0, .int .u16 0] 145)).heap.size = w.heap.size + 2 := by simp
  go_enter Tryz.func111, Tryz.ntmps111
  go_wp2_with fail
  refine (implFold_calls (Rd.mono t0 h)).mono ?_
  rintro e w1 ⟨cs1, he, o1, b1⟩
  rw [hF] at he
  subst he
  have t1 := t0.step b1
  have l1 := Rd.one o1.rd
  obtain ⟨x0, x1, x2, x3, x4, x5, x6, x7, rfl⟩ := list8 (Rd.len o1.rd)
  have st0 := sto Tryz.prog (l1 x0 (by simp))
  have st1 := sto Tryz.prog (l1 x1 (by simp))
  have st2 := sto Tryz.prog (l1 x2 (by simp))
  have st3 := sto Tryz.prog (l1 x3 (by simp))
  have st4 := sto Tryz.prog (l1 x4 (by simp))
  have st5 := sto Tryz.prog (l1 x5 (by simp))
  have st6 := sto Tryz.prog (l1 x6 (by simp))
  have st7 := sto Tryz.prog (l1 x7 (by simp))
  have o1 := o1.alloc (.cells #[x0, x1, x2, x3, x4, x5, x6, x7] 30)
  have CX1 := Cells.new w1 [x0, x1, x2, x3, x4, x5, x6, x7] 30
  have t1 := t1.alloc t1.size (.cells #[x0, x1, x2, x3, x4, x5, x6, x7] 30)
  clear l1
  have hz1 := (Below.heap_alloc w1 (.cells #[x0, x1, x2, x3, x4, x5, x6, x7] 30) (w.heap.size + 1) (by have := b1.size; omega)).trans ((b1.block _ (block_lt hz)).trans hz)
  have hbs : w.heap.size + 2 ≤ w1.heap.size := by have := b1.size; omega
  have hlz : w.heap.size + 1 < w1.heap.size := by omega
  go_upto_region 3 with fail
  clear st0 st1 st2 st3 st4 st5 st6 st7
  generalize w1.alloc (.cells #[x0, x1, x2, x3, x4, x5, x6, x7] 30) = wq at *
  have hfz := fun j => frozen_of_row wq (w.heap.size + 1) j _ _ hz1
  have hzl := block_lt hz1
  obtain ⟨z0, z1, z2, z3, z4, z5, z6, z7, z8⟩ := cells9S (cellsAtS (W := wq) (b := w.heap.size + 1) (cs := [.int .i64 0, .slice none 0 0, .slice none 0 0, .bool false, .slice none 0 0, .slice none 0 0, .slice none 0 0, .slice none 0 0, .int .u16 0]) hz1)
  clear hz1
  go_wp2
  refine bodyPost_ret (v := .tuple #[.agg #[.int .i64 0, .slice none 0 0, .slice none 0 0, .bool false, .slice none 0 0, .slice none 0 0, .slice none 0 0, .slice none 0 0, .int .u16 0], .bool false])
   (by simp [results, Tryz.results111, go_sem, z0, z1, z2, z3, z4, z5, z6, z7, z8]) rfl ?_
  refine ⟨rfl, ?_⟩
  repeat (refine Below.setCell ?_ (by simp; try omega) _)
  exact t1
 ·have hS : setOkB xs (foldD p).atoms = false := by rw [← atB_B hF]; exact hn
  obtain ⟨p0, p1, p2, p3, p4, p5, p6, p7, rfl⟩ := list8 (Rd.len h)
  obtain ⟨ax, cx, rfl, _, hx⟩ := gx.sl
  have hxm := hx.1
  have t0 : Below w.heap.size w ((w.alloc (.cells #[p0, p1, p2, p3, p4, p5, p6, p7] 30)).alloc (.cells #[.int .i64 0, .slice none 0 0, .slice none 0 0, .bool false, .slice none 0 0, .slice none 0 0, .slice none 0 0, .slice none 0 0, .int .u16 0] 145)) := ((Below.refl _ _).alloc (by simp) _).alloc (by simp) _
  have hz := alloc_block (w.alloc (.cells #[p0, p1, p2, p3, p4, p5, p6, p7] 30)) #[.int .i64 0, .slice none 0 0, .slice none 0 0, .bool false, .slice none 0 0, .slice none 0 0, .slice none 0 0, .slice none 0 0, .int .u16 0] 145
  rw [World.size_alloc] at hz
  have hs0 : ((w.alloc (.cells #[p0, p1, p2, p3, p4, p5, p6, p7] 30)).alloc (.cells #[.int .i64 0, .slice none 0 0, .slice none 0 0, .bool false, .slice none 0 0, .slice none 0 0, .slice none 0 0, .slice none 0 0, .int .u16 0] 145)).heap.size = w.heap.size + 2 := by simp
  go_enter Tryz.func111, Tryz.ntmps111
  go_wp2_with fail
  refine (implFold_calls (Rd.mono t0 h)).mono ?_
  rintro e w1 ⟨cs1, he, o1, b1⟩
  rw [hF] at he
  subst he
  have t1 := t0.step b1
  have l1 := Rd.one o1.rd
  obtain ⟨x0, x1, x2, x3, x4, x5, x6, x7, rfl⟩ := list8 (Rd.len o1.rd)
  have st0 := sto Tryz.prog (l1 x0 (by simp))
  have st1 := sto Tryz.prog (l1 x1 (by simp))
  have st2 := sto Tryz.prog (l1 x2 (by simp))
  have st3 := sto Tryz.prog (l1 x3 (by simp))
  have st4 := sto Tryz.prog (l1 x4 (by simp))
  have st5 := sto Tryz.prog (l1 x5 (by simp))
  have st6 := sto Tryz.prog (l1 x6 (by simp))
  have st7 := sto Tryz.prog (l1 x7 (by simp))
  have o1 := o1.alloc (.cells #[x0, x1, x2, x3, x4, x5, x6, x7] 30)
  have CX1 := Cells.new w1 [x0, x1, x2, x3, x4, x5, x6, x7] 30
  have t1 := t1.alloc t1.size (.cells #[x0, x1, x2, x3, x4, x5, x6, x7] 30)
  clear l1
  have hz1 := (Below.heap_alloc w1 (.cells #[x0, x1, x2, x3, x4, x5, x6, x7] 30) (w.heap.size + 1) (by have := b1.size; omega)).trans ((b1.block _ (block_lt hz)).trans hz)
  have hbs : w.heap.size + 2 ≤ w1.heap.size := by have := b1.size; omega
  have hlz : w.heap.size + 1 < w1.heap.size := by omega
  rw [foldR_yes hF] at o1
  obtain ⟨y0, y1, y2, y3, y4, y5, y6, y7⟩ := cells8 CX1
  have oR := o1.rd
  obtain ⟨_, _, _, _, _, _, hl, _⟩ := oR
  simp only [List.cons.injEq, and_true] at hl
  obtain ⟨rfl, -⟩ := hl
  have hx1 := (hx.later t1).ints
  go_upto_region 3 with (go_at_call 97; refine (implSetOk_calls _ _ _ _ _ hx1).mono ?_; rintro e w' ⟨he, rfl⟩; rw [hS] at he; subst he)
  clear st0 st1 st2 st3 st4 st5 st6 st7 y0 y1 y2 y3 y4 y5 y6 y7 o1 CX1 hx1
  generalize w1.alloc (.cells #[.int .i64 (foldD p).atoms, x1, x2, x3, x4, x5, x6, x7] 30) = wq at *
  have hfz := fun j => frozen_of_row wq (w.heap.size + 1) j _ _ hz1
  have hzl := block_lt hz1
  obtain ⟨z0, z1, z2, z3, z4, z5, z6, z7, z8⟩ := cells9S (cellsAtS (W := wq) (b := w.heap.size + 1) (cs := [.int .i64 0, .slice none 0 0, .slice none 0 0, .bool false, .slice none 0 0, .slice none 0 0, .slice none 0 0, .slice none 0 0, .int .u16 0]) hz1)
  clear hz1
  go_wp2
  refine bodyPost_ret (v := .tuple #[.agg #[.int .i64 0, .slice none 0 0, .slice none 0 0, .bool false, .slice none 0 0, .slice none 0 0, .slice none 0 0, .slice none 0 0, .int .u16 0], .bool false])
   (by simp [results, Tryz.results111, go_sem, z0, z1, z2, z3, z4, z5, z6, z7, z8]) rfl ?_
  refine ⟨rfl, ?_⟩
  repeat (refine Below.setCell ?_ (by simp; try omega) _)
  exact t1

theorem cells_putS {W : World} {b g : Nat} {cs vs : List Value} (h : Cells W b 0 cs) (hne : b ≠ g) : Cells (put W g 0 vs) b 0 cs := fun j v hv => by
 have := h j v hv
 rw [← this]
 exact World.cell?_of_block (a := ⟨b, 0 + j, none⟩) ((put_chg g vs W 0).block b (by simpa using hne))
set_option maxHeartbeats 4000000 in
theorem splitBy_yes {cs : List Value} {p : ProgD} {w : World} {v : Value} {xs : List Int} (h : Rd.R w cs p) (gx : RdL w [v] xs) (hn : atB p xs = true) :
  Calls Tryz.prog 111 #[.agg cs.toArray, v] w fun e w' => ∃ x0 x1 x2 x3 x4 x5 x6 x7, e = .returned (.tuple #[.agg #[x0, x1, x2, x3, x4, x5, x6, x7, .int .u16 (maskOf xs : Int)], .bool (splB p xs)]) ∧ Own w.heap.size w' [x0, x1, x2, x3, x4, x5, x6, x7] (foldD p) ∧ Below w.heap.size w w' := by
 obtain ⟨hF, hS⟩ := atB_fold hn
 have hmx := maskOf_lt xs
 have hsp := Lib.hid (splB_eq h hn)
 obtain ⟨p0, p1, p2, p3, p4, p5, p6, p7, rfl⟩ := list8 (Rd.len h)
 obtain ⟨ax, cx, rfl, _, hx⟩ := gx.sl
 have hxm := hx.1
 have t0 : Below w.heap.size w ((w.alloc (.cells #[p0, p1, p2, p3, p4, p5, p6, p7] 30)).alloc (.cells #[.int .i64 0, .slice none 0 0, .slice none 0 0, .bool false, .slice none 0 0, .slice none 0 0, .slice none 0 0, .slice none 0 0, .int .u16 0] 145)) := ((Below.refl _ _).alloc (by simp) _).alloc (by simp) _
 have hz := alloc_block (w.alloc (.cells #[p0, p1, p2, p3, p4, p5, p6, p7] 30)) #[.int .i64 0, .slice none 0 0, .slice none 0 0, .bool false, .slice none 0 0, .slice none 0 0, .slice none 0 0, .slice none 0 0, .int .u16 0] 145
 rw [World.size_alloc] at hz
 have hs0 : ((w.alloc (.cells #[p0, p1, p2, p3, p4, p5, p6, p7] 30)).alloc (.cells #[.int .i64 0, .slice none 0 0, .slice none 0 0, .bool false, .slice none 0 0, .slice none 0 0, .slice none 0 0, .slice none 0 0, .int .u16 0] 145)).heap.size = w.heap.size + 2 := by simp
 go_enter Tryz.func111, Tryz.ntmps111
 go_wp2_with fail
 refine (implFold_calls (Rd.mono t0 h)).mono ?_
 rintro e w1 ⟨cs1, he, o1, b1⟩
 rw [hF] at he
 subst he
 have t1 := t0.step b1
 have l1 := Rd.one o1.rd
 obtain ⟨x0, x1, x2, x3, x4, x5, x6, x7, rfl⟩ := list8 (Rd.len o1.rd)
 have st0 := sto Tryz.prog (l1 x0 (by simp))
 have st1 := sto Tryz.prog (l1 x1 (by simp))
 have st2 := sto Tryz.prog (l1 x2 (by simp))
 have st3 := sto Tryz.prog (l1 x3 (by simp))
 have st4 := sto Tryz.prog (l1 x4 (by simp))
 have st5 := sto Tryz.prog (l1 x5 (by simp))
 have st6 := sto Tryz.prog (l1 x6 (by simp))
 have st7 := sto Tryz.prog (l1 x7 (by simp))
 have o1 := o1.alloc (.cells #[x0, x1, x2, x3, x4, x5, x6, x7] 30)
 have CX1 := Cells.new w1 [x0, x1, x2, x3, x4, x5, x6, x7] 30
 have t1 := t1.alloc t1.size (.cells #[x0, x1, x2, x3, x4, x5, x6, x7] 30)
 clear l1
 have hz1 := (Below.heap_alloc w1 (.cells #[x0, x1, x2, x3, x4, x5, x6, x7] 30) (w.heap.size + 1) (by have := b1.size; omega)).trans ((b1.block _ (block_lt hz)).trans hz)
 have hbs : w.heap.size + 2 ≤ w1.heap.size := by have := b1.size; omega
 have hlz : w.heap.size + 1 < w1.heap.size := by omega
 rw [foldR_yes hF] at o1
 obtain ⟨y0, y1, y2, y3, y4, y5, y6, y7⟩ := cells8 CX1
 have oR := o1.rd
 obtain ⟨_, _, _, _, _, _, hl, _⟩ := oR
 simp only [List.cons.injEq, and_true] at hl
 obtain ⟨rfl, -⟩ := hl
 have hx1 := (hx.later t1).ints
 go_upto_region 5 with (first | (go_at_call 97; refine (implSetOk_calls _ _ _ _ _ hx1).mono ?_; rintro e w' ⟨he, rfl⟩; rw [hS] at he; subst he) | (go_at_call 76; refine (atomsIn_calls _ _ _ _ hx1).mono ?_; rintro e w' ⟨rfl, rfl⟩))
 clear y0 y1 y2 y3 y4 y5 y6 y7
 have o2 := o1.drew
 have t2 := t1.drew
 have CX2 := CX1.drew
 have hz2 : (w1.alloc (.cells #[.int .i64 (foldD p).atoms, x1, x2, x3, x4, x5, x6, x7] 30)).drew.heap[w.heap.size + 1]? = _ := hz1
 have hzs : w1.heap.size < (w1.alloc (.cells #[.int .i64 (foldD p).atoms, x1, x2, x3, x4, x5, x6, x7] 30)).drew.heap.size := by show w1.heap.size < (w1.alloc _).heap.size; simp
 clear hx1 t1 CX1 hz1
 refine wp_region_held_drew (S := fun W' => W'.cell? ⟨w1.heap.size, 0, none⟩ = some (.int .i64 (foldD p).atoms) ∧ W'.cell? ⟨w1.heap.size, 1, none⟩ = some x1 ∧ W'.cell? ⟨w1.heap.size, 2, none⟩ = some x2 ∧ W'.cell? ⟨w1.heap.size, 3, none⟩ = some x3 ∧ W'.cell? ⟨w1.heap.size, 4, none⟩ = some x4 ∧ W'.cell? ⟨w1.heap.size, 5, none⟩ = some x5 ∧ W'.cell? ⟨w1.heap.size, 6, none⟩ = some x6 ∧ W'.cell? ⟨w1.heap.size, 7, none⟩ = some x7) (by kernel_rfl) (cells8 CX2) (fun hHeld => ?_)
 generalize (w1.alloc (.cells #[.int .i64 (foldD p).atoms, x1, x2, x3, x4, x5, x6, x7] 30)).drew = wq at *
 refine tkY 0 (.agg #[.int .i64 (foldD p).atoms, x1, x2, x3, x4, x5, x6, x7]) 26 rfl rfl (fun w' hw' => ?_) hHeld ?_
 ·first | (go_simp; done) | (obtain ⟨s0, s1, s2, s3, s4, s5, s6, s7⟩ := hw'; go_simp; done)
 try simp only [Act.put, put1, put2, put3]
 refine tkY 1 (.int .u16 (maskOf xs : Int)) 27 rfl rfl (fun w' hw' => ?_) hHeld ?_
 ·first | (go_simp; done) | (obtain ⟨s0, s1, s2, s3, s4, s5, s6, s7⟩ := hw'; go_simp; done)
 try simp only [Act.put, put1, put2, put3]
 refine tkY 2 (.agg #[.int .i64 (foldD p).atoms, x1, x2, x3, x4, x5, x6, x7, .int .u16 (maskOf xs : Int)]) 28 rfl rfl (fun w' hw' => ?_) hHeld ?_
 ·first | (go_simp; done) | (obtain ⟨s0, s1, s2, s3, s4, s5, s6, s7⟩ := hw'; go_simp; done)
 try simp only [Act.put, put1, put2, put3]
 refine tkY 3 (.agg #[.int .i64 (foldD p).atoms, x1, x2, x3, x4, x5, x6, x7]) 29 rfl rfl (fun w' hw' => ?_) hHeld ?_
 ·first | (go_simp; done) | (obtain ⟨s0, s1, s2, s3, s4, s5, s6, s7⟩ := hw'; go_simp; done)
 try simp only [Act.put, put1, put2, put3]
 refine tkY 4 (.int .u16 (maskOf xs : Int)) 30 rfl rfl (fun w' hw' => ?_) hHeld ?_
 ·first | (go_simp; done) | (obtain ⟨s0, s1, s2, s3, s4, s5, s6, s7⟩ := hw'; go_simp; done)
 try simp only [Act.put, put1, put2, put3]
 refine tkY 6 (.int .u16 (maskOf xs : Int)) 32 rfl rfl (fun w' hw' => ?_) hHeld ?_
 ·first | (go_simp; done) | (obtain ⟨s0, s1, s2, s3, s4, s5, s6, s7⟩ := hw'; go_simp; done)
 try simp only [Act.put, put1, put2, put3]
 refine wpAnyH_ready (rs := [5]) (by kernel_rfl) (by simp) ?_
 refine AllReadyH.cons rfl (fun K hK => ?_) AllReadyH.nil
 go_simp
 refine (closure_calls _ hmx o2.rd).mono ?_
 rintro e w2 ⟨rfl, b2⟩
 have CX2 := CX2.later b2
 have hz3 := (b2.block _ (block_lt hz2)).trans hz2
 have o3 := o2.later b2
 have t3 := t2.step b2
 have hsz := b2.size
 have hfz := fun j => frozen_of_row w2 (w.heap.size + 1) j _ _ hz3
 have hzl := block_lt hz3
 obtain ⟨z0, z1, z2, z3, z4, z5, z6, z7, z8⟩ := cells9S (cellsAtS (W := w2) (b := w.heap.size + 1) (cs := [.int .i64 0, .slice none 0 0, .slice none 0 0, .bool false, .slice none 0 0, .slice none 0 0, .slice none 0 0, .slice none 0 0, .int .u16 0]) hz3)
 generalize clL (foldD p).rules (maskOf xs) = C at *
 generalize hMe : maskOf xs = M at *
 replace hMe := Lib.hid hMe
 refine hK.out _ _ (cells8 CX2) (fun hHeld => ?_)
 clear hK K
 try simp only [Act.put, put1, put2, put3]
 refine tkY 7 (.bool ((C : Int) == (M : Int))) 33 rfl rfl (fun w' hw' => ?_) hHeld ?_
 ·first | (go_simp; done) | (obtain ⟨s0, s1, s2, s3, s4, s5, s6, s7⟩ := hw'; go_simp; done)
 try simp only [Act.put, put1, put2, put3]
 refine wpAnyH_ready (rs := [8]) (by kernel_rfl) (by simp) ?_
 refine AllReadyH.cons rfl (fun K hK => ?_) AllReadyH.nil
 go_simp
 refine hK.out _ _ (cells8 (cells_putS (g := w.heap.size + 1) (vs := [.int .i64 (foldD p).atoms, x1, x2, x3, x4, x5, x6, x7, .int .u16 (M : Int)]) CX2 (by omega))) (fun hHeld => ?_)
 clear hK K
 try simp only [Act.put, put1, put2, put3]
 refine tkY 9 (.bool ((C : Int) == (M : Int))) 5 rfl rfl (fun w' hw' => ?_) hHeld ?_
 ·first | (go_simp; done) | (obtain ⟨s0, s1, s2, s3, s4, s5, s6, s7⟩ := hw'; go_simp; done)
 try simp only [Act.put, put1, put2, put3]
 refine wpAnyH_done (by kernel_rfl) ?_ _
 go_wp2
 refine bodyPost_ret (v := .tuple #[.agg #[.int .i64 (foldD p).atoms, x1, x2, x3, x4, x5, x6, x7, .int .u16 (M : Int)], .bool ((C : Int) == (M : Int))])
  (by simp [results, Tryz.results111, go_sem, z0, z1, z2, z3, z4, z5, z6, z7, z8]) rfl ⟨.int .i64 (foldD p).atoms, x1, x2, x3, x4, x5, x6, x7, by rw [hMe.out, ← hsp.out], ?_, ?_⟩
 ·obtain ⟨fp, hO, hfp⟩ := o3
  exact ⟨fp, Ow.kept (w' := put w2 (w.heap.size + 1) 0 [.int .i64 (foldD p).atoms, x1, x2, x3, x4, x5, x6, x7, .int .u16 (M : Int)]) hO fun f hf => (put_chg (w.heap.size + 1) _ w2 0).block f (by have := hfp f hf; simp; omega), fun f hf => by have := hfp f hf; omega⟩
 ·repeat (refine Below.setCell ?_ (by simp; try omega) _)
  exact t3

/-! ### SplC -/




end Go.Proofs.YthikhkeofcjdfaaGreat
