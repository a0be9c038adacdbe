/-
  What a set costs: both sides. No condition of its own.
-/
import Derived.Test.YtiemlklngmifdaaGreatRank
import Derived.Test.YtiemlklngmifdaaGreatBody
import Derived.Test.YtiemlklngmifdaaGreatImplProg
import Derived.Test.YtiemlklngmifdaaGreatSpecProg
namespace Go.Proofs.YtiemlklngmifdaaGreat
set_option linter.unusedVariables false
set_option linter.unusedSimpArgs false
open Go.RowKit
set_option maxRecDepth 100000

/-- Levels that rise, their literals few and small. -/
def LvOk (ls : List LevelD) : Prop := ls.length ≤ 1048576 ∧ ∀ l ∈ ls, l.lits.length ≤ 1048576 ∧ ∀ q ∈ l.lits, -1000 ≤ q.2 ∧ q.2 ≤ 1000
theorem levels_ok {ls : List LevelD} {n : Int} (h : levelsB ls n = true) : LvOk ls ∧ ls.length ≤ 6 ∧ ls.Pairwise (fun a b => a.p < b.p) := by
  simp only [levelsB, Bool.and_eq_true, decide_eq_true_eq] at h
  obtain ⟨h6, ht⟩ := h
  have hat : ∀ k, k < ls.length → (k = 0 ∨ (nth ls (k - 1)).p < (nth ls k).p) ∧ (nth ls k).lits.length ≤ 20 ∧ ∀ q ∈ (nth ls k).lits, -1000 ≤ q.2 ∧ q.2 ≤ 1000 := fun k hk => by
    have := toB_at ht hk
    simp only [levelB, Bool.and_eq_true, decide_eq_true_eq, List.all_eq_true] at this
    obtain ⟨⟨_, h1⟩, h2, h3⟩ := this
    refine ⟨h1, h2, fun q hq => ?_⟩
    have h4 := h3 q hq
    simp only [levLitB, btwB, Bool.and_eq_true, decide_eq_true_eq] at h4
    exact h4.2
  refine ⟨⟨by omega, fun l hl => ?_⟩, h6, ?_⟩
  · obtain ⟨k, hk, rfl⟩ := List.getElem_of_mem hl
    rw [← nth_eq hk]
    have := hat k hk
    exact ⟨by omega, this.2.2⟩
  · rw [List.pairwise_iff_getElem]
    have key : ∀ d i, i + d + 1 < ls.length → (nth ls i).p < (nth ls (i + d + 1)).p := fun d => by
      induction d with
      | zero => intro i hi; have := (hat (i + 1) (by omega)).1; simp at this; exact this
      | succ d ih =>
        intro i hi
        have h1 := ih i (by omega)
        have h2 := (hat (i + (d + 1) + 1) hi).1
        rw [show i + (d + 1) + 1 - 1 = i + d + 1 by omega] at h2
        rcases h2 with h2 | h2
        · omega
        · omega
    intro i j hi hj hij
    have := key (j - i - 1) i (by omega)
    rw [show i + (j - i - 1) + 1 = j by omega, nth_eq hi, nth_eq hj] at this
    exact this
theorem progOk_levels {p : ProgD} (h : progOkB p = true) : levelsB p.levels p.atoms = true := by
  simp only [progOkB, Bool.and_eq_true] at h
  exact h.2.2.1

/-- What a level costs: in the code's words, and in the model's. -/
def costM (m : Nat) (l : LevelD) : Int := sumH (fun q => litW m m q.1) l.lits
def costB (xs : List Int) (l : LevelD) : Int := sumH (fun q => holdsB xs q.1) l.lits
theorem litW_same (m : Nat) (l : Int) : litW m m l = litM m l := by unfold litW; split <;> rfl
theorem cost_same {xs : List Int} {l : LevelD} (hf : ∀ q ∈ l.lits, Fits q.1 ∧ Fits q.2) : costM (maskOf xs) l = costB xs l := sumH_congr fun q hq => by
  rw [litW_same, litM_same xs q.1 (hf q hq).1]
/-- What a set costs. -/
def costsB (p : ProgD) (xs : List Int) : List Int := if progOkB p then p.levels.reverse.map (costB xs) else []
theorem costsB_no {p : ProgD} {xs : List Int} (h : progOkB p = false) : costsB p xs = [] := by unfold costsB; rw [h]; rfl
theorem costsB_yes {p : ProgD} {xs : List Int} (h : progOkB p = true) : costsB p xs = p.levels.reverse.map (costB xs) := by unfold costsB; rw [h]; rfl

theorem cost_calls {cs : List Value} {l : LevelD} {w : World} (m : Nat) (hm : m < 4096) (h : Rd.R w cs l) (hl : l.lits.length ≤ 1048576 ∧ ∀ q ∈ l.lits, -1000 ≤ q.2 ∧ q.2 ≤ 1000) :
    Calls Tryz.prog 109 #[.agg cs.toArray, .int .u16 (m : Int)] w fun e w' => e = .returned (.int .i64 (costM m l)) ∧ Below w.heap.size w w' := by
  obtain ⟨c1, rfl, hf, g1⟩ := h
  obtain ⟨a, c, rfl, _, _⟩ := g1.sl
  have t0 : Below w.heap.size w (w.alloc (.cells #[.int .i64 l.p, .slice a l.lits.length c] 102)) := (Below.refl _ _).alloc (Nat.le_refl _) _
  have HQ := Lib.hid (reached_calls m m hm hm (Rd.mono (α := List (Int × Int)) t0 g1) hl.2 hl.1)
  clear g1 hl
  go_enter Tryz.func109, Tryz.ntmps109
  go_wp2_with fail
  refine HQ.out.mono ?_
  rintro e w2 ⟨rfl, hb⟩
  go_wp2
  go_ret
  exact ⟨rfl, t0.step hb⟩

theorem costM_fits {m : Nat} {l : LevelD} (hl : l.lits.length ≤ 1048576 ∧ ∀ q ∈ l.lits, -1000 ≤ q.2 ∧ q.2 ≤ 1000) : -1048576000 ≤ costM m l ∧ costM m l ≤ 1048576000 := by
  have := sumH_ab (f := fun q => litW m m q.1) (l := l.lits) hl.2
  unfold costM
  omega

set_option maxHeartbeats 2000000 in
theorem costsIn_calls {v : Value} {ls : List LevelD} {w : World} (m : Nat) (hm : m < 4096) (h : RdL w [v] ls) (hok : LvOk ls) :
    Calls Tryz.prog 49 #[v, .int .u16 (m : Int)] w fun e w' => ∃ u, e = .returned u ∧ OwnI w.heap.size w' u (ls.map (costM m)) ∧ Below w.heap.size w w' := by
  obtain ⟨i0, hi, hz0, hz1, hz2⟩ := info_parts info_int
  obtain ⟨a, c, rfl, _, hr⟩ := h.sl
  obtain ⟨hl, HOK⟩ := hok
  have HOK := Lib.hid HOK
  have hml := hr.1
  clear h
  go_enter Tryz.func49, Tryz.ntmps49
  go_wp2_with (at_make; refine wpList_make_own _ rfl _ _ 24 rfl w.heap.size 3 i0 (.int .i64 0) 1 Tryz.underlying24 hi hz0 hz1 _ _ _ ls.length rfl rfl rfl ?c1 ?c2 ?c3 ?_)
  case c1 => rw [hz2]; omega
  case c2 => unfold maxLen; omega
  case c3 => exact Nat.le_refl _
  intro w2 hown hgrow
  have ho0 : OwnI w.heap.size w2 (.slice (some ⟨w.heap.size, 0, none⟩) 0 ls.length) ((ls.take 0).map (costM m)) := ⟨by simpa using hown, by simp, by simp⟩
  have hb2 : Below w.heap.size w w2 := (Below.refl _ _).grown hgrow (Nat.le_refl _) (fun k hk => by cases hk)
  clear hown hgrow
  by_cases hne : 0 < ls.length
  · obtain ⟨b, off, rfl, hcb⟩ := hr.base hne
    have HCB := Lib.hid hcb
    clear hcb hr
    go_wp2_with fail
    go_loopw [5, 13] (fun u i wr => ∃ k : Nat, k ≤ ls.length ∧ i = .int .i64 k ∧ OwnI w.heap.size wr u ((ls.take k).map (costM m)) ∧ Below w.heap.size w wr) (fun _ i _ => ls.length - (intOf i).toNat)
    case atStart => exact ⟨0, Nat.zero_le _, rfl, ho0, hb2⟩
    case round =>
      obtain ⟨k, hk, rfl, ho, hb⟩ := hrel
      have hol : ((ls.take k).map (costM m)).length ≤ 1048576 := by rw [List.length_map, List.length_take]; omega
      by_cases hlt : k < ls.length
      · obtain ⟨ecs, hC, hR⟩ := HCB.out k hlt
        have hC := hC.later hb
        have hR := Rd.mono hb hR
        have hlk := HOK.out _ (nth_mem hlt)
        have hkk : Rd.k LevelD = 2 := rfl
        have hfit := costM_fits (m := m) hlk
        have HT : Hid ((ls.take (k + 1)).map (costM m) = (ls.take k).map (costM m) ++ [costM m (nth ls k)]) := by show _ = _; rw [take_nth hlt, List.map_append]; rfl
        have HR := Lib.hid hR
        obtain ⟨c1, rfl, hf1, g1⟩ := hR
        obtain ⟨la, lc, rfl, _, _⟩ := g1.sl
        rw [hkk] at hC
        have u0 := hC.c0
        have u1 := hC.c1
        have tA := hb.alloc hb.size (.cells #[.int .i64 (nth ls k).p, .slice la (nth ls k).lits.length lc] 102)
        have HQ := Lib.hid (cost_calls m hm (Rd.mono ((Below.refl wr.heap.size wr).alloc (Nat.le_refl _) (.cells #[.int .i64 (nth ls k).p, .slice la (nth ls k).lits.length lc] 102)) HR.out) hlk)
        have hoA := ho.kept ((Below.refl wr.heap.size wr).alloc (Nat.le_refl _) (.cells #[.int .i64 (nth ls k).p, .slice la (nth ls k).lits.length lc] 102))
        clear hC g1 hlk hkk
        generalize costM m (nth ls k) = cc at *
        go_wp2_with (first | (go_at_call 109; refine HQ.out.mono ?_; rintro e w3 ⟨rfl, hb3⟩; have ho3 := hoA.kept hb3) | (at_builtin; refine wpList_append_int rfl _ _ rfl rfl ho3 rfl (by omega) ⟨by omega, by omega⟩ (by have := (tA.step hb3).size; omega) ?_; intro v' w' ho' hb' hg'))
        have hbe := (tA.step hb3).trans (hb'.mono (Nat.le_refl _))
        go_roundw
        case rel => exact ⟨k + 1, by omega, by go_num, by rw [HT.out]; exact ho', hbe⟩
        case measure => simp [intOf]; omega
      · have hkx : Hid ((ls.take k).map (costM m) = ls.map (costM m)) := by show _ = _; rw [List.take_of_length_le (by omega)]
        obtain ⟨pa, pc, rfl, _, _⟩ := ho.open
        go_wp2
        go_ret
        exact ⟨_, rfl, by rw [← hkx.out]; exact ho, hb⟩
  · have hln : ls = [] := List.eq_nil_of_length_eq_zero (by omega)
    subst hln
    go_wp2_with fail
    refine wp_loop_rounds 1 ?_
    rw [rounds_succ]
    go_wp2
    go_ret
    exact ⟨_, rfl, ho0, hb2⟩

theorem costs_same {p : ProgD} {xs : List Int} (h : progOkB p = true) (hf : ∀ l ∈ p.levels, ∀ q ∈ l.lits, Fits q.1 ∧ Fits q.2) : p.levels.reverse.map (costM (maskOf xs)) = costsB p xs := by
  rw [costsB_yes h]
  exact List.map_congr_left fun l hl => cost_same (hf l (List.mem_reverse.1 hl))


theorem drop_step {ls : List LevelD} {f : LevelD → Int} {j : Nat} (hj : j < ls.length) : (ls.drop j).reverse.map f = (ls.drop (j + 1)).reverse.map f ++ [f (nth ls j)] := by
  rw [List.drop_eq_getElem_cons hj, List.reverse_cons, List.map_append, nth_eq hj]; rfl
theorem costB_fits {xs : List Int} {l : LevelD} (hl : l.lits.length ≤ 1048576 ∧ ∀ q ∈ l.lits, -1000 ≤ q.2 ∧ q.2 ≤ 1000) : -1048576000 ≤ costB xs l ∧ costB xs l ≤ 1048576000 := by
  have := sumH_ab (f := fun q => holdsB xs q.1) (l := l.lits) hl.2
  unfold costB
  omega

set_option maxHeartbeats 4000000 in
theorem specCostsOf_calls {cs : List Value} {p : ProgD} {v : Value} {xs : List Int} {w : World} (h : Rd.R w cs p) (gx : RdL w [v] xs) :
    Calls Tryz.prog 41 #[.agg cs.toArray, v] w fun e w' => ∃ u, e = .returned u ∧ Own w.heap.size w' [u] (costsB p xs) ∧ Below w.heap.size w w' := by
  have hfl : ∀ l ∈ p.levels, ∀ q ∈ l.lits, Fits q.1 ∧ Fits q.2 := by
    obtain ⟨c1, c2, c4, c5, c6, c7, _, hf, g1, g2, _⟩ := h
    exact rd_levels g2
  have HFL := Lib.hid hfl
  clear hfl
  have HR := Lib.hid h
  obtain ⟨ax, cx, rfl, _, hx⟩ := gx.sl
  obtain ⟨c1, c2, c4, c5, c6, c7, rfl, hf, g1, g2, g4, g5, g6, g7⟩ := h
  obtain ⟨a2, q2, rfl, _, h2⟩ := g2.sl
  have hm2 := h2.1
  have o1 := g1.one1
  have o4 := g4.one1
  have o5 := g5.one1
  have o6 := g6.one1
  have o7 := g7.one1
  have CX0 := Cells.new w [.int .i64 p.atoms, c1, .slice a2 p.levels.length q2, .bool p.projOn, c4, c5, c6, c7] 40
  have t0 : Below w.heap.size w (w.alloc (.cells #[.int .i64 p.atoms, c1, .slice a2 p.levels.length q2, .bool p.projOn, c4, c5, c6, c7] 40)) := (Below.refl _ _).alloc (by simp) _
  have hn0 := OwnI.new (w.alloc (.cells #[.int .i64 p.atoms, c1, .slice a2 p.levels.length q2, .bool p.projOn, c4, c5, c6, c7] 40)) (w.heap.size + 1) (by simp)
  rw [World.size_alloc] at hn0
  have CX1 := CX0.alloc (.cells #[] 3)
  have t1 := t0.alloc t0.size (.cells #[] 3)
  obtain ⟨x0, x1, x2, x3, x4, x5, x6, x7⟩ := cells8 CX1
  have HI := Lib.hid (specProgOk_calls (Rd.mono t1 HR.out))
  clear g1 g2 g4 g5 g6 g7 hf CX0 t0
  cases hok : progOkB p
  · rw [hok] at HI
    have hv := Lib.hid (costsB_no (xs := xs) hok)
    clear hok
    go_enter Tryz.func41, Tryz.ntmps41
    go_wp2_with fail
    refine HI.out.mono ?_
    rintro e w1 ⟨rfl, b1⟩
    go_wp2
    go_ret
    exact ⟨_, rfl, by rw [hv.out]; exact (hn0.kept b1).own.mono (by omega), t1.step b1⟩
  rw [hok] at HI
  have HLV := Lib.hid (levels_ok (progOk_levels hok))
  have HV := Lib.hid (costsB_yes (xs := xs) hok)
  have hlen6 : p.levels.length ≤ 6 := HLV.out.2.1
  clear hok
  go_enter Tryz.func41, Tryz.ntmps41
  go_wp2_with fail
  refine HI.out.mono ?_
  rintro e w1 ⟨rfl, b1⟩
  have t2 := t1.step b1
  have hn1 := hn0.kept b1
  have HX1 := Lib.hid (CX1.later b1)
  clear x0 x1 x2 x3 x4 x5 x6 x7 CX1 t1 b1 hn0
  obtain ⟨x0, x1, x2, x3, x4, x5, x6, x7⟩ := cells8 HX1.out
  go_wp2_with fail
  go_loopw [5, 6] (fun u q wr => ∃ i : Nat, i ≤ p.levels.length ∧ q = .int .i64 ((i : Int) - 1) ∧ OwnI (w.heap.size + 1) wr u ((p.levels.drop i).reverse.map (costB xs)) ∧ Hid (Cells wr w.heap.size 0 [.int .i64 p.atoms, c1, .slice a2 p.levels.length q2, .bool p.projOn, c4, c5, c6, c7]) ∧ Below w.heap.size w wr) (fun _ q _ => (intOf q + 1).toNat)
  case atStart => exact ⟨p.levels.length, Nat.le_refl _, by go_num, by rw [List.drop_eq_nil_of_le (Nat.le_refl _)]; exact hn1, HX1, t2⟩
  case round =>
    obtain ⟨i, hi, rfl, ho, hX, hb⟩ := hrel
    clear x0 x1 x2 x3 x4 x5 x6 x7
    obtain ⟨x0, x1, x2, x3, x4, x5, x6, x7⟩ := cells8 hX.out
    cases i with
    | zero =>
      have HE : Hid ((p.levels.drop 0).reverse.map (costB xs) = costsB p xs) := by show _ = _; rw [HV.out]; rfl
      generalize (p.levels.drop 0).reverse.map (costB xs) = R at *
      have HO := Lib.hid (ho.own.mono (show w.heap.size ≤ w.heap.size + 1 by omega))
      obtain ⟨pa, pc, rfl, _, _⟩ := ho.open
      clear ho
      go_wp2
      go_ret
      exact ⟨_, rfl, by rw [← HE.out]; exact HO.out, hb⟩
    | succ j =>
      rw [show (((j + 1 : Nat) : Int) - 1) = (j : Int) by omega]
      have hj : j < p.levels.length := by omega
      obtain ⟨b, off, rfl, hcb⟩ := h2.base (by omega)
      obtain ⟨ecs, hC, hRl⟩ := hcb j hj
      have hC := hC.later hb
      have hRl := Rd.mono hb hRl
      have hkk : Rd.k LevelD = 2 := rfl
      rw [hkk] at hC
      obtain ⟨l1, rfl, hfp, gl⟩ := hRl
      obtain ⟨la, lc, rfl, _, hlr⟩ := gl.sl
      have u1 := hC.c1
      have hlm := hlr.1
      have hlk := HLV.out.1.2 _ (nth_mem hj)
      have HLK := Lib.hid hlk
      have hll : (nth p.levels j).lits.length ≤ 1048576 := hlk.1
      have hfit := costB_fits (xs := xs) hlk
      have HFJ := Lib.hid (HFL.out _ (nth_mem hj))
      have HD : Hid ((p.levels.drop j).reverse.map (costB xs) = (p.levels.drop (j + 1)).reverse.map (costB xs) ++ [costB xs (nth p.levels j)]) := drop_step hj
      have hRL : ((p.levels.drop (j + 1)).reverse.map (costB xs)).length ≤ 1048576 := by rw [List.length_map, List.length_reverse, List.length_drop]; omega
      have hjl : (j : Int) < (p.levels.length : Int) := by omega
      have HXI := Lib.hid ((hx.later hb).ints)
      have HCE : Hid (costB xs (nth p.levels j) = sumH (fun q => holdsB xs q.1) (nth p.levels j).lits) := rfl
      clear hC hcb gl hlk
      generalize (p.levels.drop (j + 1)).reverse.map (costB xs) = R at *
      generalize costB xs (nth p.levels j) = cc at *
      generalize (nth p.levels j).lits = lits at *
      obtain ⟨wo, rfl⟩ : ∃ wo, wo = wr := ⟨_, rfl⟩
      go_upto_region 9 with fail
      go_loop [7, 8] (fun sm r => ∃ k : Nat, k ≤ lits.length ∧ r = .int .i64 (k : Int) ∧ sm = .int .i64 (sumH (fun q => holdsB xs q.1) (lits.take k))) (fun _ r => lits.length - (intOf r).toNat)
      case atStart => exact ⟨0, Nat.zero_le _, rfl, rfl⟩
      case round =>
        obtain ⟨k, hk, rfl, rfl⟩ := hrel
        obtain ⟨hs1, hs2⟩ := sumH_take_ab (f := fun q => holdsB xs q.1) k HLK.out.2 hll
        by_cases hlt : k < lits.length
        · obtain ⟨b', off', rfl, hlc⟩ := hlr.base (by omega)
          obtain ⟨ecs, hC, hR2⟩ := hlc k hlt
          obtain ⟨rfl, hF1, hF2⟩ := hR2
          have v0 := hC.c0
          have v1 := hC.c1
          rw [show Rd.k (Int × Int) = 2 from rfl] at v0 v1
          obtain ⟨hw1, hw2⟩ := HLK.out.2 _ (nth_mem hlt)
          have hkl : (k : Int) < (lits.length : Int) := by omega
          clear hC hlc
          cases hH : holdsB xs (nth lits k).1
          · have hsn := Lib.hid (sumH_no (f := fun q => holdsB xs q.1) hlt hH)
            go_wp2_with (go_at_call 95; refine (specHolds_calls _ _ _ _ _ HXI.out hF1).mono ?_; rintro e w' ⟨rfl, rfl⟩)
            go_round
            case rel => exact ⟨k + 1, by omega, by go_num, by rw [hsn.out]⟩
            case measure => simp [intOf]; omega
          · have hsy := Lib.hid (sumH_yes (f := fun q => holdsB xs q.1) hlt hH)
            go_wp2_with (go_at_call 95; refine (specHolds_calls _ _ _ _ _ HXI.out hF1).mono ?_; rintro e w' ⟨rfl, rfl⟩)
            go_round
            case rel => exact ⟨k + 1, by omega, by go_num, by rw [hsy.out]⟩
            case measure => simp [intOf]; omega
        · have hse : Hid (sumH (fun q => holdsB xs q.1) (lits.take k) = cc) := by show _ = _; rw [HCE.out]; exact sumH_end (by omega)
          have hkl : (lits.length : Int) ≤ (k : Int) := by omega
          rw [hse.out] at hs1 hs2
          rw [hse.out]
          have hkx : k = lits.length := by omega
          clear hlt
          go_wp2_with (at_builtin; refine wpList_append_int rfl _ _ rfl rfl ho rfl (by omega) ⟨by omega, by omega⟩ (by have := hX.out.lt; omega) ?_; intro v' w' ho' hb' hg')
          have hbe := hb.trans (hb'.mono (by omega))
          have hXe := Lib.hid (hX.out.kept (hb'.block _ (by omega)))
          go_roundw
          case rel => exact ⟨j, by omega, by go_num, by rw [HD.out]; exact ho', hXe, hbe⟩
          case measure => simp [intOf]

end Go.Proofs.YtiemlklngmifdaaGreat
