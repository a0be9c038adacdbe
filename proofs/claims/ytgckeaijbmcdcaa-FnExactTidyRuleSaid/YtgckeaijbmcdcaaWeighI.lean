/-
  The program's tidying of a rule with Weight. No condition of its own.
-/
import Derived.Test.YtgckeaijbmcdcaaUnwD
import Derived.Test.YtgckeaijbmcdcaaWithout
import Derived.Deep.RegionHeld3
import Derived.Deep.RegionWith
namespace Go.Proofs.Ytgckeaijbmcdcaa
open Go.RowKit
set_option maxRecDepth 100000

def TWp (r : RuleD) (c1 : Value) (lo : Nat) (w' : World) (cs' : List Value) (s : Bool) : Prop :=
  (s = false ∧ cs' = [.bool false, .slice none 0 0, .bool false, .int .i64 0, .slice none 0 0] ∧ tidyW r = none) ∨
  (s = true ∧ ∃ (wt : Bool) (bd : Int) (v : Value) (ys : List Pr), cs' = [.bool r.choice, c1, .bool wt, .int .i64 bd, v] ∧ PRow lo (fun f => lo ≤ f) w' v ys ∧
    ((wt = false ∧ bd = 0 ∧ WBg ys ∧ tidyW r = tidyU r.choice r.heads ys) ∨ (wt = r.weight ∧ bd = r.bound ∧ tidyW r = some { r with body := ys })))
theorem once_big {xs : List Pr} (h : WOk xs) : WBg (onceL xs) :=
  ⟨by have h1 : (onceL xs).length ≤ (ordL xs).length := onceTo_len _ _
      have h2 := ordL_len h.big.inR
      have := h.1
      omega, fun p hp => ⟨onceL_in h.big.inR p hp, by have := once_w (ys := ordL xs) p hp; omega⟩⟩
def minF (b : Int) (p : Pr) : Pr := (p.1, minI p.2 b)
theorem min_gath (xs : List Pr) (b : Int) : (gathL xs).map (minF b) = mergedL xs b := gath_min xs b
theorem rd_nilP (w : World) : RdL (α := Pr) w [.slice none 0 0] [] := (show OwL (α := Pr) w [.slice none 0 0] [] [] from ⟨none, 0, rfl, Nat.le_refl _, by omega, .inl ⟨rfl, rfl⟩⟩).rd
theorem gath_fits {xs : List Pr} (h : WOk xs) : ∀ p ∈ gathL xs, 0 ≤ p.2 ∧ p.2 ≤ 20000 := fun p hp => by
  unfold gathL at hp
  obtain ⟨q, _, rfl⟩ := List.mem_map.1 hp
  have h1 := sumH_bd (f := fun p => p.1 == q.1) h.w
  have h2 := h.1
  exact ⟨h1.1, by show sumH (fun p => p.1 == q.1) xs ≤ 20000; omega⟩
theorem minI_min (a b : Int) : minI a b = min a b := by unfold minI; rw [Int.min_def]; split <;> split <;> omega

theorem takeW {P : Program} {ops : Array Oper} {Q : Exit → Act → World → Prop} {md : Region.Mode} {S : World → Prop} {i : Nat} {oi : Oper} {v : Value} (d : Option Tmp) {fuel : Nat} {listed : Array Bool} {a : Act} {w : World} (hi : ops[i]? = some oi) (hd : oi.dst = d)
    (hs : Region.noSelect ops = true) (hf : Region.free md ops listed i = true) (hr : (Region.ready md ops listed).contains i = true)
    (hQ : ∀ c a w, Q (.panic c) (a.put oi.dst v) w → Q (.panic c) a w) (hy : YieldsIf P ops S oi v a) (hS : S w)
    (h : wpAnyH P md ops Q S fuel (listed.setIfInBounds i true) (a.put d v) w) : wpAnyH P md ops Q S (fuel + 1) listed a w := by
  subst hd
  exact wpAnyH_take hi hs hf hr hQ hy hS h

set_option maxHeartbeats 4000000 in
theorem tidyWeighted_calls {r : RuleD} {c1 c4 : Value} {w : World} (h1 : RdL w [c1] r.heads) (h4 : RdL w [c4] r.body) (hw : WOk r.body) (hbd : -100000 ≤ r.bound ∧ r.bound ≤ 100000) :
    Calls Try.prog 59 #[.agg #[.bool r.choice, c1, .bool r.weight, .int .i64 r.bound, c4]] w fun e w' =>
      ∃ cs' s, e = .returned (.tuple #[.agg cs'.toArray, .bool s]) ∧ TWp r c1 w.heap.size w' cs' s ∧ Below w.heap.size w w' := by
  obtain ⟨ah, kh, rfl, _, hh⟩ := h1.sl
  obtain ⟨ab, kb, rfl, _, _⟩ := h4.sl
  obtain ⟨hbd0, hbd1⟩ := hbd
  have t0 : Below w.heap.size w ((w.alloc (.cells #[.bool r.choice, .slice ah r.heads.length kh, .bool r.weight, .int .i64 r.bound, .slice ab r.body.length kb] 48)).alloc (.cells #[.bool false, .slice none 0 0, .bool false, .int .i64 0, .slice none 0 0] 48)) := ((Below.refl _ _).alloc (by simp) _).alloc (by simp) _
  have CP := (Cells.new w [.bool r.choice, .slice ah r.heads.length kh, .bool r.weight, .int .i64 r.bound, .slice ab r.body.length kb] 48).alloc (.cells #[.bool false, .slice none 0 0, .bool false, .int .i64 0, .slice none 0 0] 48)
  have hbA := (((Below.refl _ _).alloc (Nat.le_refl _) (.cells #[.bool false, .slice none 0 0, .bool false, .int .i64 0, .slice none 0 0] 48)).block w.heap.size (by simp)).trans (alloc_block w #[.bool r.choice, .slice ah r.heads.length kh, .bool r.weight, .int .i64 r.bound, .slice ab r.body.length kb] 48)
  have hb0 := alloc_block (w.alloc (.cells #[.bool r.choice, .slice ah r.heads.length kh, .bool r.weight, .int .i64 r.bound, .slice ab r.body.length kb] 48)) #[.bool false, .slice none 0 0, .bool false, .int .i64 0, .slice none 0 0] 48
  have hs0 : ((w.alloc (.cells #[.bool r.choice, .slice ah r.heads.length kh, .bool r.weight, .int .i64 r.bound, .slice ab r.body.length kb] 48)).alloc (.cells #[.bool false, .slice none 0 0, .bool false, .int .i64 0, .slice none 0 0] 48)).heap.size = w.heap.size + 2 := by simp
  rw [World.size_alloc] at hb0
  obtain ⟨x0, x1, x2, x3, x4⟩ := cells5 CP
  by_cases hB1 : r.bound ≤ 0
  · have hWW := withoutWeight_calls (ch := r.choice) (wt := r.weight) (bd := r.bound) (ah := ah) (nh := r.heads.length) (kh := kh) (ab := ab) (nb := r.body.length) (kb := kb) (rd_nilP ((w.alloc (.cells #[.bool r.choice, .slice ah r.heads.length kh, .bool r.weight, .int .i64 r.bound, .slice ab r.body.length kb] 48)).alloc (.cells #[.bool false, .slice none 0 0, .bool false, .int .i64 0, .slice none 0 0] 48))) ⟨by simp, by simp⟩
    have hT : Hid (WBg (onceL ([] : List Pr)) ∧ tidyW r = tidyU r.choice r.heads (onceL [])) := ⟨⟨by decide, by simp [onceL, ordL, ordTo, onceTo]⟩, by rw [tidyW_1 hB1]; rfl⟩
    obtain ⟨ys, hys⟩ : ∃ ys, ys = onceL ([] : List Pr) := ⟨_, rfl⟩
    rw [← hys] at hWW hT
    clear hys h1 h4 hw hh
    go_enter Try.func59, Try.ntmps59
    go_wp2_with fail
    refine hWW.mono ?_
    rintro e w1 ⟨v1, rfl, o1, b1⟩
    clear hWW x0 x1 x2 x3 x4
    rw [hs0] at o1 b1
    have hz1 := b1.size
    rw [hs0] at hz1
    have hZ1 := (b1.block (w.heap.size + 1) (by omega)).trans hb0
    have t1 := t0.trans (b1.mono (by omega))
    obtain ⟨av, cv, rfl, _, _⟩ := o1.rd.sl
    have CZ : Cells w1 (w.heap.size + 1) 0 [.bool false, .slice none 0 0, .bool false, .int .i64 0, .slice none 0 0] := fun j v hv => by
      rw [Nat.zero_add, cell_of_row w1 (w.heap.size + 1) j _ _ _ hZ1]; simpa using hv
    obtain ⟨z0, z1, z2, z3, z4⟩ := cells5 CZ
    have hfz := fun j => frozen_of_row w1 (w.heap.size + 1) j _ _ hZ1
    have HO := Lib.hid (o1.weak (B' := w.heap.size + 2) (D' := fun f => w.heap.size ≤ f) (by omega) fun f hf => by omega)
    have HB := Lib.hid t1
    clear o1 t1 b1 hZ1 CZ hbA hb0 t0 CP
    go_wp2
    refine bodyPost_ret (v := .tuple #[.agg #[.bool r.choice, .slice ah r.heads.length kh, .bool false, .int .i64 0, .slice av ys.length cv], .bool true])
      (by simp [results, Try.results59, go_sem, z0, z1, z2, z3, z4]) rfl ⟨_, true, rfl, .inr ⟨rfl, _, _, _, _, rfl, ?_, .inl ⟨rfl, rfl, hT.out⟩⟩, ?_⟩
    · exact ((HO.out).keep fun g _ hB _ => (put_chg (w.heap.size + 1) [.bool r.choice, .slice ah r.heads.length kh, .bool false, .int .i64 0, .slice av ys.length cv] w1 0).block g (by simp; omega)).weak (by omega) fun _ h => h
    · exact (HB.out).trans ((put_chg (w.heap.size + 1) [.bool r.choice, .slice ah r.heads.length kh, .bool false, .int .i64 0, .slice av ys.length cv] w1 0).below fun g hg => by simp at hg; omega)
  have hG := gathered_calls (Rd.mono (α := List (Int × Int)) t0 h4) hw.big
  have hglen : (gathL r.body).length ≤ 20 := by have := gath_len r.body; have := ordL_len hw.big.inR; have := hw.1; omega
  have hgf := gath_fits hw
  have hE := min_gath r.body r.bound
  have HW := Lib.hid hw
  obtain ⟨ys, hys⟩ : ∃ ys, ys = gathL r.body := ⟨_, rfl⟩
  rw [← hys] at hG hglen hgf hE
  have HE := Lib.hid hE
  have HGF := Lib.hid hgf
  clear hw hys hE hgf
  have hB2 : decide (r.bound ≤ 0) = false := decide_eq_false hB1
  have hB3 : 1 ≤ r.bound := by omega
  clear hB1
  go_enter Try.func59, Try.ntmps59
  go_wp2_with fail
  refine hG.mono ?_
  rintro e w1 ⟨v1, rfl, o1, b1⟩
  clear hG x0 x1 x2 x3 x4
  generalize ((w.alloc (.cells #[.bool r.choice, .slice ah r.heads.length kh, .bool r.weight, .int .i64 r.bound, .slice ab r.body.length kb] 48)).alloc (.cells #[.bool false, .slice none 0 0, .bool false, .int .i64 0, .slice none 0 0] 48)) = w0 at t0 CP hbA hb0 hs0 o1 b1
  rw [hs0] at o1 b1
  have boxP : ∀ W : World, Below (w.heap.size + 2) w0 W → Cells W w.heap.size 0 [.bool r.choice, .slice ah r.heads.length kh, .bool r.weight, .int .i64 r.bound, .slice ab r.body.length kb] := fun W hW => CP.later (hs0 ▸ hW)
  have blkP : ∀ W : World, Below (w.heap.size + 2) w0 W → W.heap[w.heap.size]? = some (.cells #[.bool r.choice, .slice ah r.heads.length kh, .bool r.weight, .int .i64 r.bound, .slice ab r.body.length kb] 48 (0, 0)) := fun W hW => (hW.block w.heap.size (by omega)).trans hbA
  have blkZ : ∀ W : World, Below (w.heap.size + 2) w0 W → W.heap[w.heap.size + 1]? = some (.cells #[.bool false, .slice none 0 0, .bool false, .int .i64 0, .slice none 0 0] 48 (0, 0)) := fun W hW => (hW.block (w.heap.size + 1) (by omega)).trans hb0
  have boxZ : ∀ W : World, Below (w.heap.size + 2) w0 W → Cells W (w.heap.size + 1) 0 [.bool false, .slice none 0 0, .bool false, .int .i64 0, .slice none 0 0] := fun W hW j v hv => by
    rw [Nat.zero_add, cell_of_row W (w.heap.size + 1) j _ _ _ (blkZ W hW)]; simpa using hv
  have allB : ∀ W : World, Below (w.heap.size + 2) w0 W → Below w.heap.size w W := fun W hW => t0.trans (hW.mono (by omega))
  have szB : ∀ W : World, Below (w.heap.size + 2) w0 W → w.heap.size + 2 ≤ W.heap.size := fun W hW => by have := hW.size; omega
  clear t0 CP hbA hb0 hs0
  obtain ⟨av, cv, rfl, _, _⟩ := o1.rd.sl
  have T0 : PRow (w.heap.size + 2) (fun f => w.heap.size + 2 ≤ f) w1 (.slice av ys.length cv) (mapTo (minF r.bound) ys 0) := by rw [mapTo_zero]; exact o1
  clear o1
  have hly : (ys.length : Int) ≤ 20 := by omega
  go_wp2
  go_loopw [5, 17] (fun _ i wr => ∃ k : Nat, k ≤ ys.length ∧ i = .int .i64 k ∧ PRow (w.heap.size + 2) (fun f => w.heap.size + 2 ≤ f) wr (.slice av ys.length cv) (mapTo (minF r.bound) ys k) ∧ Below (w.heap.size + 2) w0 wr) (fun _ i _ => ys.length - (intOf i).toNat)
  case atStart => exact ⟨0, Nat.zero_le _, rfl, T0, b1⟩
  case round =>
    obtain ⟨k, hk, rfl, ho, hb⟩ := hrel
    clear T0 b1
    have hln := mapTo_len (minF r.bound) ys hk
    by_cases hlt : k < ys.length
    · rcases ho.form with ⟨hv, hn⟩ | ⟨g, c, hv, _, _, hgD, hgB, hgl⟩
      · rw [hn] at hln; simp at hln; omega
      · obtain ⟨rfl, _, rfl⟩ : av = some ⟨g, 0, none⟩ ∧ ys.length = (mapTo (minF r.bound) ys k).length ∧ cv = c := by simpa using hv
        obtain ⟨c0, c1⟩ := ho.cell (i := k) (by omega)
        have hmn := mapTo_nth (f := minF r.bound) hlt
        rw [hmn] at c0 c1
        have hkn : (0 : Int) ≤ (k : Int) := by omega
        have hkl : (k : Int) < (ys.length : Int) := by omega
        have hfz := fun j => ho.frozen j
        have x3 := (boxP wr hb).c3
        have hgf := HGF.out _ (nth_mem hlt)
        obtain ⟨hg0, hg1⟩ := hgf
        have hfm : Fits (min (nth ys k).2 r.bound) := by unfold Fits; omega
        have hst := ho.setW (i := k) (by omega) hfm
        rw [hmn] at hst
        have hsx : minF r.bound (nth ys k) = ((nth ys k).1, min (nth ys k).2 r.bound) := by unfold minF; rw [minI_min]
        rw [← hsx, mapTo_set hlt] at hst
        have HST := Lib.hid (hst.later (Below.drew (Below.refl _ _)))
        have HB := Lib.hid (Below.drew (Below.setCell hb (p := ⟨g, k * 2 + 1, none⟩) hgB (.int .i64 (min (nth ys k).2 r.bound))))
        clear hst hsx hmn hfm ho hb hln boxP blkP blkZ boxZ allB szB hv hgD hgB
        go_wp2_with fail
        go_big_region
        all_goals go_wp2
        go_roundw
        case rel => exact ⟨k + 1, by omega, by go_num, HST.out, HB.out⟩
        case measure => simp [intOf]; omega
    · obtain rfl : k = ys.length := by omega
      rw [mapTo_all, HE.out] at ho hln
      have hzb := merged_big HW.out hB3
      have hzs := sumH_bg (f := fun _ => true) (l := mergedL r.body r.bound) fun p hp => (hzb.2 p hp).2
      have hsn := spare_neg HW.out (by omega)
      have hen := each_need HW.out (by omega)
      have hon := onceL_merged (xs := r.body) r.bound HW.out.big.inR
      have hz4 := tidyW_4 (r := r) (by omega)
      obtain ⟨zs, hzq⟩ : ∃ zs, zs = mergedL r.body r.bound := ⟨_, rfl⟩
      rw [← hzq] at ho hln hzb hzs hsn hen hon hz4
      obtain ⟨S, hS⟩ : ∃ S, S = sumH (fun _ => true) zs := ⟨_, rfl⟩
      rw [← hS] at hzs hsn hen
      obtain ⟨hS0, hS1⟩ := hzs
      have hS2 : S ≤ 400000 := by have := hzb.1; omega
      have HZ4 := Lib.hid hz4
      have HON := Lib.hid hon
      have HSS := Lib.hid hS
      have HZB := Lib.hid hzb
      clear hz4 hzq hS hon hzb
      rw [← hln] at ho
      have hTG := together_calls (Rd.mono (α := List (Int × Int)) (Below.refl wr.heap.size wr).drew ho.rd) HZB.out.1 fun p hp => (HZB.out.2 p hp).2
      rw [← HSS.out] at hTG
      have hwr : IntKind.i64.wrap (S - r.bound) = S - r.bound := IntWalk.i64_in _ (by omega)
      have keep1 : ∀ w', Below (w.heap.size + 2) w0 w' → w'.cell? ⟨w.heap.size, 3, none⟩ = some (.int .i64 r.bound) := fun w' h => (boxP w' h).c3
      have K0 := hb.drew
      have hlz : ys.length = zs.length := hln.symm
      rw [← hln]
      clear hln
      go_wp2
      refine wp_region_held_drew (S := fun w' => w'.cell? ⟨w.heap.size, 3, none⟩ = some (.int .i64 r.bound)) (by kernel_rfl) (keep1 _ K0) (fun hHeld => ?_)
      refine takeW (i := 0) (v := .slice av zs.length cv) (some 33) rfl rfl (by kernel_rfl) (by kernel_rfl) (by kernel_rfl) (fun _ _ _ h => h) (Or.inl ⟨by rfl, fun w' hw' => ?_⟩) hHeld ?_
      · first | (go_simp; done) | (have s0 := hw'; go_simp)
      try simp only [Act.put, List.setIfInBounds_toArray, List.set_cons_zero, List.set_cons_succ]
      refine takeW (i := 2) (v := .pointer (some ⟨w.heap.size, 3, none⟩)) (some 35) rfl rfl (by kernel_rfl) (by kernel_rfl) (by kernel_rfl) (fun _ _ _ h => h) (Or.inl ⟨by rfl, fun w' hw' => ?_⟩) hHeld ?_
      · first | (go_simp; done) | (have s0 := hw'; go_simp)
      try simp only [Act.put, List.setIfInBounds_toArray, List.set_cons_zero, List.set_cons_succ]
      refine takeW (i := 3) (v := .int .i64 r.bound) (some 36) rfl rfl (by kernel_rfl) (by kernel_rfl) (by kernel_rfl) (fun _ _ _ h => h) (Or.inl ⟨by rfl, fun w' hw' => ?_⟩) hHeld ?_
      · first | (go_simp; done) | (have s0 := hw'; go_simp)
      try simp only [Act.put, List.setIfInBounds_toArray, List.set_cons_zero, List.set_cons_succ]
      refine wpAnyH_ready (rs := [1]) (by kernel_rfl) (by simp) ?_
      refine AllReadyH.cons rfl (fun K hK => ?_) AllReadyH.nil
      go_simp
      refine hTG.mono ?_
      rintro e w3 ⟨rfl, b3⟩
      have B3 := K0.trans (b3.mono (show w.heap.size + 2 ≤ wr.drew.heap.size from szB wr hb))
      refine hK.out _ _ (keep1 _ B3) (fun hHeld => ?_)
      clear hK K hTG
      try simp only [Act.put, List.setIfInBounds_toArray, List.set_cons_zero, List.set_cons_succ]
      refine takeW (i := 4) (v := .int .i64 (S - r.bound)) (some 37) rfl rfl (by kernel_rfl) (by kernel_rfl) (by kernel_rfl) (fun _ _ _ h => h) (Or.inl ⟨by rfl, fun w' hw' => ?_⟩) hHeld ?_
      · first | (go_simp; done) | (have s0 := hw'; go_simp)
      try simp only [Act.put, List.setIfInBounds_toArray, List.set_cons_zero, List.set_cons_succ]
      refine takeW (i := 5) (v := .int .i64 (S - r.bound)) (some 6) rfl rfl (by kernel_rfl) (by kernel_rfl) (by kernel_rfl) (fun _ _ _ h => h) (Or.inl ⟨by rfl, fun w' hw' => ?_⟩) hHeld ?_
      · first | (go_simp; done) | (have s0 := hw'; go_simp)
      try simp only [Act.put, List.setIfInBounds_toArray, List.set_cons_zero, List.set_cons_succ]
      refine wpAnyH_done (by kernel_rfl) ?_ _
      have o3 := (ho.later (Below.refl wr.heap.size wr).drew).later b3
      clear keep1 K0 hb b3 ho hHeld
      by_cases hneg : S - r.bound < 0
      · have hT : Hid (tidyW r = none) := tidyW_2 (by omega) (hsn.1 hneg)
        have hd : decide (S - r.bound < 0) = true := decide_eq_true hneg
        obtain ⟨z0, z1, z2, z3, z4⟩ := cells5 (boxZ w3 B3)
        have hfz := fun j => frozen_of_row w3 (w.heap.size + 1) j _ _ (blkZ w3 B3)
        have HB := Lib.hid (allB w3 B3)
        have hs3 := szB w3 B3
        clear boxP blkP blkZ boxZ allB szB o3 B3
        go_wp2
        refine bodyPost_ret (v := .tuple #[.agg #[.bool false, .slice none 0 0, .bool false, .int .i64 0, .slice none 0 0], .bool false])
          (by simp [results, Try.results59, go_sem, z0, z1, z2, z3, z4]) rfl ⟨_, false, rfl, .inl ⟨rfl, rfl, hT.out⟩, by
          repeat (refine Below.setCell ?_ (by simp; try omega) _)
          exact HB.out⟩
      · have hd : decide (S - r.bound < 0) = false := decide_eq_false hneg
        have hnb : Hid (¬ sumBut r.body 0 < r.bound) := fun h => hneg (hsn.2 h)
        have hEA := eachAbove_calls (S - r.bound) o3.rd
        rw [hen] at hEA
        clear hen hsn hneg
        go_wp2_with fail
        refine hEA.mono ?_
        rintro e w4 ⟨he, b4⟩
        have B4 := B3.trans (b4.mono (szB _ B3))
        have o4 := o3.later b4
        obtain ⟨x0, x1, x2, x3, x4⟩ := cells5 (boxP w4 B4)
        clear hEA o3 b4
        cases hna : needAll r
        · rw [hna] at he
          subst he
          by_cases hbig : r.bound ≤ 1000
          · have hT : Hid (tidyW r = some { r with body := zs }) := HZ4.out hnb.out hna hbig
            have hd2 : decide (1000 < r.bound) = false := decide_eq_false (by omega)
            have hfb := fun j => frozen_of_row w4 w.heap.size j _ _ (blkP w4 B4)
            have hfz := fun j => frozen_of_row w4 (w.heap.size + 1) j _ _ (blkZ w4 B4)
            obtain ⟨z0, z1, z2, z3, z4⟩ := cells5 (boxZ w4 B4)
            have HB := Lib.hid (Below.setCell (allB w4 B4) (p := ⟨w.heap.size, 4, none⟩) (Nat.le_refl _) (.slice av zs.length cv))
            have HO := Lib.hid ((o4.keep (w' := w4.setCell ⟨w.heap.size, 4, none⟩ (.slice av zs.length cv)) fun g _ hB _ => Below.heap_setCell _ _ _ _ (by show g ≠ w.heap.size; omega)).weak (B' := w.heap.size + 2) (D' := fun f => w.heap.size ≤ f) (Nat.le_refl _) fun f hf => by omega)
            have hs4 := szB w4 B4
            clear boxP blkP blkZ boxZ allB szB o4 B3 B4
            go_wp2
            refine bodyPost_ret (v := .tuple #[.agg #[.bool r.choice, .slice ah r.heads.length kh, .bool r.weight, .int .i64 r.bound, .slice av zs.length cv], .bool true])
              (by simp [results, Try.results59, go_sem, z0, z1, z2, z3, z4]) rfl ⟨_, true, rfl, .inr ⟨rfl, _, _, _, _, rfl, ?_, .inr ⟨rfl, rfl, hT.out⟩⟩, ?_⟩
            · exact ((HO.out).keep fun g _ hB _ => (put_chg (w.heap.size + 1) [.bool r.choice, .slice ah r.heads.length kh, .bool r.weight, .int .i64 r.bound, .slice av zs.length cv] (w4.setCell ⟨w.heap.size, 4, none⟩ (.slice av zs.length cv)) 0).block g (by simp; omega)).weak (by omega) fun _ h => h
            · exact (HB.out).trans ((put_chg (w.heap.size + 1) [.bool r.choice, .slice ah r.heads.length kh, .bool r.weight, .int .i64 r.bound, .slice av zs.length cv] (w4.setCell ⟨w.heap.size, 4, none⟩ (.slice av zs.length cv)) 0).below fun g hg => by simp at hg; omega)
          · have hT : Hid (tidyW r = some { r with body := ordL r.body }) := tidyW_5 (by omega) (Int.not_lt.2 hnb.out) hna hbig
            have hd2 : decide (1000 < r.bound) = true := decide_eq_true (by omega)
            have hIO := inOrder_calls (w := w4) (Rd.mono (α := List (Int × Int)) (allB w4 B4) h4) HW.out.big
            obtain ⟨os, hos⟩ : ∃ os, os = ordL r.body := ⟨_, rfl⟩
            rw [← hos] at hIO hT
            clear hos
            go_wp2_with fail
            refine hIO.mono ?_
            rintro e w5 ⟨v5, rfl, o5, b5⟩
            have B5 := B4.trans (b5.mono (szB _ B4))
            obtain ⟨a5, k5, rfl, _, _⟩ := o5.rd.sl
            clear hIO x0 x1 x2 x3 x4
            obtain ⟨x0, x1, x2, x3, x4⟩ := cells5 (boxP w5 B5)
            have hfb := fun j => frozen_of_row w5 w.heap.size j _ _ (blkP w5 B5)
            have hfz := fun j => frozen_of_row w5 (w.heap.size + 1) j _ _ (blkZ w5 B5)
            obtain ⟨z0, z1, z2, z3, z4⟩ := cells5 (boxZ w5 B5)
            have HB := Lib.hid (Below.setCell (allB w5 B5) (p := ⟨w.heap.size, 4, none⟩) (Nat.le_refl _) (.slice a5 os.length k5))
            have hs4 := szB w4 B4
            have HO := Lib.hid ((o5.keep (w' := w5.setCell ⟨w.heap.size, 4, none⟩ (.slice a5 os.length k5)) fun g _ hB _ => Below.heap_setCell _ _ _ _ (by show g ≠ w.heap.size; omega)).weak (B' := w.heap.size + 2) (D' := fun f => w.heap.size ≤ f) (by omega) fun f hf => by omega)
            have hs5 := szB w5 B5
            clear boxP blkP blkZ boxZ allB szB o4 o5 b5 B3 B4 B5
            go_wp2
            refine bodyPost_ret (v := .tuple #[.agg #[.bool r.choice, .slice ah r.heads.length kh, .bool r.weight, .int .i64 r.bound, .slice a5 os.length k5], .bool true])
              (by simp [results, Try.results59, go_sem, z0, z1, z2, z3, z4]) rfl ⟨_, true, rfl, .inr ⟨rfl, _, _, _, _, rfl, ?_, .inr ⟨rfl, rfl, hT.out⟩⟩, ?_⟩
            · exact ((HO.out).keep fun g _ hB _ => (put_chg (w.heap.size + 1) [.bool r.choice, .slice ah r.heads.length kh, .bool r.weight, .int .i64 r.bound, .slice a5 os.length k5] (w5.setCell ⟨w.heap.size, 4, none⟩ (.slice a5 os.length k5)) 0).block g (by simp; omega)).weak (by omega) fun _ h => h
            · exact (HB.out).trans ((put_chg (w.heap.size + 1) [.bool r.choice, .slice ah r.heads.length kh, .bool r.weight, .int .i64 r.bound, .slice a5 os.length k5] (w5.setCell ⟨w.heap.size, 4, none⟩ (.slice a5 os.length k5)) 0).below fun g hg => by simp at hg; omega)
        · rw [hna] at he
          subst he
          have hT : Hid (WBg (onceL zs) ∧ tidyW r = tidyU r.choice r.heads (onceL zs)) := by
            rw [HON.out]
            exact ⟨once_big HW.out, by rw [tidyW_3 (by omega) (Int.not_lt.2 hnb.out) hna, tidyU_once HW.out.big.inR]⟩
          have hWW := withoutWeight_calls (ch := r.choice) (wt := r.weight) (bd := r.bound) (ah := ah) (nh := r.heads.length) (kh := kh) (ab := ab) (nb := r.body.length) (kb := kb) o4.rd HZB.out
          obtain ⟨os, hos⟩ : ∃ os, os = onceL zs := ⟨_, rfl⟩
          rw [← hos] at hWW hT
          clear hos
          go_wp2_with fail
          refine hWW.mono ?_
          rintro e w5 ⟨v5, rfl, o5, b5⟩
          have B5 := B4.trans (b5.mono (szB _ B4))
          obtain ⟨a5, k5, rfl, _, _⟩ := o5.rd.sl
          clear hWW x0 x1 x2 x3 x4
          have hfz := fun j => frozen_of_row w5 (w.heap.size + 1) j _ _ (blkZ w5 B5)
          obtain ⟨z0, z1, z2, z3, z4⟩ := cells5 (boxZ w5 B5)
          have HB := Lib.hid (allB w5 B5)
          have hs4 := szB w4 B4
          have HO := Lib.hid (o5.weak (B' := w.heap.size + 2) (D' := fun f => w.heap.size ≤ f) (by omega) fun f hf => by omega)
          have hs5 := szB w5 B5
          clear boxP blkP blkZ boxZ allB szB o4 o5 b5 B3 B4 B5
          go_wp2
          refine bodyPost_ret (v := .tuple #[.agg #[.bool r.choice, .slice ah r.heads.length kh, .bool false, .int .i64 0, .slice a5 os.length k5], .bool true])
            (by simp [results, Try.results59, go_sem, z0, z1, z2, z3, z4]) rfl ⟨_, true, rfl, .inr ⟨rfl, _, _, _, _, rfl, ?_, .inl ⟨rfl, rfl, hT.out⟩⟩, ?_⟩
          · exact ((HO.out).keep fun g _ hB _ => (put_chg (w.heap.size + 1) [.bool r.choice, .slice ah r.heads.length kh, .bool false, .int .i64 0, .slice a5 os.length k5] w5 0).block g (by simp; omega)).weak (by omega) fun _ h => h
          · exact (HB.out).trans ((put_chg (w.heap.size + 1) [.bool r.choice, .slice ah r.heads.length kh, .bool false, .int .i64 0, .slice a5 os.length k5] w5 0).below fun g hg => by simp at hg; omega)

end Go.Proofs.Ytgckeaijbmcdcaa
