/-
  Top: impl's contracts (TopI, TopJ, TopK, TopL). No condition of its own.
-/
import Derived.Test.YthikhkeofcjdfaaGreatBotN
import Derived.Test.YthikhkeofcjdfaaGreatPRow
import Derived.Test.YthikhkeofcjdfaaGreatCopy
import Derived.Test.YthikhkeofcjdfaaGreatCg
namespace Go.Proofs.YthikhkeofcjdfaaGreat
set_option linter.unusedVariables false
set_option linter.unusedSimpArgs false
open Go.RowKit Go.Shelf
set_option maxRecDepth 100000

/-! ### TopI -/

/-! ### the sort of nothing -/
theorem insNil_calls (fv : Value) (w : World) : Calls Tryz.prog 283 #[.slice none 0 0, .int .i64 0, .int .i64 0, fv] w fun e w' => (∃ v, e = .returned v) ∧ w = w' := by
  go_enter Tryz.func283, Tryz.ntmps283
  go_wp2
  refine wp_loop_rounds 1 ?_
  rw [rounds_succ]
  go_wp2
  go_end0
  exact ⟨⟨_, rfl⟩, rfl⟩
theorem stbNil_calls (fv : Value) (w : World) : Calls Tryz.prog 282 #[.slice none 0 0, .int .i64 0, fv] w fun e w' => (∃ v, e = .returned v) ∧ w = w' := by
  go_enter Tryz.func282, Tryz.ntmps282
  go_wp2
  refine wp_loop_rounds 1 ?_
  rw [rounds_succ]
  go_wp2_with fail
  refine (insNil_calls _ _).mono ?_
  rintro e w1 ⟨⟨v, rfl⟩, rfl⟩
  go_wp2
  refine wp_loop_rounds 1 ?_
  rw [rounds_succ]
  go_wp2
  go_end0
  exact ⟨⟨_, rfl⟩, rfl⟩
theorem srtNil_calls (fv : Value) (w : World) : Calls Tryz.prog 279 #[.slice none 0 0, fv] w fun e w' => (∃ v, e = .returned v) ∧ w = w' := by
  go_enter Tryz.func279, Tryz.ntmps279
  go_wp2_with fail
  refine (stbNil_calls _ _).mono ?_
  rintro e w1 ⟨⟨v, rfl⟩, rfl⟩
  go_wp2
  go_end0
  exact ⟨⟨_, rfl⟩, rfl⟩
theorem clnNil_calls (w : World) : Calls Tryz.prog 160 #[.slice none 0 0] w fun e w' => e = .returned (.slice none 0 0) ∧ w = w' := by
  have en := eql_nil Tryz.underlying32
  go_enter Tryz.func160, Tryz.ntmps160
  go_wp2
  go_ret
  exact ⟨rfl, rfl⟩
theorem ordNil_calls (w : World) : Calls Tryz.prog 276 #[.slice none 0 0, .func (.func 277) #[] #[]] w fun e w' => e = .returned (.slice none 0 0) ∧ Below w.heap.size w w' := by
  have hmf : ∀ (fn : Fn) (first cap : Array Value) (w : World), (Instr.makeFunc fn first cap).run Tryz.prog w = .ok (.func fn first cap) w := fun _ _ _ _ => rfl
  have t0 := (Below.refl w.heap.size w).alloc (Nat.le_refl _) (.cells #[.func (.func 277) #[] #[]] 291)
  go_enter Tryz.func276, Tryz.ntmps276
  go_wp2_with fail
  refine (clnNil_calls _).mono ?_
  rintro e w1 ⟨rfl, rfl⟩
  go_wp2_with fail
  refine (srtNil_calls _ _).mono ?_
  rintro e w1 ⟨⟨v, rfl⟩, rfl⟩
  go_wp2
  go_ret
  exact ⟨rfl, t0⟩
theorem gatNil_calls (w : World) : Calls Tryz.prog 267 #[.slice none 0 0] w fun e w' => ∃ a c, e = .returned (.slice a 0 c) ∧ PRow w.heap.size (fun f => w.heap.size ≤ f) w' (.slice a 0 c) [] ∧ Below w.heap.size w w' := by
  obtain ⟨i0, hi, hz0, hz1, hz2⟩ := info_parts info_cloneWLit
  go_enter Tryz.func267, Tryz.ntmps267
  go_wp2_with (at_make; refine wpList_make_own _ rfl _ _ 32 rfl w.heap.size 94 i0 _ 2 Tryz.underlying32 hi hz0 hz1 _ _ _ 0 rfl rfl rfl ?c1 ?c2 ?c3 ?_)
  case c1 => rw [hz2]; omega
  case c2 => unfold maxLen; omega
  case c3 => exact Nat.le_refl _
  intro w1 hown hgrow
  have t1 : Below w.heap.size w w1 := (Below.refl _ _).grown hgrow (Nat.le_refl _) (fun k hk => by cases hk)
  have hm1 : PRow w.heap.size (fun f => w.heap.size ≤ f) w1 (.slice (some ⟨w.heap.size, 0, none⟩) 0 0) [] := PRow.made (g := 0) hown fun g hg => by simp [Value.ownBlock] at hg; omega
  clear hown hgrow
  go_wp2_with fail
  refine (ordNil_calls _).mono ?_
  rintro e w2 ⟨rfl, b2⟩
  have hm2 := hm1.later b2
  have t2 := t1.step b2
  clear hm1 t1 b2
  go_wp2
  refine wp_loop_rounds 1 ?_
  rw [rounds_succ]
  go_wp2
  go_ret
  exact ⟨_, _, rfl, hm2, t2⟩
theorem wwNil_calls {ch wt : Bool} {bd : Int} {ah ab : Option Addr} {nh kh nb kb : Nat} {w : World} :
    Calls Tryz.prog 243 #[.agg #[.bool ch, .slice ah nh kh, .bool wt, .int .i64 bd, .slice ab nb kb], .slice none 0 0] w fun e w' =>
      ∃ a c, e = .returned (.agg #[.bool ch, .slice ah nh kh, .bool false, .int .i64 0, .slice a 0 c]) ∧ PRow (w.heap.size + 2) (fun f => w.heap.size + 2 ≤ f) w' (.slice a 0 c) [] ∧ Below w.heap.size w w' := by
  have t0 : Below w.heap.size w ((w.alloc (.cells #[.bool ch, .slice ah nh kh, .bool wt, .int .i64 bd, .slice ab nb kb] 34)).alloc (.cells #[.bool false, .slice none 0 0, .bool false, .int .i64 0, .slice none 0 0] 34)) := ((Below.refl _ _).alloc (by simp) _).alloc (by simp) _
  have CP := (Cells.new w [.bool ch, .slice ah nh kh, .bool wt, .int .i64 bd, .slice ab nb kb] 34).alloc (.cells #[.bool false, .slice none 0 0, .bool false, .int .i64 0, .slice none 0 0] 34)
  have hb0 := alloc_block (w.alloc (.cells #[.bool ch, .slice ah nh kh, .bool wt, .int .i64 bd, .slice ab nb kb] 34)) #[.bool false, .slice none 0 0, .bool false, .int .i64 0, .slice none 0 0] 34
  rw [World.size_alloc] at hb0
  have hs0 : ((w.alloc (.cells #[.bool ch, .slice ah nh kh, .bool wt, .int .i64 bd, .slice ab nb kb] 34)).alloc (.cells #[.bool false, .slice none 0 0, .bool false, .int .i64 0, .slice none 0 0] 34)).heap.size = w.heap.size + 2 := by simp
  go_enter Tryz.func243, Tryz.ntmps243
  go_wp2_with fail
  refine (gatNil_calls _).mono ?_
  rintro e w1 ⟨a, c, rfl, o1, b1⟩
  rw [hs0] at o1
  have CP1 := CP.later b1
  have hz1 := (b1.block (w.heap.size + 1) (by omega)).trans hb0
  have hsz := b1.size
  rw [hs0] at hsz
  obtain ⟨x0, x1, x2, x3, x4⟩ := cells5 CP1
  obtain ⟨z0, z1, z2, z3, z4⟩ := cells5 (cellsAt hz1)
  have hfz := fun j => frozen_of_row _ (w.heap.size + 1) j _ _ hz1
  have t1 := t0.step b1
  have O1 := Lib.hid o1
  have T1 := Lib.hid t1
  clear o1 t1 t0 b1 CP CP1 hb0 hz1
  go_wp2
  refine wp_loop_rounds 1 ?_
  rw [rounds_succ]
  go_wp2
  have hch := put_chg (w.heap.size + 1) [.bool ch, .slice ah nh kh, .bool false, .int .i64 0, .slice a 0 c] w1 0
  exact bodyPost_ret (v := .agg #[.bool ch, .slice ah nh kh, .bool false, .int .i64 0, .slice a 0 c]) (by simp [results, Tryz.results243, go_sem, z0, z1, z2, z3, z4]) rfl
    ⟨a, c, rfl, O1.out.keep (w' := put w1 (w.heap.size + 1) 0 [.bool ch, .slice ah nh kh, .bool false, .int .i64 0, .slice a 0 c]) fun g _ hB _ => hch.block g (by simp; omega), T1.out.trans (hch.below fun g hg => by simp at hg; omega)⟩
/-! ### the literals that are asked, and the others -/
set_option maxHeartbeats 1000000 in
theorem sides_calls {v s0 s1 s2 s3 s4 s5 s6 s7 : Value} {b : List (Int × Int)} {w : World} {us : List Int} (h : RdL w [v] b) (hu : IsP us) (hl : ∀ p ∈ b, (1 ≤ p.1 ∧ p.1 ≤ 12) ∨ (-12 ≤ p.1 ∧ p.1 ≤ -1)) (hn : b.length ≤ 20) :
    Calls Tryz.prog 242 #[.agg #[s0, s1, s2, s3, s4, s5, s6, s7, .int .u16 (maskOf us : Int)], v] w fun e w' => ∃ v1 v2, e = .returned (.tuple #[v1, v2]) ∧ RdL w' [v1] (askTo us b b.length) ∧ PRow (w.heap.size + 1) (fun f => w.heap.size + 1 ≤ f) w' v2 (opnTo us b b.length) ∧ Below w.heap.size w w' := by
  obtain ⟨i0, hi, hz0, hz1, hz2⟩ := info_parts info_cloneWLit
  have tA := (Below.refl w.heap.size w).alloc (Nat.le_refl _) (.cells #[s0, s1, s2, s3, s4, s5, s6, s7, .int .u16 (maskOf us : Int)] 145)
  have CS := Lib.hid (Cells.new w [s0, s1, s2, s3, s4, s5, s6, s7, .int .u16 (maskOf us : Int)] 145)
  have zA : (w.alloc (.cells #[s0, s1, s2, s3, s4, s5, s6, s7, .int .u16 (maskOf us : Int)] 145)).heap.size = w.heap.size + 1 := World.size_alloc _ _
  obtain ⟨ab, cb, rfl, _, hr⟩ := h.sl
  have hrA := hr.later tA
  have hm4 := hr.1
  have hmu := maskOf_lt us
  have HU := Lib.hid hu
  have HLIT := Lib.hid hl
  clear h hr hu hl
  go_enter Tryz.func242, Tryz.ntmps242
  generalize hwa : w.alloc _ = wa at *
  go_wp2
  try rw [hwa]
  go_loopw [4, 5, 7, 10] (fun v1 v2 _ i wr => ∃ (k : Nat) (D1 D2 : Nat → Prop), k ≤ b.length ∧ i = .int .i64 (k : Int) ∧ PRow (w.heap.size + 1) D1 wr v1 (askTo us b k) ∧ PRow (w.heap.size + 1) D2 wr v2 (opnTo us b k) ∧ (∀ f, D1 f → D2 f → False) ∧ Below (w.heap.size + 1) wa wr) (fun _ _ _ i _ => b.length - (intOf i).toNat)
  case atStart => exact ⟨0, fun _ => False, fun _ => False, Nat.zero_le _, rfl, PRow.nil _ _ _, PRow.nil _ _ _, fun _ h => h.elim, Below.refl _ _⟩
  case round =>
    obtain ⟨k, D1, D2, hk, rfl, o1, o2, hd, hb⟩ := hrel
    have hz := hb.size
    rw [zA] at hz
    by_cases hlt : k < b.length
    · obtain ⟨bb, off, rfl, hc⟩ := hrA.base (by omega)
      obtain ⟨ecs, hC, hR⟩ := hc k hlt
      have hbw : Below wa.heap.size wa wr := by rw [zA]; exact hb
      have hC := hC.later hbw
      obtain ⟨rfl, hf1, hf2⟩ := hR
      have u0 := hC.c0
      have u1 := hC.c1
      rw [show Rd.k (Int × Int) = 2 from rfl] at u0 u1
      have hlk := HLIT.out _ (nth_mem hlt)
      have hE := inU_mask hlk HU.out
      have HAY := Lib.hid (fun (h : inU us (nth b k) = true) => ask_yes hlt h)
      have HAN := Lib.hid (fun (h : inU us (nth b k) = false) => ask_no hlt h)
      have HOY := Lib.hid (fun (h : inU us (nth b k) = false) => opn_yes hlt h)
      have HON := Lib.hid (fun (h : inU us (nth b k) = true) => opn_no hlt h)
      have hal := ask_len (us := us) (b := b) (k := k)
      have hol := opn_len (us := us) (b := b) (k := k)
      have hki : (k : Int) < (b.length : Int) := by omega
      have hFa := atomI_fits hf1
      clear hC hc hrA
      generalize nth b k = q at *
      obtain ⟨l, wv⟩ := q
      dsimp only at hf1 hf2 u0 u1 hE hFa hlk
      go_upto_region 4 with fail
      have tX := (Below.refl wr.heap.size wr).alloc (Nat.le_refl _) (.cells #[.int .i64 l, .int .i64 wv] 94)
      have CY := (Cells.new wr [.int .i64 l, .int .i64 wv] 94).drew
      have tXd := tX.drew
      have C8 : ∀ W : World, Cells W w.heap.size 0 [s0, s1, s2, s3, s4, s5, s6, s7, .int .u16 (maskOf us : Int)] → W.cell? ⟨w.heap.size, 8, none⟩ = some (.int .u16 (maskOf us : Int)) := fun W h => by simpa using h 8 _ rfl
      have CS8 := C8 _ ((CS.out.kept (hb.block w.heap.size (by omega))).later tXd)
      have hzX : wr.heap.size + 1 ≤ (wr.alloc (.cells #[.int .i64 l, .int .i64 wv] 94)).drew.heap.size := Nat.le_of_eq (World.size_alloc _ _).symm
      clear u0 u1 tX C8
      refine wp_region_held_drew (S := fun W' => W'.cell? ⟨w.heap.size, 8, none⟩ = some (.int .u16 (maskOf us : Int)) ∧ W'.cell? ⟨wr.heap.size, 0, none⟩ = some (.int .i64 l)) (by kernel_rfl) ⟨CS8, CY 0 _ rfl⟩ (fun hHeld => ?_)
      generalize (wr.alloc (.cells #[.int .i64 l, .int .i64 wv] 94)).drew = wq at *
      refine takeD (i := 0) (v := .pointer (some ⟨w.heap.size, 8, none⟩)) (some 14) rfl rfl (by kernel_rfl) (by kernel_rfl) (by kernel_rfl) (fun _ _ _ h => h) (Or.inl ⟨by rfl, fun w' hw' => ?_⟩) hHeld ?_
      · first | (go_simp; done) | (obtain ⟨s0, s1, s2, s3, s4, s5⟩ := hw'; go_simp; done) | (obtain ⟨s0, s1⟩ := hw'; go_simp; done)
      try simp only [Act.put, List.setIfInBounds_toArray, List.set_cons_zero, List.set_cons_succ]
      refine takeD (i := 1) (v := .int .u16 (maskOf us : Int)) (some 15) rfl rfl (by kernel_rfl) (by kernel_rfl) (by kernel_rfl) (fun _ _ _ h => h) (Or.inl ⟨by rfl, fun w' hw' => ?_⟩) hHeld ?_
      · first | (go_simp; done) | (obtain ⟨s0, s1, s2, s3, s4, s5⟩ := hw'; go_simp; done) | (obtain ⟨s0, s1⟩ := hw'; go_simp; done)
      try simp only [Act.put, List.setIfInBounds_toArray, List.set_cons_zero, List.set_cons_succ]
      refine takeD (i := 2) (v := .pointer (some ⟨wr.heap.size, 0, none⟩)) (some 16) rfl rfl (by kernel_rfl) (by kernel_rfl) (by kernel_rfl) (fun _ _ _ h => h) (Or.inl ⟨by rfl, fun w' hw' => ?_⟩) hHeld ?_
      · first | (go_simp; done) | (obtain ⟨s0, s1, s2, s3, s4, s5⟩ := hw'; go_simp; done) | (obtain ⟨s0, s1⟩ := hw'; go_simp; done)
      try simp only [Act.put, List.setIfInBounds_toArray, List.set_cons_zero, List.set_cons_succ]
      refine takeD (i := 3) (v := .int .i64 l) (some 17) rfl rfl (by kernel_rfl) (by kernel_rfl) (by kernel_rfl) (fun _ _ _ h => h) (Or.inl ⟨by rfl, fun w' hw' => ?_⟩) hHeld ?_
      · first | (go_simp; done) | (obtain ⟨s0, s1, s2, s3, s4, s5⟩ := hw'; go_simp; done) | (obtain ⟨s0, s1⟩ := hw'; go_simp; done)
      try simp only [Act.put, List.setIfInBounds_toArray, List.set_cons_zero, List.set_cons_succ]
      refine wpAnyH_ready (rs := [4]) (by kernel_rfl) (by simp) ?_
      refine AllReadyH.cons rfl (fun K hK => ?_) AllReadyH.nil
      go_simp
      refine (atom_calls _ _ hf1).mono ?_
      rintro e w' ⟨rfl, rfl⟩
      refine hK.out _ _ hHeld (fun hHeld => ?_)
      clear hK K
      try simp only [Act.put, List.setIfInBounds_toArray, List.set_cons_zero, List.set_cons_succ]
      refine wpAnyH_ready (rs := [5]) (by kernel_rfl) (by simp) ?_
      refine AllReadyH.cons rfl (fun K hK => ?_) AllReadyH.nil
      go_simp
      refine (has_calls _ _ _ hmu hFa).mono ?_
      rintro e w' ⟨rfl, rfl⟩
      refine hK.out _ _ hHeld (fun hHeld => ?_)
      clear hK K
      try simp only [Act.put, List.setIfInBounds_toArray, List.set_cons_zero, List.set_cons_succ]
      refine wpAnyH_done (by kernel_rfl) ?_ _
      rw [← hE]
      have o1q := (o1.later tXd).bound
      have o2q := (o2.later tXd).bound
      have bq := hb.trans (tXd.mono (by omega))
      obtain ⟨v0, v1'⟩ := cells2 CY
      have tY := (Below.refl wq.heap.size wq).alloc (Nat.le_refl _) (.cells #[.int .i64 l, .int .i64 wv] 94)
      have hcn := Cells.new wq [.int .i64 l, .int .i64 wv] 94
      have hzY : (wq.alloc (.cells #[.int .i64 l, .int .i64 wv] 94)).heap.size = wq.heap.size + 1 := World.size_alloc _ _
      cases hin : inU us (l, wv)
      · obtain ⟨v4, w4, r4, o4, b4, k4⟩ := PRow.append (P := Tryz.prog) (t := 32) (ty := 32) (c := 1) (p := (l, wv)) i0 _ Tryz.underlying32 hi hz0 hz1 hz2 rfl (o2q.later tY) hcn ⟨hf1, hf2⟩ (by omega) (by omega)
        have HA := Lib.hid (HAN.out hin)
        have HO := Lib.hid (HOY.out hin)
        have O2 := Lib.hid o4
        have O1 := Lib.hid ((o1q.later tY).keep (w' := w4) fun g h1 h2 h3 => k4 g h3 fun h4 => hd g h1.1 h4.1)
        have B4 := Lib.hid ((bq.trans (tY.mono (by omega))).trans b4)
        have HD : Hid (∀ f, (D1 f ∧ w.heap.size + 1 ≤ f ∧ f < wq.heap.size) → ((D2 f ∧ w.heap.size + 1 ≤ f ∧ f < wq.heap.size) ∨ (wq.alloc (.cells #[.int .i64 l, .int .i64 wv] 94)).heap.size ≤ f) → False) := fun f h1 h2 => by
          rcases h2 with h2 | h2
          · exact hd f h1.1 h2.1
          · omega
        clear o4 b4 k4 o1q o2q bq hcn hin hd o1 o2 hb tXd hbw CS8 CY hHeld tY hE hzY
        go_wp2_with (at_builtin; refine wpList_append_of rfl _ _ rfl rfl rfl r4 ?_)
        go_roundw
        case rel => exact ⟨k + 1, _, _, by omega, by go_num, by rw [HA.out]; exact O1.out, by rw [HO.out]; exact O2.out, HD.out, B4.out⟩
        case measure => simp [intOf]; omega
      · obtain ⟨v4, w4, r4, o4, b4, k4⟩ := PRow.append (P := Tryz.prog) (t := 32) (ty := 32) (c := 1) (p := (l, wv)) i0 _ Tryz.underlying32 hi hz0 hz1 hz2 rfl (o1q.later tY) hcn ⟨hf1, hf2⟩ (by omega) (by omega)
        have HA := Lib.hid (HAY.out hin)
        have HO := Lib.hid (HON.out hin)
        have O1 := Lib.hid o4
        have O2 := Lib.hid ((o2q.later tY).keep (w' := w4) fun g h1 h2 h3 => k4 g h3 fun h4 => hd g h4.1 h1.1)
        have B4 := Lib.hid ((bq.trans (tY.mono (by omega))).trans b4)
        have HD : Hid (∀ f, ((D1 f ∧ w.heap.size + 1 ≤ f ∧ f < wq.heap.size) ∨ (wq.alloc (.cells #[.int .i64 l, .int .i64 wv] 94)).heap.size ≤ f) → (D2 f ∧ w.heap.size + 1 ≤ f ∧ f < wq.heap.size) → False) := fun f h1 h2 => by
          rcases h1 with h1 | h1
          · exact hd f h1.1 h2.1
          · omega
        clear o4 b4 k4 o1q o2q bq hcn hin hd o1 o2 hb tXd hbw CS8 CY hHeld tY hE hzY
        go_wp2_with (at_builtin; refine wpList_append_of rfl _ _ rfl rfl rfl r4 ?_)
        go_roundw
        case rel => exact ⟨k + 1, _, _, by omega, by go_num, by rw [HA.out]; exact O1.out, by rw [HO.out]; exact O2.out, HD.out, B4.out⟩
        case measure => simp [intOf]; omega
    · obtain rfl : k = b.length := by omega
      have tw := tA.trans (hb.mono (Nat.le_succ _))
      have O1 := Lib.hid o1.rd
      have O2 := Lib.hid (o2.bound.weak (Nat.le_refl _) (D' := fun f => w.heap.size + 1 ≤ f) fun f hf => hf.2.1)
      clear o1 o2 hb
      go_wp2
      go_ret2
      exact ⟨_, _, rfl, O1.out, O2.out, tw⟩

/-! ### TopJ -/

set_option maxHeartbeats 4000000 in
theorem ifAbove_calls {r : RuleD} {w : World} {m : Nat} {s0 s1 s2 s3 s4 s5 s6 s7 : Value} {ecs : List Value} (hR : Rd.R w ecs r) (hm : m < 4096) :
    Calls Tryz.prog 208 #[.agg #[s0, s1, s2, s3, s4, s5, s6, s7, .int .u16 (m : Int)], .agg ecs.toArray] w (SayQ w ecs (!inM (evM r) m)) := by
  have hR0 := hR
  obtain ⟨d1, d4, rfl, hf, r1, r4⟩ := hR0
  have so1 := sto Tryz.prog r1.one1
  have so4 := sto Tryz.prog r4.one1
  have tA := (Below.refl w.heap.size w).alloc (Nat.le_refl _) (.cells #[s0, s1, s2, s3, s4, s5, s6, s7, .int .u16 (m : Int)] 145)
  have tB := tA.alloc tA.size (.cells #[.bool r.choice, d1, .bool r.weight, .int .i64 r.bound, d4] 34)
  have tC := tB.alloc tB.size (.cells #[.bool false, .slice none 0 0, .bool false, .int .i64 0, .slice none 0 0] 34)
  have zA : (w.alloc (.cells #[s0, s1, s2, s3, s4, s5, s6, s7, .int .u16 (m : Int)] 145)).heap.size = w.heap.size + 1 := World.size_alloc _ _
  have zB : ((w.alloc (.cells #[s0, s1, s2, s3, s4, s5, s6, s7, .int .u16 (m : Int)] 145)).alloc (.cells #[.bool r.choice, d1, .bool r.weight, .int .i64 r.bound, d4] 34)).heap.size = w.heap.size + 2 := by simp
  have CS := ((Cells.new w [s0, s1, s2, s3, s4, s5, s6, s7, .int .u16 (m : Int)] 145).alloc (.cells #[.bool r.choice, d1, .bool r.weight, .int .i64 r.bound, d4] 34)).alloc (.cells #[.bool false, .slice none 0 0, .bool false, .int .i64 0, .slice none 0 0] 34)
  have CR := (Cells.new (w.alloc (.cells #[s0, s1, s2, s3, s4, s5, s6, s7, .int .u16 (m : Int)] 145)) [.bool r.choice, d1, .bool r.weight, .int .i64 r.bound, d4] 34).alloc (.cells #[.bool false, .slice none 0 0, .bool false, .int .i64 0, .slice none 0 0] 34)
  have hz := alloc_block ((w.alloc (.cells #[s0, s1, s2, s3, s4, s5, s6, s7, .int .u16 (m : Int)] 145)).alloc (.cells #[.bool r.choice, d1, .bool r.weight, .int .i64 r.bound, d4] 34)) #[.bool false, .slice none 0 0, .bool false, .int .i64 0, .slice none 0 0] 34
  have zC : (((w.alloc (.cells #[s0, s1, s2, s3, s4, s5, s6, s7, .int .u16 (m : Int)] 145)).alloc (.cells #[.bool r.choice, d1, .bool r.weight, .int .i64 r.bound, d4] 34)).alloc (.cells #[.bool false, .slice none 0 0, .bool false, .int .i64 0, .slice none 0 0] 34)).heap.size = w.heap.size + 3 := by simp
  rw [zA] at CR
  rw [zB] at hz
  have hRC := Rd.mono tC hR
  have hev := evM_lt r
  clear r1 r4 hf hR tA tB
  go_enter Tryz.func208, Tryz.ntmps208
  go_upto_region 1 with fail
  generalize hW : World.alloc (World.alloc (World.alloc w _) _) _ = W at *
  have tD := tC.drew
  have hRD := Rd.mono (Below.refl W.heap.size W).drew hRC
  have CS := CS.drew
  have CR := CR.drew
  have hzd : W.drew.heap[w.heap.size + 2]? = _ := hz
  have zD : W.drew.heap.size = w.heap.size + 3 := zC
  have C8 : ∀ W : World, Cells W w.heap.size 0 [s0, s1, s2, s3, s4, s5, s6, s7, .int .u16 (m : Int)] → W.cell? ⟨w.heap.size, 8, none⟩ = some (.int .u16 (m : Int)) := fun W h => by simpa using h 8 _ rfl
  clear hz zC hRC tC hW zA zB
  refine wp_region_held_drew (S := fun W' => W'.cell? ⟨w.heap.size, 8, none⟩ = some (.int .u16 (m : Int)) ∧ W'.cell? ⟨w.heap.size + 1, 0, none⟩ = some (.bool r.choice) ∧ W'.cell? ⟨w.heap.size + 1, 1, none⟩ = some d1 ∧ W'.cell? ⟨w.heap.size + 1, 2, none⟩ = some (.bool r.weight) ∧ W'.cell? ⟨w.heap.size + 1, 3, none⟩ = some (.int .i64 r.bound) ∧ W'.cell? ⟨w.heap.size + 1, 4, none⟩ = some d4) (by kernel_rfl) ⟨C8 _ CS, cells5 CR⟩ (fun hHeld => ?_)
  generalize W.drew = wq at *
  refine takeD (i := 0) (v := .agg #[.bool r.choice, d1, .bool r.weight, .int .i64 r.bound, d4]) (some 6) rfl rfl (by kernel_rfl) (by kernel_rfl) (by kernel_rfl) (fun _ _ _ h => h) (Or.inl ⟨by rfl, fun w' hw' => ?_⟩) hHeld ?_
  · first | (go_simp; done) | (obtain ⟨s0, s1, s2, s3, s4, s5⟩ := hw'; go_simp; done)
  try simp only [Act.put, List.setIfInBounds_toArray, List.set_cons_zero, List.set_cons_succ]
  refine takeD (i := 1) (v := .agg #[.bool r.choice, d1, .bool r.weight, .int .i64 r.bound, d4]) (some 7) rfl rfl (by kernel_rfl) (by kernel_rfl) (by kernel_rfl) (fun _ _ _ h => h) (Or.inl ⟨by rfl, fun w' hw' => ?_⟩) hHeld ?_
  · first | (go_simp; done) | (obtain ⟨s0, s1, s2, s3, s4, s5⟩ := hw'; go_simp; done)
  try simp only [Act.put, List.setIfInBounds_toArray, List.set_cons_zero, List.set_cons_succ]
  refine takeD (i := 3) (v := .pointer (some ⟨w.heap.size, 8, none⟩)) (some 9) rfl rfl (by kernel_rfl) (by kernel_rfl) (by kernel_rfl) (fun _ _ _ h => h) (Or.inl ⟨by rfl, fun w' hw' => ?_⟩) hHeld ?_
  · first | (go_simp; done) | (obtain ⟨s0, s1, s2, s3, s4, s5⟩ := hw'; go_simp; done)
  try simp only [Act.put, List.setIfInBounds_toArray, List.set_cons_zero, List.set_cons_succ]
  refine takeD (i := 4) (v := .int .u16 (m : Int)) (some 10) rfl rfl (by kernel_rfl) (by kernel_rfl) (by kernel_rfl) (fun _ _ _ h => h) (Or.inl ⟨by rfl, fun w' hw' => ?_⟩) hHeld ?_
  · first | (go_simp; done) | (obtain ⟨s0, s1, s2, s3, s4, s5⟩ := hw'; go_simp; done)
  try simp only [Act.put, List.setIfInBounds_toArray, List.set_cons_zero, List.set_cons_succ]
  refine wpAnyH_ready (rs := [2]) (by kernel_rfl) (by simp) ?_
  refine AllReadyH.cons rfl (fun K hK => ?_) AllReadyH.nil
  go_simp
  refine (everyAtom_calls hRD).mono ?_
  rintro e w2 ⟨rfl, b2⟩
  have CS2 := CS.later b2
  have CR2 := CR.later b2
  have hz2 := (b2.block (w.heap.size + 2) (by omega)).trans hzd
  have t2 := tD.step b2
  have hs2 := b2.size
  obtain ⟨z0, z1, z2, z3, z4⟩ := cells5 (cellsAt hz2)
  have hfz := fun j => frozen_of_row _ (w.heap.size + 2) j _ _ hz2
  generalize evM r = E at *
  refine hK.out _ _ ⟨C8 _ CS2, cells5 CR2⟩ (fun hHeld => ?_)
  clear hK K
  try simp only [Act.put, List.setIfInBounds_toArray, List.set_cons_zero, List.set_cons_succ]
  refine wpAnyH_ready (rs := [5]) (by kernel_rfl) (by simp) ?_
  refine AllReadyH.cons rfl (fun K hK => ?_) AllReadyH.nil
  go_simp
  refine (inM_calls _ _ _ hev hm).mono ?_
  rintro e w' ⟨rfl, rfl⟩
  refine hK.out _ _ ⟨C8 _ CS2, cells5 CR2⟩ (fun hHeld => ?_)
  clear hK K
  try simp only [Act.put, List.setIfInBounds_toArray, List.set_cons_zero, List.set_cons_succ]
  refine takeD (i := 6) (v := .bool (!inM E m)) (some 12) rfl rfl (by kernel_rfl) (by kernel_rfl) (by kernel_rfl) (fun _ _ _ h => h) (Or.inl ⟨by rfl, fun w' hw' => ?_⟩) hHeld ?_
  · first | (go_simp; done) | (obtain ⟨s0, s1, s2, s3, s4, s5⟩ := hw'; go_simp; done)
  try simp only [Act.put, List.setIfInBounds_toArray, List.set_cons_zero, List.set_cons_succ]
  refine wpAnyH_ready (rs := [7]) (by kernel_rfl) (by simp) ?_
  refine AllReadyH.cons rfl (fun K hK => ?_) AllReadyH.nil
  go_simp
  refine hK.out _ _ ⟨C8 _ (cells_putS (g := w.heap.size + 2) (vs := [.bool r.choice, d1, .bool r.weight, .int .i64 r.bound, d4]) CS2 (by omega)), cells5 (cells_putS (g := w.heap.size + 2) (vs := [.bool r.choice, d1, .bool r.weight, .int .i64 r.bound, d4]) CR2 (by omega))⟩ (fun hHeld => ?_)
  clear hK K
  try simp only [Act.put, List.setIfInBounds_toArray, List.set_cons_zero, List.set_cons_succ]
  refine takeD (i := 8) (v := .bool (!inM E m)) (some 5) rfl rfl (by kernel_rfl) (by kernel_rfl) (by kernel_rfl) (fun _ _ _ h => h) (Or.inl ⟨by rfl, fun w' hw' => ?_⟩) hHeld ?_
  · first | (go_simp; done) | (obtain ⟨s0, s1, s2, s3, s4, s5⟩ := hw'; go_simp; done)
  try simp only [Act.put, List.setIfInBounds_toArray, List.set_cons_zero, List.set_cons_succ]
  refine wpAnyH_done (by kernel_rfl) ?_ _
  go_wp2
  refine bodyPost_ret (v := .tuple #[.agg #[.bool r.choice, d1, .bool r.weight, .int .i64 r.bound, d4], .bool (!inM E m)])
    (by simp [results, Tryz.results208, go_sem, z0, z1, z2, z3, z4]) rfl ⟨rfl, ?_⟩
  repeat (refine Below.setCell ?_ (by simp; try omega) _)
  exact t2


/-- What the literals that are asked make of a rule. -/
def decS (us xs : List Int) (r : RuleD) : Option RuleD :=
  if r.weight then
    (if r.bound ≤ askS us xs r.body r.body.length then some { r with weight := false, bound := 0, body := [] }
    else some { r with bound := r.bound - askS us xs r.body r.body.length, body := opnTo us r.body r.body.length })
  else if askN us xs r.body r.body.length then none
  else some { r with body := opnTo us r.body r.body.length }
theorem topS_dec (us xs : List Int) (r : RuleD) : topS us xs r = if belB us r then none else decS us xs r := rfl
theorem decS_wY {us xs : List Int} {r : RuleD} (hw : r.weight = true) (hb : r.bound ≤ askS us xs r.body r.body.length) : decS us xs r = some { r with weight := false, bound := 0, body := [] } := by
  unfold decS; rw [hw, if_pos rfl, if_pos hb]
theorem decS_wN {us xs : List Int} {r : RuleD} (hw : r.weight = true) (hb : ¬ r.bound ≤ askS us xs r.body r.body.length) : decS us xs r = some { r with bound := r.bound - askS us xs r.body r.body.length, body := opnTo us r.body r.body.length } := by
  unfold decS; rw [hw, if_pos rfl, if_neg hb]
theorem decS_N {us xs : List Int} {r : RuleD} (hw : r.weight = false) (hb : askN us xs r.body r.body.length = true) : decS us xs r = none := by
  unfold decS; rw [hw, hb]; simp
theorem decS_Y {us xs : List Int} {r : RuleD} (hw : r.weight = false) (hb : askN us xs r.body r.body.length = false) : decS us xs r = some { r with body := opnTo us r.body r.body.length } := by
  unfold decS; rw [hw, hb]; simp
/-- A step: as StepQ, but what comes beside 'no' may be any rule. -/
def StepR (w : World) (r : RuleD) (fp : List Nat) (g : RuleD → Option RuleD) (e : Ending) (w' : World) : Prop :=
  Below w.heap.size w w' ∧ ((∃ y ecs fp', g r = some y ∧ e = .returned (.tuple #[.agg (List.toArray ecs), .bool true]) ∧ Ow.O w' ecs y fp' ∧ ∀ f ∈ fp', f ∈ fp ∨ w.heap.size ≤ f) ∨
    (g r = none ∧ ∃ d0 d1 d2 d3 d4 : Value, (d0.oneCell' = true ∧ d1.oneCell' = true ∧ d2.oneCell' = true ∧ d3.oneCell' = true ∧ d4.oneCell' = true) ∧ e = .returned (.tuple #[.agg #[d0, d1, d2, d3, d4], .bool false])))
theorem own_bodyW {w w5 : World} {M : Nat} {r : RuleD} {c1 c4 v4 : Value} {fp : List Nat} {ys : List (Int × Int)} {wt : Bool} {bd : Int} (ho : Ow.O w [.bool r.choice, c1, .bool r.weight, .int .i64 r.bound, c4] r fp) (hb : Below w.heap.size w w5) (hv : Own M w5 [v4] ys) (hM : w.heap.size ≤ M) (hf : Fits bd) :
    ∃ fp', Ow.O w5 [.bool r.choice, c1, .bool wt, .int .i64 bd, v4] { r with weight := wt, bound := bd, body := ys } fp' ∧ ∀ f ∈ fp', f ∈ fp ∨ M ≤ f := by
  obtain ⟨d1, d4, f1, f2, e, hf', h1, h4, rfl, hn⟩ := ho
  simp only [List.cons.injEq, and_true, true_and] at e
  obtain ⟨rfl, rfl⟩ := e
  obtain ⟨f3, h3, hl3⟩ := hv
  have h3l := Ow.nodup (α := List (Int × Int)) h3
  have h1l := Ow.lt (α := List Int) h1
  refine ⟨f1 ++ f3, ⟨c1, v4, f1, f3, rfl, hf, Ow.kept (α := List Int) h1 fun g hg => hb.block g (h1l g hg), h3, rfl, List.nodup_append.2 ⟨(List.nodup_append.1 hn).1, h3l, fun a ha b hb e => ?_⟩⟩, fun f hf => ?_⟩
  · have := h1l a ha; have := hl3 b hb; omega
  · rcases List.mem_append.1 hf with hf | hf
    · exact .inl (List.mem_append_left _ hf)
    · exact .inr (hl3 f hf)
set_option maxHeartbeats 1000000 in
theorem dec1_calls {r : RuleD} {w : World} {us xs : List Int} {Bs Bx : Nat} {s0 s1 s2 s3 s4 s5 s6 s7 : Value} {ecs : List Value} {fp : List Nat} (hO : Ow.O w ecs r fp) (hok : ruleOkB r 12 = true) (hu : IsP us)
    (hBs : Cells w Bs 0 [s0, s1, s2, s3, s4, s5, s6, s7, .int .u16 (maskOf us : Int)]) (hBx : w.cell? ⟨Bx, 0, none⟩ = some (.int .u16 (maskOf xs : Int))) :
    Calls Tryz.prog 241 #[.agg ecs.toArray, .pointer (some ⟨Bs, 0, none⟩), .pointer (some ⟨Bx, 0, none⟩)] w (StepR w r fp (decS us xs)) := by
  have hR := Ow.rd hO
  have hR0 := hR
  obtain ⟨d1, d4, rfl, hf, r1, r4⟩ := hR0
  obtain ⟨ah, kh, rfl, _, _⟩ := r1.sl
  obtain ⟨ab, kb, rfl, _, _⟩ := r4.sl
  have tA := (Below.refl w.heap.size w).alloc (Nat.le_refl _) (.cells #[.bool r.choice, .slice ah r.heads.length kh, .bool r.weight, .int .i64 r.bound, .slice ab r.body.length kb] 34)
  have tB := tA.alloc tA.size (.cells #[.bool false, .slice none 0 0, .bool false, .int .i64 0, .slice none 0 0] 34)
  have hb0 := (Below.heap_alloc (w.alloc (.cells #[.bool r.choice, .slice ah r.heads.length kh, .bool r.weight, .int .i64 r.bound, .slice ab r.body.length kb] 34)) (.cells #[.bool false, .slice none 0 0, .bool false, .int .i64 0, .slice none 0 0] 34) w.heap.size (by simp)).trans (alloc_block w #[.bool r.choice, .slice ah r.heads.length kh, .bool r.weight, .int .i64 r.bound, .slice ab r.body.length kb] 34)
  have hb1 := alloc_block (w.alloc (.cells #[.bool r.choice, .slice ah r.heads.length kh, .bool r.weight, .int .i64 r.bound, .slice ab r.body.length kb] 34)) #[.bool false, .slice none 0 0, .bool false, .int .i64 0, .slice none 0 0] 34
  rw [World.size_alloc] at hb1
  have zB : ((w.alloc (.cells #[.bool r.choice, .slice ah r.heads.length kh, .bool r.weight, .int .i64 r.bound, .slice ab r.body.length kb] 34)).alloc (.cells #[.bool false, .slice none 0 0, .bool false, .int .i64 0, .slice none 0 0] 34)).heap.size = w.heap.size + 2 := by simp
  obtain ⟨y0, y1, y2, y3, y4, y5, y6, y7, y8⟩ := cells9S (hBs.later tB)
  have kx := cell_kept tB hBx
  have lx := cell_lt hBx
  have ls := hBs.lt
  obtain ⟨x0, x1, x2, x3, x4⟩ := cells5 (cellsAt hb0)
  have h4 := Rd.mono (α := List (Int × Int)) tB r4
  obtain ⟨hn20, hbd, hbw⟩ := ruleOk_facts hok
  have hlit : ∀ p ∈ r.body, (1 ≤ p.1 ∧ p.1 ≤ 12) ∨ (-12 ≤ p.1 ∧ p.1 ≤ -1) := fun p hp => lit12 (hbw p hp).1
  have hmx := maskOf_lt xs
  go_enter Tryz.func241, Tryz.ntmps241
  go_wp2_with fail
  refine (sides_calls h4 hu hlit hn20).mono ?_
  rintro e w2 ⟨v1, v2, rfl, g1, o2, b2⟩
  rw [zB] at o2
  have hz2 := b2.size
  rw [zB] at hz2
  have hbr := (b2.block w.heap.size (by omega)).trans hb0
  have hbz := (b2.block (w.heap.size + 1) (by omega)).trans hb1
  have t2 := tB.step b2
  have kx := cell_kept b2 kx
  obtain ⟨va, vn, rfl, _, _⟩ := g1.sl
  clear x0 x1 x2 x3 x4 y0 y1 y2 y3 y4 y5 y6 y7 y8 hb0 hb1 h4 hBs hBx tA tB b2 zB
  go_wp2_with fail
  refine (reached_calls (maskOf xs) (maskOf xs) hmx hmx g1 (fun p hp => by have := (hbw p (ask_mem hp)).2; omega) (by have := ask_len (us := us) (b := r.body) (k := r.body.length); omega)).mono ?_
  rintro e w3 ⟨rfl, b3⟩
  rw [ask_sum (fun p hp => by have := hlit p hp; unfold Fits; omega)]
  have hS := askS_bd (us := us) (xs := xs) (b := r.body) (k := r.body.length) (fun p hp => by have := (hbw p hp).2; omega) hn20 (Nat.le_refl _)
  have o3 := o2.later b3
  have t3 := t2.step b3
  have hz3 : w2.heap.size ≤ w3.heap.size := b3.size
  have hbr := (b3.block w.heap.size (by omega)).trans hbr
  have hbz := (b3.block (w.heap.size + 1) (by omega)).trans hbz
  obtain ⟨a2, n2, e2⟩ : ∃ a2 n2, v2 = .slice a2 (opnTo us r.body r.body.length).length n2 := by
    obtain ⟨a2, n2, e, _⟩ := o3.rd.sl
    exact ⟨a2, n2, e⟩
  subst e2
  have HG1 := fun h1 h2 => Lib.hid (decS_wY (us := us) (xs := xs) (r := r) h1 h2)
  have HG2 := fun h1 h2 => Lib.hid (decS_wN (us := us) (xs := xs) (r := r) h1 h2)
  have HG3 := fun h1 h2 => Lib.hid (decS_N (us := us) (xs := xs) (r := r) h1 h2)
  have HG4 := fun h1 h2 => Lib.hid (decS_Y (us := us) (xs := xs) (r := r) h1 h2)
  have HAL := fun (h1 : r.weight = false) => Lib.hid (ask_all (us := us) (xs := xs) (b := r.body) (k := r.body.length) fun p hp => (hbw p hp).2.2.2 h1)
  have hkl : ((askTo us r.body r.body.length).length : Int) ≤ 20 := by have := ask_len (us := us) (b := r.body) (k := r.body.length); omega
  clear o2 t2 b3 g1 hbw hlit hR r1 r4 hok kx hu
  obtain ⟨S, hSe⟩ : ∃ S, S = askS us xs r.body r.body.length := ⟨_, rfl⟩
  rw [← hSe] at hS HG1 HG2 HAL ⊢
  obtain ⟨x0, x1, x2, x3, x4⟩ := cells5 (cellsAt hbr)
  obtain ⟨z0, z1, z2, z3, z4⟩ := cells5 (cellsAt hbz)
  have hfx := fun j => frozen_of_row _ w.heap.size j _ _ hbr
  have hfz := fun j => frozen_of_row _ (w.heap.size + 1) j _ _ hbz
  clear hSe
  have HT := Lib.hid (fun W' (k : Cg (fun x => x = w.heap.size ∨ x = w.heap.size + 1) w3 W') => (⟨k.os.trans t3.os, k.tape.trans t3.tape, k.output.trans t3.output, Nat.le_trans t3.size k.size, fun x hx => (k.block x (by omega) (by omega)).trans (t3.block x hx)⟩ : Below w.heap.size w W'))
  cases hW : r.weight
  · have HA := HAL hW
    rw [hW] at x2
    have hOw : ∃ fq, Ow.O w3 [.bool r.choice, .slice ah r.heads.length kh, .bool false, .int .i64 r.bound, .slice a2 (opnTo us r.body r.body.length).length n2] { r with weight := false, bound := r.bound, body := opnTo us r.body r.body.length } fq ∧ ∀ f ∈ fq, f ∈ fp ∨ w.heap.size + 2 + 1 ≤ f := own_bodyW hO t3 o3.1.own (by omega) hf
    have hre : ({ r with weight := false, bound := r.bound, body := opnTo us r.body r.body.length } : RuleD) = { r with body := opnTo us r.body r.body.length } := by rw [← hW]
    rw [hre] at hOw
    obtain ⟨fq, q1, q2⟩ := hOw
    have HO := Lib.hid (fun W' (k : Cg (fun x => x = w.heap.size ∨ x = w.heap.size + 1) w3 W') => Ow.kept (w' := W') q1 fun f hf => k.block f (Ow.lt q1 f hf) (by
      rcases q2 f hf with h | h
      · have := Ow.lt hO f h; omega
      · omega))
    have HF := Lib.hid (fun f hf => (q2 f hf).imp id fun h => (by omega : w.heap.size ≤ f))
    have HE : Hid ((S == ((askTo us r.body r.body.length).length : Int)) = !askN us xs r.body r.body.length) := HA.out
    have HG3 := HG3 hW
    have HG4 := HG4 hW
    obtain ⟨nA, hnA⟩ : ∃ nA, nA = (askTo us r.body r.body.length).length := ⟨_, rfl⟩
    obtain ⟨nO, hnO⟩ : ∃ nO, nO = (opnTo us r.body r.body.length).length := ⟨_, rfl⟩
    rw [← hnA] at HE ⊢
    rw [← hnO] at HO ⊢
    clear hO q1 q2 o3 t3 hre hbr hbz HA HAL HG1 HG2 hnA hnO
    go_wp2
    refine bodyPost_ret (v := .tuple #[.agg #[.bool r.choice, .slice ah r.heads.length kh, .bool false, .int .i64 r.bound, .slice a2 nO n2], .bool (S == (nA : Int))])
      (by simp [results, Tryz.results241, go_sem, z0, z1, z2, z3, z4]) rfl ?_
    rw [HE.out]
    refine ⟨HT.out _ ?_, ?_⟩
    · repeat (refine Cg.set ?_ _ _ (by simp))
      exact Cg.refl _ _
    · cases hN : askN us xs r.body r.body.length
      · exact .inl ⟨_, [.bool r.choice, .slice ah r.heads.length kh, .bool false, .int .i64 r.bound, .slice a2 nO n2], fq, (HG4 hN).out, rfl, HO.out _ (by
          repeat (refine Cg.set ?_ _ _ (by simp))
          exact Cg.refl _ _), fun f hf => HF.out f hf⟩
      · exact .inr ⟨(HG3 hN).out, _, _, _, _, _, ⟨rfl, rfl, rfl, rfl, rfl⟩, rfl⟩
  · rw [hW] at x2
    by_cases hB : r.bound ≤ S
    · go_wp2_with fail
      refine wwNil_calls.mono ?_
      rintro e w4 ⟨a, c, rfl, o4, b4⟩
      obtain ⟨fq, q1, q2⟩ := own_bodyW (wt := false) (bd := 0) hO (t3.step b4) o4.1.own (by omega) (by unfold Fits; omega)
      have HG := HG1 hW hB
      have hz4 := b4.size
      have hbz4 := (b4.block (w.heap.size + 1) (by omega)).trans hbz
      have k34 : Cg (fun x => x = w.heap.size ∨ x = w.heap.size + 1) w3 w4 := Cg.below b4
      have HO := Lib.hid (fun W' (k : Cg (fun x => x = w.heap.size ∨ x = w.heap.size + 1) w4 W') => Ow.kept (w' := W') q1 fun f hf => k.block f (Ow.lt q1 f hf) (by
        rcases q2 f hf with h | h
        · have := Ow.lt hO f h; omega
        · omega))
      have HF := Lib.hid (fun f hf => (q2 f hf).imp id fun h => (by omega : w.heap.size ≤ f))
      clear z0 z1 z2 z3 z4 hfz x0 x1 x2 x3 x4 hfx
      obtain ⟨z0, z1, z2, z3, z4⟩ := cells5 (cellsAt hbz4)
      have hfz := fun j => frozen_of_row _ (w.heap.size + 1) j _ _ hbz4
      clear hO q1 q2 o3 o4 t3 b4 hbr hbz hbz4 HAL HG1 HG2 HG3 HG4
      go_wp2
      refine bodyPost_ret (v := .tuple #[.agg #[.bool r.choice, .slice ah r.heads.length kh, .bool false, .int .i64 0, .slice a 0 c], .bool true])
        (by simp [results, Tryz.results241, go_sem, z0, z1, z2, z3, z4]) rfl ⟨HT.out _ (k34.trans ?_), .inl ⟨_, [.bool r.choice, .slice ah r.heads.length kh, .bool false, .int .i64 0, .slice a 0 c], fq, HG.out, rfl, HO.out _ ?_, fun f hf => HF.out f hf⟩⟩
      · repeat (refine Cg.set ?_ _ _ (by simp))
        exact Cg.refl _ _
      · repeat (refine Cg.set ?_ _ _ (by simp))
        exact Cg.refl _ _
    · have HG := HG2 hW hB
      have hfs : Fits (r.bound - S) := by unfold Fits; omega
      obtain ⟨fq, q1, q2⟩ := own_bodyW (wt := true) (bd := r.bound - S) hO t3 o3.1.own (by omega) hfs
      have hre : ({ r with weight := true, bound := r.bound - S, body := opnTo us r.body r.body.length } : RuleD) = { r with bound := r.bound - S, body := opnTo us r.body r.body.length } := by rw [← hW]
      rw [hre] at q1
      have HO := Lib.hid (fun W' (k : Cg (fun x => x = w.heap.size ∨ x = w.heap.size + 1) w3 W') => Ow.kept (w' := W') q1 fun f hf => k.block f (Ow.lt q1 f hf) (by
        rcases q2 f hf with h | h
        · have := Ow.lt hO f h; omega
        · omega))
      have HF := Lib.hid (fun f hf => (q2 f hf).imp id fun h => (by omega : w.heap.size ≤ f))
      have hwr : IntKind.i64.wrap (r.bound - S) = r.bound - S := IntWalk.i64_in _ (by omega)
      obtain ⟨nO, hnO⟩ : ∃ nO, nO = (opnTo us r.body r.body.length).length := ⟨_, rfl⟩
      rw [← hnO] at HO ⊢
      clear hO q1 q2 o3 t3 hbr hbz HAL HG1 HG2 HG3 HG4 hre hnO
      go_wp2
      refine bodyPost_ret (v := .tuple #[.agg #[.bool r.choice, .slice ah r.heads.length kh, .bool true, .int .i64 (r.bound - S), .slice a2 nO n2], .bool true])
        (by simp [results, Tryz.results241, go_sem, z0, z1, z2, z3, z4]) rfl ⟨HT.out _ ?_, .inl ⟨_, [.bool r.choice, .slice ah r.heads.length kh, .bool true, .int .i64 (r.bound - S), .slice a2 nO n2], fq, HG.out, rfl, HO.out _ ?_, fun f hf => HF.out f hf⟩⟩
      · repeat (refine Cg.set ?_ _ _ (by simp))
        exact Cg.refl _ _
      · repeat (refine Cg.set ?_ _ _ (by simp))
        exact Cg.refl _ _

/-! ### TopK -/

theorem decidedBy_calls {s0 s1 s2 s3 s4 s5 s6 s7 : Value} {m n : Nat} (w : World) :
    Calls Tryz.prog 209 #[.agg #[s0, s1, s2, s3, s4, s5, s6, s7, .int .u16 (m : Int)], .int .u16 (n : Int)] w fun e w' => e = .returned (.func (.func 241) #[] #[.pointer (some ⟨w.heap.size, 0, none⟩), .pointer (some ⟨w.heap.size + 1, 0, none⟩)]) ∧ Cells w' w.heap.size 0 [s0, s1, s2, s3, s4, s5, s6, s7, .int .u16 (m : Int)] ∧ w'.cell? ⟨w.heap.size + 1, 0, none⟩ = some (.int .u16 (n : Int)) ∧ Below w.heap.size w w' := by
  have hmf : ∀ (fn : Fn) (first cap : Array Value) (w : World), (Instr.makeFunc fn first cap).run Tryz.prog w = .ok (.func fn first cap) w := fun _ _ _ _ => rfl
  have tA := (Below.refl w.heap.size w).alloc (Nat.le_refl _) (.cells #[s0, s1, s2, s3, s4, s5, s6, s7, .int .u16 (m : Int)] 145)
  have tB := tA.alloc tA.size (.cells #[.int .u16 (n : Int)] 106)
  have CS := (Cells.new w [s0, s1, s2, s3, s4, s5, s6, s7, .int .u16 (m : Int)] 145).alloc (.cells #[.int .u16 (n : Int)] 106)
  have CX := (Cells.new (w.alloc (.cells #[s0, s1, s2, s3, s4, s5, s6, s7, .int .u16 (m : Int)] 145)) [.int .u16 (n : Int)] 106).c0
  rw [World.size_alloc] at CX
  have HS := Lib.hid CS
  have HX := Lib.hid CX
  clear CS CX
  go_enter Tryz.func209, Tryz.ntmps209
  go_wp2
  go_ret
  exact ⟨rfl, HS.out, HX.out, tB⟩
set_option maxHeartbeats 1000000 in
theorem afterTop_calls {r : RuleD} {w : World} {us xs : List Int} {gs cp Bs Bx : Nat} {s0 s1 s2 s3 s4 s5 s6 s7 : Value} {ecs : List Value} {fp : List Nat} (hO : Ow.O w ecs r fp) (hok : ruleOkB r 12 = true) (hu : IsP us)
    (hs0 : w.cell? ⟨gs, 0, none⟩ = some (.func (.func 208) #[.agg #[s0, s1, s2, s3, s4, s5, s6, s7, .int .u16 (maskOf us : Int)]] #[]))
    (hs1 : w.cell? ⟨gs, 1, none⟩ = some (.func (.func 241) #[] #[.pointer (some ⟨Bs, 0, none⟩), .pointer (some ⟨Bx, 0, none⟩)]))
    (hBs : Cells w Bs 0 [s0, s1, s2, s3, s4, s5, s6, s7, .int .u16 (maskOf us : Int)]) (hBx : w.cell? ⟨Bx, 0, none⟩ = some (.int .u16 (maskOf xs : Int))) :
    Calls Tryz.prog 265 #[.agg ecs.toArray, .slice (some ⟨gs, 0, none⟩) 2 cp] w (StepQ w r fp (topS us xs)) := by
  have hR := Ow.rd hO
  have hR0 := hR
  obtain ⟨d1, d4, rfl, hf, r1, r4⟩ := hR0
  have so1 := sto Tryz.prog r1.one1
  have so4 := sto Tryz.prog r4.one1
  have tA := (Below.refl w.heap.size w).alloc (Nat.le_refl _) (.cells #[.bool r.choice, d1, .bool r.weight, .int .i64 r.bound, d4] 34)
  have tB := tA.alloc tA.size (.cells #[.bool false, .slice none 0 0, .bool false, .int .i64 0, .slice none 0 0] 34)
  have hb0 := (Below.heap_alloc (w.alloc (.cells #[.bool r.choice, d1, .bool r.weight, .int .i64 r.bound, d4] 34)) (.cells #[.bool false, .slice none 0 0, .bool false, .int .i64 0, .slice none 0 0] 34) w.heap.size (by simp)).trans (alloc_block w #[.bool r.choice, d1, .bool r.weight, .int .i64 r.bound, d4] 34)
  have hb1 := alloc_block (w.alloc (.cells #[.bool r.choice, d1, .bool r.weight, .int .i64 r.bound, d4] 34)) #[.bool false, .slice none 0 0, .bool false, .int .i64 0, .slice none 0 0] 34
  rw [World.size_alloc] at hb1
  have zB : ((w.alloc (.cells #[.bool r.choice, d1, .bool r.weight, .int .i64 r.bound, d4] 34)).alloc (.cells #[.bool false, .slice none 0 0, .bool false, .int .i64 0, .slice none 0 0] 34)).heap.size = w.heap.size + 2 := by simp
  have CX := (Cells.new w [.bool r.choice, d1, .bool r.weight, .int .i64 r.bound, d4] 34).alloc (.cells #[.bool false, .slice none 0 0, .bool false, .int .i64 0, .slice none 0 0] 34)
  obtain ⟨x0, x1, x2, x3, x4⟩ := cells5 CX
  have hOB := Ow.kept hO fun f hf => tB.block f (Ow.lt hO f hf)
  have hbe := bel_same (us := us) (fits_ruleOk hok)
  have k0 := cell_kept tB hs0
  have k1 := cell_kept tB hs1
  have l3 := cell_lt hs0
  have lBs := hBs.lt
  have lBx := cell_lt hBx
  clear r1 r4 hf CX
  go_enter Tryz.func265, Tryz.ntmps265
  go_wp2
  refine wp_loop_rounds 3 ?_
  rw [rounds_succ]
  go_wp2_with fail
  go_at_call 208
  refine (ifAbove_calls (Ow.rd hOB) (maskOf_lt us)).mono ?_
  rintro e w5 ⟨rfl, b5⟩
  rw [← hbe]
  have hz5 := b5.size
  rw [zB] at hz5
  have hbp := (b5.block w.heap.size (by omega)).trans hb0
  have hbr := (b5.block (w.heap.size + 1) (by omega)).trans hb1
  have tw := tB.step b5
  clear x0 x1 x2 x3 x4 k0 k1 hb0 hb1 b5 tA tB hbe hOB zB
  have hTD := topS_dec us xs r
  cases hB : belB us r
  · rw [hB, if_neg (by simp)] at hTD
    have k8 : Cg (fun x => x = w.heap.size ∨ x = w.heap.size + 1) w5 (w5.alloc (.cells #[.bool r.choice, d1, .bool r.weight, .int .i64 r.bound, d4] 34)) := (Cg.refl _ _).alloc _
    have b8 := (Below.refl w5.heap.size w5).alloc (Nat.le_refl _) (.cells #[.bool r.choice, d1, .bool r.weight, .int .i64 r.bound, d4] 34)
    have hbp8 := (b8.block w.heap.size (by omega)).trans hbp
    have hbr8 := (b8.block (w.heap.size + 1) (by omega)).trans hbr
    have l8 : w5.heap.size < (w5.alloc (.cells #[.bool r.choice, d1, .bool r.weight, .int .i64 r.bound, d4] 34)).heap.size := by rw [World.size_alloc]; omega
    obtain ⟨c0, c1, c2, c3, c4⟩ := cells5 (Cells.new w5 [.bool r.choice, d1, .bool r.weight, .int .i64 r.bound, d4] 34)
    obtain ⟨x0, x1, x2, x3, x4⟩ := cells5 (cellsAt hbp8)
    have hfx := fun j => frozen_of_row _ w.heap.size j _ _ hbp8
    go_upto_region 8 with fail
    have e0 := heap_setCell_same _ w.heap.size 0 _ _ (.bool r.choice) hbp8
    have e1 := heap_setCell_same _ w.heap.size 1 _ _ d1 e0
    have e2 := heap_setCell_same _ w.heap.size 2 _ _ (.bool r.weight) e1
    have e3 := heap_setCell_same _ w.heap.size 3 _ _ (.int .i64 r.bound) e2
    have e4 := heap_setCell_same _ w.heap.size 4 _ _ d4 e3
    have kp : Cg (fun x => x = w.heap.size) (w5.alloc (.cells #[.bool r.choice, d1, .bool r.weight, .int .i64 r.bound, d4] 34)) ((((((w5.alloc (.cells #[.bool r.choice, d1, .bool r.weight, .int .i64 r.bound, d4] 34)).setCell ⟨w.heap.size, 0, none⟩ (.bool r.choice)).setCell ⟨w.heap.size, 1, none⟩ d1).setCell ⟨w.heap.size, 2, none⟩ (.bool r.weight)).setCell ⟨w.heap.size, 3, none⟩ (.int .i64 r.bound)).setCell ⟨w.heap.size, 4, none⟩ d4) := by
      repeat (refine Cg.set ?_ _ _ rfl)
      exact Cg.refl _ _
    have hbr9 := kp.at hbr8 (by omega)
    have tw8 := tw.trans (b8.mono (by omega))
    clear c0 c1 c2 c3 c4 x0 x1 x2 x3 x4 hfx e0 e1 e2 e3 l8 k8 b8 hbp8 hbr8 hbp hbr hs0
    generalize ((((((w5.alloc (.cells #[.bool r.choice, d1, .bool r.weight, .int .i64 r.bound, d4] 34)).setCell ⟨w.heap.size, 0, none⟩ (.bool r.choice)).setCell ⟨w.heap.size, 1, none⟩ d1).setCell ⟨w.heap.size, 2, none⟩ (.bool r.weight)).setCell ⟨w.heap.size, 3, none⟩ (.int .i64 r.bound)).setCell ⟨w.heap.size, 4, none⟩ d4) = W9 at *
    have hA9 : W9.heap[w.heap.size]? = some (.cells #[.bool r.choice, d1, .bool r.weight, .int .i64 r.bound, d4] 34 (0, 0)) := e4
    have tw9 : Below w.heap.size w W9 := ⟨kp.os.trans tw8.os, kp.tape.trans tw8.tape, kp.output.trans tw8.output, Nat.le_trans tw8.size kp.size, fun x hx => (kp.block x (Nat.lt_of_lt_of_le hx tw8.size) (by omega)).trans (tw8.block x hx)⟩
    have hz9 : w.heap.size + 2 ≤ W9.heap.size := by have := kp.size; rw [World.size_alloc] at this; omega
    have hO9 := Ow.kept hO (w' := W9) fun f hf => tw9.block f (Ow.lt hO f hf)
    have k1 := cell_kept tw9 hs1
    have hdec := dec1_calls (us := us) (xs := xs) hO9 hok hu (hBs.later tw9) (cell_kept tw9 hBx)
    have hlf : ∀ f ∈ fp, f < w.heap.size := fun f hf => Ow.lt hO f hf
    obtain ⟨x0, x1, x2, x3, x4⟩ := cells5 (cellsAt hA9)
    clear e4 kp tw8 hO hO9 hR hBs hBx hs1 hB tw
    go_wp2
    rw [rounds_succ]
    go_wp2_with fail
    go_at_call 241
    refine hdec.mono ?_
    rintro e w10 ⟨b10, hst⟩
    have hz10 := b10.size
    have hbp10 := (b10.block w.heap.size (by omega)).trans hA9
    have hbr10 := (b10.block (w.heap.size + 1) (by omega)).trans hbr9
    have tw10 := tw9.trans (b10.mono (by omega))
    have HT := Lib.hid (fun W' (k : Cg (fun x => x = w.heap.size ∨ x = w.heap.size + 1) w10 W') => (⟨k.os.trans tw10.os, k.tape.trans tw10.tape, k.output.trans tw10.output, Nat.le_trans tw10.size k.size, fun x hx => (k.block x (Nat.lt_of_lt_of_le hx tw10.size) (by omega)).trans (tw10.block x hx)⟩ : Below w.heap.size w W'))
    clear x0 x1 x2 x3 x4 k1 hdec hA9 hbr9 b10 tw9 tw10
    rcases hst with ⟨y, ecs', fp', hg, rfl, hO10, hf10⟩ | ⟨hg, q0, q1, q2, q3, q4, ⟨o0, o1, o2, o3, o4⟩, rfl⟩
    · have lx := Rd.one (Ow.rd hO10)
      obtain ⟨v0, v1, v2, v3, v4, rfl⟩ := list5 (Rd.len (Ow.rd hO10))
      have sv0 := sto Tryz.prog (lx v0 (by simp))
      have sv1 := sto Tryz.prog (lx v1 (by simp))
      have sv2 := sto Tryz.prog (lx v2 (by simp))
      have sv3 := sto Tryz.prog (lx v3 (by simp))
      have sv4 := sto Tryz.prog (lx v4 (by simp))
      have b11 := (Below.refl w10.heap.size w10).alloc (Nat.le_refl _) (.cells #[v0, v1, v2, v3, v4] 34)
      have hbp11 := (b11.block w.heap.size (by omega)).trans hbp10
      have hbr11 := (b11.block (w.heap.size + 1) (by omega)).trans hbr10
      have k11 : Cg (fun x => x = w.heap.size ∨ x = w.heap.size + 1) w10 (w10.alloc (.cells #[v0, v1, v2, v3, v4] 34)) := (Cg.refl _ _).alloc _
      have l11 : w10.heap.size < (w10.alloc (.cells #[v0, v1, v2, v3, v4] 34)).heap.size := by rw [World.size_alloc]; omega
      have HO := Lib.hid (fun W' (k : Cg (fun x => x = w.heap.size ∨ x = w.heap.size + 1) w10 W') => Ow.kept (w' := W') hO10 fun f hf => k.block f (Ow.lt hO10 f hf) (by
        rcases hf10 f hf with h | h
        · have := hlf f h; omega
        · omega))
      have HG := Lib.hid (hTD.trans hg)
      have HF := Lib.hid (fun f hf => (hf10 f hf).imp id fun h => (by omega : w.heap.size ≤ f))
      obtain ⟨c0, c1, c2, c3, c4⟩ := cells5 (Cells.new w10 [v0, v1, v2, v3, v4] 34)
      obtain ⟨x0, x1, x2, x3, x4⟩ := cells5 (cellsAt hbp11)
      have hfx := fun j => frozen_of_row _ w.heap.size j _ _ hbp11
      obtain ⟨z0, z1, z2, z3, z4⟩ := cells5 (cellsAt hbr11)
      have hfz := fun j => frozen_of_row _ (w.heap.size + 1) j _ _ hbr11
      clear hbp10 hbr10 hbp11 hbr11 hO10 hf10 hg hTD b11 lx hlf
      go_wp2
      rw [rounds_succ]
      go_wp2
      refine bodyPost_ret (v := .tuple #[.agg #[v0, v1, v2, v3, v4], .bool true])
        (by simp [results, Tryz.results265, go_sem, z0, z1, z2, z3, z4]) rfl ⟨HT.out _ (k11.trans ?_), .inl ⟨y, [v0, v1, v2, v3, v4], fp', HG.out, rfl, HO.out _ (k11.trans ?_), fun f hf => HF.out f hf⟩⟩
      · repeat (refine Cg.set ?_ _ _ (by simp))
        exact Cg.refl _ _
      · repeat (refine Cg.set ?_ _ _ (by simp))
        exact Cg.refl _ _
    · have so0 := sto Tryz.prog o0
      have so1 := sto Tryz.prog o1
      have so2 := sto Tryz.prog o2
      have so3 := sto Tryz.prog o3
      have so4 := sto Tryz.prog o4
      have b11 := (Below.refl w10.heap.size w10).alloc (Nat.le_refl _) (.cells #[q0, q1, q2, q3, q4] 34)
      have hbr11 := (b11.block (w.heap.size + 1) (by omega)).trans hbr10
      have k11 : Cg (fun x => x = w.heap.size ∨ x = w.heap.size + 1) w10 (w10.alloc (.cells #[q0, q1, q2, q3, q4] 34)) := (Cg.refl _ _).alloc _
      obtain ⟨z0, z1, z2, z3, z4⟩ := cells5 (cellsAt hbr11)
      have hfz := fun j => frozen_of_row _ (w.heap.size + 1) j _ _ hbr11
      have HG := Lib.hid (hTD.trans hg)
      clear hbp10 hbr10 hbr11 hg hTD b11 hlf
      go_wp2
      refine bodyPost_ret (v := .tuple #[.agg #[.bool false, .slice none 0 0, .bool false, .int .i64 0, .slice none 0 0], .bool false])
        (by simp [results, Tryz.results265, go_sem, z0, z1, z2, z3, z4]) rfl ⟨HT.out _ (k11.trans ?_), .inr ⟨HG.out, rfl⟩⟩
      repeat (refine Cg.set ?_ _ _ (by simp))
      exact Cg.refl _ _
  · rw [hB, if_pos rfl] at hTD
    have hbr8 := (Below.heap_alloc w5 (.cells #[.bool r.choice, d1, .bool r.weight, .int .i64 r.bound, d4] 34) (w.heap.size + 1) (by omega)).trans hbr
    obtain ⟨z0, z1, z2, z3, z4⟩ := cells5 (cellsAt hbr8)
    have hfz := fun j => frozen_of_row _ (w.heap.size + 1) j _ _ hbr8
    have HT := Lib.hid (tw.alloc tw.size (.cells #[.bool r.choice, d1, .bool r.weight, .int .i64 r.bound, d4] 34))
    have HG := Lib.hid hTD
    clear hbp hbr hbr8 tw hTD hO hR hB hs0 hs1 hBs hBx
    go_wp2
    refine bodyPost_ret (v := .tuple #[.agg #[.bool false, .slice none 0 0, .bool false, .int .i64 0, .slice none 0 0], .bool false])
      (by simp [results, Tryz.results265, go_sem, z0, z1, z2, z3, z4]) rfl ⟨?_, .inr ⟨HG.out, rfl⟩⟩
    exact HT.out.trans ((put_chg (w.heap.size + 1) [.bool false, .slice none 0 0, .bool false, .int .i64 0, .slice none 0 0] _ 0).below fun g hg => by simp at hg; omega)

/-! ### TopL -/

set_option maxHeartbeats 2000000 in
theorem top_calls {lo : Nat} {us xs : List Int} {w : World} {c1 c2 c4 c5 c6 c7 : Value} {q : ProgD} (o : Own lo w [.int .i64 q.atoms, c1, c2, .bool q.projOn, c4, c5, c6, c7] q) (hlo : lo ≤ w.heap.size) (hok : progOkB q = true) (hu : IsP us) :
    Calls Tryz.prog 127 #[.agg #[.int .i64 q.atoms, c1, c2, .bool q.projOn, c4, c5, c6, c7, .int .u16 (maskOf us : Int)], .int .u16 (maskOf xs : Int)] w fun e w' => ∃ cs', e = .returned (.agg cs'.toArray) ∧ Own lo w' cs' (partD q (leftTo (topS us xs) q.rules q.rules.length)) ∧ Below w.heap.size w w' := by
  have nr := (progOk_rules hok).1
  have HF := Lib.hid (fun r hr => rules12 hok r hr)
  have tA := (Below.refl w.heap.size w).alloc (Nat.le_refl _) (.cells #[.int .i64 q.atoms, c1, c2, .bool q.projOn, c4, c5, c6, c7, .int .u16 (maskOf us : Int)] 145)
  have tB := tA.alloc tA.size (.cells #[.int .i64 0, .slice none 0 0, .slice none 0 0, .bool false, .slice none 0 0, .slice none 0 0, .slice none 0 0, .slice none 0 0] 30)
  have CS := (Cells.new w [.int .i64 q.atoms, c1, c2, .bool q.projOn, c4, c5, c6, c7, .int .u16 (maskOf us : Int)] 145).alloc (.cells #[.int .i64 0, .slice none 0 0, .slice none 0 0, .bool false, .slice none 0 0, .slice none 0 0, .slice none 0 0, .slice none 0 0] 30)
  have hz := alloc_block (w.alloc (.cells #[.int .i64 q.atoms, c1, c2, .bool q.projOn, c4, c5, c6, c7, .int .u16 (maskOf us : Int)] 145)) #[.int .i64 0, .slice none 0 0, .slice none 0 0, .bool false, .slice none 0 0, .slice none 0 0, .slice none 0 0, .slice none 0 0] 30
  rw [World.size_alloc] at hz
  have zB : ((w.alloc (.cells #[.int .i64 q.atoms, c1, c2, .bool q.projOn, c4, c5, c6, c7, .int .u16 (maskOf us : Int)] 145)).alloc (.cells #[.int .i64 0, .slice none 0 0, .slice none 0 0, .bool false, .slice none 0 0, .slice none 0 0, .slice none 0 0, .slice none 0 0] 30)).heap.size = w.heap.size + 2 := by simp
  have hmf : ∀ (fn : Fn) (first cap : Array Value) (w : World), (Instr.makeFunc fn first cap).run Tryz.prog w = .ok (.func fn first cap) w := fun _ _ _ _ => rfl
  go_enter Tryz.func127, Tryz.ntmps127
  go_upto_region 1 with fail
  generalize hW0 : World.alloc (World.alloc w _) _ = W0 at *
  have tD := tB.drew
  have CSd := CS.drew
  have hzd : W0.drew.heap[w.heap.size + 1]? = _ := hz
  have zD : w.heap.size + 2 ≤ W0.drew.heap.size := Nat.le_of_eq zB.symm
  clear tB CS hz zB hW0 tA
  refine wp_region_held_drew (S := fun W' => W'.cell? ⟨w.heap.size, 0, none⟩ = some (.int .i64 q.atoms) ∧ W'.cell? ⟨w.heap.size, 1, none⟩ = some c1 ∧ W'.cell? ⟨w.heap.size, 2, none⟩ = some c2 ∧ W'.cell? ⟨w.heap.size, 3, none⟩ = some (.bool q.projOn) ∧ W'.cell? ⟨w.heap.size, 4, none⟩ = some c4 ∧ W'.cell? ⟨w.heap.size, 5, none⟩ = some c5 ∧ W'.cell? ⟨w.heap.size, 6, none⟩ = some c6 ∧ W'.cell? ⟨w.heap.size, 7, none⟩ = some c7 ∧ W'.cell? ⟨w.heap.size, 8, none⟩ = some (.int .u16 (maskOf us : Int))) (by kernel_rfl) (cells9S CSd) (fun hHeld => ?_)
  generalize W0.drew = W at *
  refine takeD (i := 0) (v := .agg #[.int .i64 q.atoms, c1, c2, .bool q.projOn, c4, c5, c6, c7, .int .u16 (maskOf us : Int)]) (some 5) rfl rfl (by kernel_rfl) (by kernel_rfl) (by kernel_rfl) (fun _ _ _ h => h) (Or.inl ⟨by rfl, fun w' hw' => ?_⟩) hHeld ?_
  · first | (go_simp; done) | (obtain ⟨s0, s1, s2, s3, s4, s5, s6, s7, s8⟩ := hw'; go_simp; done)
  try simp only [Act.put, List.setIfInBounds_toArray, List.set_cons_zero, List.set_cons_succ]
  refine takeD (i := 1) (v := .agg #[.int .i64 q.atoms, c1, c2, .bool q.projOn, c4, c5, c6, c7, .int .u16 (maskOf us : Int)]) (some 6) rfl rfl (by kernel_rfl) (by kernel_rfl) (by kernel_rfl) (fun _ _ _ h => h) (Or.inl ⟨by rfl, fun w' hw' => ?_⟩) hHeld ?_
  · first | (go_simp; done) | (obtain ⟨s0, s1, s2, s3, s4, s5, s6, s7, s8⟩ := hw'; go_simp; done)
  try simp only [Act.put, List.setIfInBounds_toArray, List.set_cons_zero, List.set_cons_succ]
  refine takeD (i := 2) (v := .func (.func 208) #[.agg #[.int .i64 q.atoms, c1, c2, .bool q.projOn, c4, c5, c6, c7, .int .u16 (maskOf us : Int)]] #[]) (some 7) rfl rfl (by kernel_rfl) (by kernel_rfl) (by kernel_rfl) (fun _ _ _ h => h) (Or.inl ⟨by rfl, fun w' hw' => ?_⟩) hHeld ?_
  · first | (go_simp; done) | (obtain ⟨s0, s1, s2, s3, s4, s5, s6, s7, s8⟩ := hw'; go_simp; done)
  try simp only [Act.put, List.setIfInBounds_toArray, List.set_cons_zero, List.set_cons_succ]
  refine takeD (i := 3) (v := .agg #[.int .i64 q.atoms, c1, c2, .bool q.projOn, c4, c5, c6, c7, .int .u16 (maskOf us : Int)]) (some 8) rfl rfl (by kernel_rfl) (by kernel_rfl) (by kernel_rfl) (fun _ _ _ h => h) (Or.inl ⟨by rfl, fun w' hw' => ?_⟩) hHeld ?_
  · first | (go_simp; done) | (obtain ⟨s0, s1, s2, s3, s4, s5, s6, s7, s8⟩ := hw'; go_simp; done)
  try simp only [Act.put, List.setIfInBounds_toArray, List.set_cons_zero, List.set_cons_succ]
  refine takeD (i := 4) (v := .int .u16 (maskOf xs : Int)) (some 9) rfl rfl (by kernel_rfl) (by kernel_rfl) (by kernel_rfl) (fun _ _ _ h => h) (Or.inl ⟨by rfl, fun w' hw' => ?_⟩) hHeld ?_
  · first | (go_simp; done) | (obtain ⟨s0, s1, s2, s3, s4, s5, s6, s7, s8⟩ := hw'; go_simp; done)
  try simp only [Act.put, List.setIfInBounds_toArray, List.set_cons_zero, List.set_cons_succ]
  refine wpAnyH_ready (rs := [5]) (by kernel_rfl) (by simp) ?_
  refine AllReadyH.cons rfl (fun K hK => ?_) AllReadyH.nil
  go_simp
  refine (decidedBy_calls _).mono ?_
  rintro e w2 ⟨rfl, hBs, hBx, b2⟩
  have CS2 := CSd.later b2
  have hz2 := (b2.block (w.heap.size + 1) (by omega)).trans hzd
  have t2 := tD.step b2
  have zz2 := b2.size
  refine hK.out _ _ (cells9S CS2) (fun hHeld => ?_)
  clear hK K
  try simp only [Act.put, List.setIfInBounds_toArray, List.set_cons_zero, List.set_cons_succ]
  refine wpAnyH_ready (rs := [6]) (by kernel_rfl) (by simp) ?_
  refine AllReadyH.cons rfl (fun K hK => ?_) AllReadyH.nil
  go_simp
  have tF := (Below.refl w2.heap.size w2).alloc (Nat.le_refl _) (.cells #[.func (.func 208) #[.agg #[.int .i64 q.atoms, c1, c2, .bool q.projOn, c4, c5, c6, c7, .int .u16 (maskOf us : Int)]] #[], .func (.func 241) #[] #[.pointer (some ⟨W.heap.size, 0, none⟩), .pointer (some ⟨W.heap.size + 1, 0, none⟩)]] 229)
  have CF := Cells.new w2 [.func (.func 208) #[.agg #[.int .i64 q.atoms, c1, c2, .bool q.projOn, c4, c5, c6, c7, .int .u16 (maskOf us : Int)]] #[], .func (.func 241) #[] #[.pointer (some ⟨W.heap.size, 0, none⟩), .pointer (some ⟨W.heap.size + 1, 0, none⟩)]] 229
  have hs0 := CF.c0
  have hs1 : _ := cells2 CF |>.2
  have HS : ∀ i, i < q.rules.length → ∀ fp w' ecs, Below (w2.alloc (.cells #[.func (.func 208) #[.agg #[.int .i64 q.atoms, c1, c2, .bool q.projOn, c4, c5, c6, c7, .int .u16 (maskOf us : Int)]] #[], .func (.func 241) #[] #[.pointer (some ⟨W.heap.size, 0, none⟩), .pointer (some ⟨W.heap.size + 1, 0, none⟩)]] 229)).heap.size (w2.alloc (.cells #[.func (.func 208) #[.agg #[.int .i64 q.atoms, c1, c2, .bool q.projOn, c4, c5, c6, c7, .int .u16 (maskOf us : Int)]] #[], .func (.func 241) #[] #[.pointer (some ⟨W.heap.size, 0, none⟩), .pointer (some ⟨W.heap.size + 1, 0, none⟩)]] 229)) w' → Ow.O w' ecs (nth q.rules i) fp → Calls Tryz.prog 265 #[.agg ecs.toArray, .slice (some ⟨w2.heap.size, 0, none⟩) 2 2] w' (StepQ w' (nth q.rules i) fp (topS us xs)) :=
    fun i hi fp w' ecs hb' hO' => afterTop_calls hO' (HF.out _ (nth_mem hi)) hu (cell_kept hb' hs0) (cell_kept hb' hs1) ((hBs.later tF).later hb') (cell_kept hb' (cell_kept tF hBx))
  have CS3 := CS2.later tF
  have hz3 := (tF.block (w.heap.size + 1) (by omega)).trans hz2
  have t3 := t2.step tF
  have zz3 := tF.size
  refine hK.out _ _ (cells9S CS3) (fun hHeld => ?_)
  clear hK K
  try simp only [Act.put, List.setIfInBounds_toArray, List.set_cons_zero, List.set_cons_succ]
  refine wpAnyH_ready (rs := [7]) (by kernel_rfl) (by simp) ?_
  refine AllReadyH.cons rfl (fun K hK => ?_) AllReadyH.nil
  go_simp
  refine (part_calls o t3 nr HS).mono ?_
  rintro e w5 ⟨cs5, fp5, rfl, o5, hf5, b5⟩
  obtain ⟨v0, v1, v2, v3, v4, v5, v6, v7, rfl⟩ := list8 (Rd.len (Ow.rd o5))
  have l5 := Rd.one (Ow.rd o5)
  have sv0 := sto Tryz.prog (l5 v0 (by simp))
  have sv1 := sto Tryz.prog (l5 v1 (by simp))
  have sv2 := sto Tryz.prog (l5 v2 (by simp))
  have sv3 := sto Tryz.prog (l5 v3 (by simp))
  have sv4 := sto Tryz.prog (l5 v4 (by simp))
  have sv5 := sto Tryz.prog (l5 v5 (by simp))
  have sv6 := sto Tryz.prog (l5 v6 (by simp))
  have sv7 := sto Tryz.prog (l5 v7 (by simp))
  have hz5 := (b5.block (w.heap.size + 1) (by omega)).trans hz3
  have t5 := t3.step b5
  have CS5 := CS3.later b5
  have hs5 := b5.size
  obtain ⟨z0, z1, z2, z3, z4, z5, z6, z7⟩ := cells8 (cellsAt hz5)
  have hfz := fun j => frozen_of_row _ (w.heap.size + 1) j _ _ hz5
  clear HS hs0 hs1 hBs hBx CF tF b5 b2
  refine hK.out _ _ (cells9S CS5) (fun hHeld => ?_)
  clear hK K
  try simp only [Act.put, List.setIfInBounds_toArray, List.set_cons_zero, List.set_cons_succ]
  refine wpAnyH_ready (rs := [8]) (by kernel_rfl) (by simp) ?_
  refine AllReadyH.cons rfl (fun K hK => ?_) AllReadyH.nil
  go_simp
  refine hK.out _ _ (cells9S (cells_putS (g := w.heap.size + 1) (vs := [v0, v1, v2, v3, v4, v5, v6, v7]) CS5 (by omega))) (fun hHeld => ?_)
  clear hK K
  try simp only [Act.put, List.setIfInBounds_toArray, List.set_cons_zero, List.set_cons_succ]
  refine wpAnyH_done (by kernel_rfl) ?_ _
  go_wp2
  refine bodyPost_ret (v := .agg #[v0, v1, v2, v3, v4, v5, v6, v7])
    (by simp [results, Tryz.results127, go_sem, z0, z1, z2, z3, z4, z5, z6, z7]) rfl ⟨_, rfl, ⟨fp5, Ow.kept (w' := put w5 (w.heap.size + 1) 0 [v0, v1, v2, v3, v4, v5, v6, v7]) o5 fun f hf => (put_chg (w.heap.size + 1) [v0, v1, v2, v3, v4, v5, v6, v7] w5 0).block f ?_, fun f hf => ?_⟩, ?_⟩
  · have := hf5 f hf; simp; omega
  · have := hf5 f hf; omega
  · exact t5.trans ((put_chg (w.heap.size + 1) [v0, v1, v2, v3, v4, v5, v6, v7] w5 0).below fun f hf => by simp at hf; omega)
set_option maxHeartbeats 8000000 in
theorem implTop_calls {cs : List Value} {p : ProgD} {w : World} {v vx : Value} {us xs : List Int} (h : Rd.R w cs p) (gx : RdL w [v] us) (gy : RdL w [vx] xs) :
    Calls Tryz.prog 39 #[.agg cs.toArray, v, vx] w fun e w' => ∃ cs', e = .returned (.agg cs'.toArray) ∧ Own w.heap.size w' cs' (topD p us xs) ∧ Below w.heap.size w w' := by
  obtain ⟨p0, p1, p2, p3, p4, p5, p6, p7, rfl⟩ := list8 (Rd.len h)
  have t0 : Below w.heap.size w ((w.alloc (.cells #[p0, p1, p2, p3, p4, p5, p6, p7] 30)).alloc (.cells #[.int .i64 0, .slice none 0 0, .slice none 0 0, .bool false, .slice none 0 0, .slice none 0 0, .slice none 0 0, .slice none 0 0] 30)) := ((Below.refl _ _).alloc (by simp) _).alloc (by simp) _
  have hb0 := alloc_block (w.alloc (.cells #[p0, p1, p2, p3, p4, p5, p6, p7] 30)) #[.int .i64 0, .slice none 0 0, .slice none 0 0, .bool false, .slice none 0 0, .slice none 0 0, .slice none 0 0, .slice none 0 0] 30
  rw [World.size_alloc] at hb0
  have hzs : ((w.alloc (.cells #[p0, p1, p2, p3, p4, p5, p6, p7] 30)).alloc (.cells #[.int .i64 0, .slice none 0 0, .slice none 0 0, .bool false, .slice none 0 0, .slice none 0 0, .slice none 0 0, .slice none 0 0] 30)).heap.size = w.heap.size + 2 := by simp
  cases hA : atB p us
  · go_enter Tryz.func39, Tryz.ntmps39
    go_wp2_with fail
    have HC := Lib.hid (topD_no (xs := xs) (splB_at hA))
    refine (splitBy_no (Rd.mono t0 h) (Rd.mono (α := List Int) t0 gx) hA).mono ?_
    rintro e w1 ⟨rfl, b1⟩
    have hb1 := (b1.block (w.heap.size + 1) (by omega)).trans hb0
    have hz1 := b1.size
    have hb2 := (Below.heap_alloc w1 (.cells #[.int .i64 0, .slice none 0 0, .slice none 0 0, .bool false, .slice none 0 0, .slice none 0 0, .slice none 0 0, .slice none 0 0, .int .u16 0] 145) (w.heap.size + 1) (by omega)).trans hb1
    obtain ⟨z0, z1, z2, z3, z4, z5, z6, z7⟩ := cells8 (cellsAt hb2)
    have hfz := fun j => frozen_of_row _ (w.heap.size + 1) j _ _ hb2
    have t1 := (t0.step b1).alloc (t0.step b1).size (.cells #[.int .i64 0, .slice none 0 0, .slice none 0 0, .bool false, .slice none 0 0, .slice none 0 0, .slice none 0 0, .slice none 0 0, .int .u16 0] 145)
    clear hb0 hb1 b1 hA
    go_wp2
    exact bodyPost_ret (v := .agg #[.int .i64 0, .slice none 0 0, .slice none 0 0, .bool false, .slice none 0 0, .slice none 0 0, .slice none 0 0, .slice none 0 0])
      (by simp [results, Tryz.results39, go_sem, z0, z1, z2, z3, z4, z5, z6, z7]) rfl ⟨_, rfl, by rw [HC.out]; exact own_zero _ _, by
      repeat (refine Below.setCell ?_ (by simp; try omega) _)
      exact t1⟩
  · go_enter Tryz.func39, Tryz.ntmps39
    go_wp2_with fail
    refine (splitBy_yes (Rd.mono t0 h) (Rd.mono (α := List Int) t0 gx) hA).mono ?_
    rintro e w1 ⟨x0, x1, x2, x3, x4, x5, x6, x7, rfl, o1, b1⟩
    rw [hzs] at o1
    have hz1 : w.heap.size + 2 ≤ w1.heap.size := by have := b1.size; omega
    have hb1 := (b1.block (w.heap.size + 1) (by omega)).trans hb0
    have l1 := Rd.one o1.rd
    have st0 := sto Tryz.prog (l1 x0 (by simp))
    have st1 := sto Tryz.prog (l1 x1 (by simp))
    have st2 := sto Tryz.prog (l1 x2 (by simp))
    have st3 := sto Tryz.prog (l1 x3 (by simp))
    have st4 := sto Tryz.prog (l1 x4 (by simp))
    have st5 := sto Tryz.prog (l1 x5 (by simp))
    have st6 := sto Tryz.prog (l1 x6 (by simp))
    have st7 := sto Tryz.prog (l1 x7 (by simp))
    have tS := (Below.refl w1.heap.size w1).alloc (Nat.le_refl _) (.cells #[x0, x1, x2, x3, x4, x5, x6, x7, .int .u16 (maskOf us : Int)] 145)
    have t2 := (t0.step b1).step tS
    have hb2 := (tS.block (w.heap.size + 1) (by omega)).trans hb1
    have CS := Cells.new w1 [x0, x1, x2, x3, x4, x5, x6, x7, .int .u16 (maskOf us : Int)] 145
    have o2 := o1.later tS
    have zS : (w1.alloc (.cells #[x0, x1, x2, x3, x4, x5, x6, x7, .int .u16 (maskOf us : Int)] 145)).heap.size = w1.heap.size + 1 := World.size_alloc _ _
    clear hb0 hb1 b1 l1 t0 tS
    obtain ⟨y0, y1, y2, y3, y4, y5, y6, y7, y8⟩ := cells9S CS
    cases hS : splB p us
    · have HC := Lib.hid (topD_no (xs := xs) hS)
      obtain ⟨z0, z1, z2, z3, z4, z5, z6, z7⟩ := cells8 (cellsAt hb2)
      have hfz := fun j => frozen_of_row _ (w.heap.size + 1) j _ _ hb2
      clear hA o1 o2 hb2 hS CS y0 y1 y2 y3 y4 y5 y6 y7 y8
      go_wp2
      exact bodyPost_ret (v := .agg #[.int .i64 0, .slice none 0 0, .slice none 0 0, .bool false, .slice none 0 0, .slice none 0 0, .slice none 0 0, .slice none 0 0])
        (by simp [results, Tryz.results39, go_sem, z0, z1, z2, z3, z4, z5, z6, z7]) rfl ⟨_, rfl, by rw [HC.out]; exact own_zero _ _, by
        repeat (refine Below.setCell ?_ (by simp; try omega) _)
        exact t2⟩
    · have HC := Lib.hid (topD_yes (xs := xs) hS)
      have hok : progOkB (foldD p) = true := foldR_ok (splB_fold hS)
      obtain ⟨q, hq⟩ : ∃ q, q = foldD p := ⟨_, rfl⟩
      rw [← hq] at HC hok o2
      clear hq
      obtain ⟨d1, d2, d4, d5, d6, d7, he, -⟩ := o2.rd
      simp only [List.cons.injEq, and_true] at he
      obtain ⟨rfl, rfl, rfl, rfl, rfl, rfl, rfl, rfl⟩ := he
      obtain ⟨axx, cxx, rfl, _, hxx⟩ := gy.sl
      have hmx := maskOf_lt xs
      have hu : IsP us := progOk_len (atB_fold hA).2 (progOk_atoms (foldR_ok (atB_fold hA).1))
      go_upto_region 4 with fail
      have CSd := CS.drew
      have t2 := t2.drew
      have o2 := o2.drew
      have hb2d : (w1.alloc (.cells #[.int .i64 q.atoms, x1, x2, .bool q.projOn, x4, x5, x6, x7, .int .u16 (maskOf us : Int)] 145)).drew.heap[w.heap.size + 1]? = _ := hb2
      have zSd : w1.heap.size + 1 ≤ (w1.alloc (.cells #[.int .i64 q.atoms, x1, x2, .bool q.projOn, x4, x5, x6, x7, .int .u16 (maskOf us : Int)] 145)).drew.heap.size := Nat.le_of_eq zS.symm
      have hxi := (hxx.later t2).ints
      clear y0 y1 y2 y3 y4 y5 y6 y7 y8 CS hb2 zS o1 gx
      refine wp_region_held_drew (S := fun W' => W'.cell? ⟨w1.heap.size, 0, none⟩ = some (.int .i64 q.atoms) ∧ W'.cell? ⟨w1.heap.size, 1, none⟩ = some x1 ∧ W'.cell? ⟨w1.heap.size, 2, none⟩ = some x2 ∧ W'.cell? ⟨w1.heap.size, 3, none⟩ = some (.bool q.projOn) ∧ W'.cell? ⟨w1.heap.size, 4, none⟩ = some x4 ∧ W'.cell? ⟨w1.heap.size, 5, none⟩ = some x5 ∧ W'.cell? ⟨w1.heap.size, 6, none⟩ = some x6 ∧ W'.cell? ⟨w1.heap.size, 7, none⟩ = some x7 ∧ W'.cell? ⟨w1.heap.size, 8, none⟩ = some (.int .u16 (maskOf us : Int))) (by kernel_rfl) (cells9S CSd) (fun hHeld => ?_)
      generalize (w1.alloc (.cells #[.int .i64 q.atoms, x1, x2, .bool q.projOn, x4, x5, x6, x7, .int .u16 (maskOf us : Int)] 145)).drew = W at *
      refine takeD (i := 0) (v := .agg #[.int .i64 q.atoms, x1, x2, .bool q.projOn, x4, x5, x6, x7, .int .u16 (maskOf us : Int)]) (some 18) rfl rfl (by kernel_rfl) (by kernel_rfl) (by kernel_rfl) (fun _ _ _ h => h) (Or.inl ⟨by rfl, fun w' hw' => ?_⟩) hHeld ?_
      · first | (go_simp; done) | (obtain ⟨s0, s1, s2, s3, s4, s5, s6, s7, s8⟩ := hw'; go_simp; done)
      try simp only [Act.put, List.setIfInBounds_toArray, List.set_cons_zero, List.set_cons_succ]
      refine takeD (i := 1) (v := .slice axx xs.length cxx) (some 19) rfl rfl (by kernel_rfl) (by kernel_rfl) (by kernel_rfl) (fun _ _ _ h => h) (Or.inl ⟨by rfl, fun w' hw' => ?_⟩) hHeld ?_
      · first | (go_simp; done) | (obtain ⟨s0, s1, s2, s3, s4, s5, s6, s7, s8⟩ := hw'; go_simp; done)
      try simp only [Act.put, List.setIfInBounds_toArray, List.set_cons_zero, List.set_cons_succ]
      refine wpAnyH_ready (rs := [2]) (by kernel_rfl) (by simp) ?_
      refine AllReadyH.cons rfl (fun K hK => ?_) AllReadyH.nil
      go_simp
      refine (atomsIn_calls _ _ _ _ hxi).mono ?_
      rintro e w' ⟨rfl, rfl⟩
      refine hK.out _ _ (cells9S CSd) (fun hHeld => ?_)
      clear hK K
      try simp only [Act.put, List.setIfInBounds_toArray, List.set_cons_zero, List.set_cons_succ]
      refine wpAnyH_ready (rs := [3]) (by kernel_rfl) (by simp) ?_
      refine AllReadyH.cons rfl (fun K hK => ?_) AllReadyH.nil
      go_simp
      refine (top_calls o2 (by omega) hok hu).mono ?_
      rintro e w5 ⟨cs5, rfl, o5, b5⟩
      obtain ⟨v0, v1, v2, v3, v4, v5, v6, v7, rfl⟩ := list8 (Rd.len o5.rd)
      have l5 := Rd.one o5.rd
      have sv0 := sto Tryz.prog (l5 v0 (by simp))
      have sv1 := sto Tryz.prog (l5 v1 (by simp))
      have sv2 := sto Tryz.prog (l5 v2 (by simp))
      have sv3 := sto Tryz.prog (l5 v3 (by simp))
      have sv4 := sto Tryz.prog (l5 v4 (by simp))
      have sv5 := sto Tryz.prog (l5 v5 (by simp))
      have sv6 := sto Tryz.prog (l5 v6 (by simp))
      have sv7 := sto Tryz.prog (l5 v7 (by simp))
      have hz5 := (b5.block (w.heap.size + 1) (by omega)).trans hb2d
      obtain ⟨z0, z1, z2, z3, z4, z5, z6, z7⟩ := cells8 (cellsAt hz5)
      have hfz := fun j => frozen_of_row _ (w.heap.size + 1) j _ _ hz5
      have O5 := Lib.hid o5
      have T5 := Lib.hid (t2.step b5)
      have CS5 := CSd.later b5
      clear o5 b5 hz5 hb2d o2 l5 t2 hA hS CSd
      refine hK.out _ _ (cells9S CS5) (fun hHeld => ?_)
      clear hK K
      try simp only [Act.put, List.setIfInBounds_toArray, List.set_cons_zero, List.set_cons_succ]
      refine wpAnyH_ready (rs := [4]) (by kernel_rfl) (by simp) ?_
      refine AllReadyH.cons rfl (fun K hK => ?_) AllReadyH.nil
      go_simp
      refine hK.out _ _ (cells9S (cells_putS (g := w.heap.size + 1) (vs := [v0, v1, v2, v3, v4, v5, v6, v7]) CS5 (by omega))) (fun hHeld => ?_)
      clear hK K
      try simp only [Act.put, List.setIfInBounds_toArray, List.set_cons_zero, List.set_cons_succ]
      refine wpAnyH_done (by kernel_rfl) ?_ _
      go_wp2
      refine bodyPost_ret (v := .agg #[v0, v1, v2, v3, v4, v5, v6, v7])
        (by simp [results, Tryz.results39, go_sem, z0, z1, z2, z3, z4, z5, z6, z7]) rfl ⟨_, rfl, ?_, ?_⟩
      · rw [HC.out]
        obtain ⟨fp, hO, hl⟩ := O5.out
        exact ⟨fp, Ow.kept (w' := put w5 (w.heap.size + 1) 0 [v0, v1, v2, v3, v4, v5, v6, v7]) hO fun f hf => (put_chg (w.heap.size + 1) [v0, v1, v2, v3, v4, v5, v6, v7] w5 0).block f (by have := hl f hf; simp; omega), fun f hf => by have := hl f hf; omega⟩
      · exact T5.out.trans ((put_chg (w.heap.size + 1) [v0, v1, v2, v3, v4, v5, v6, v7] w5 0).below fun f hf => by simp at hf; omega)

end Go.Proofs.YthikhkeofcjdfaaGreat
